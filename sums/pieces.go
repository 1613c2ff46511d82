package sums

import (
	"bytes"

	"mantle/api"
)

const entrySize = 8

// entry is a sum as it stands in a table, the lowest byte first.
func entry(sum uint64) []byte {
	b := make([]byte, entrySize)
	for i := range b {
		b[i] = byte(sum >> (8 * i))
	}
	return b
}

// pieces are a file's bytes by pieces of one length: the blocks of a file, the entries of a table. They know nothing of the file but its ReadAt.
type pieces struct {
	readAt func(at int64, n int) ([]byte, api.Errno)
	long   int
}

// read tells piece k, or as much of it as there is. The bytes that the file tells are the file's: the next read may put others there.
func (p pieces) read(k int64) ([]byte, api.Errno) {
	b, e := p.readAt(k*int64(p.long), p.long)
	if e != api.OK {
		return nil, e
	}
	return bytes.Clone(b[:min(len(b), p.long)]), api.OK
}
