package disk

import (
	"bytes"

	"mantle/api"
)

// blockBytes are the bytes of one block.
type blockBytes [api.BlockSize]byte

// leastBlocks are a head and a map.
const leastBlocks = 2

// firstData is the first data block of a disk of so many blocks: the map has a bit for each, and the head stands ahead of it.
func firstData(blocks int) int {
	const bits = 8 * api.BlockSize
	return 1 + (blocks+bits-1)/bits
}

// place is where a block begins in the file.
func place(k int) int64 { return int64(k) * api.BlockSize }

// marksPlace is where the byte of the map stands that has a block's bit.
func marksPlace(k int) int64 { return place(1) + int64(k/8) }

// headOf is the head of a disk of so many blocks.
func headOf(blocks int) (h blockBytes) {
	copy(h[:], "MDSK")
	h[4], h[5] = byte(blocks>>8), byte(blocks)
	s := sum(h[:60])
	h[60], h[61], h[62], h[63] = byte(s>>24), byte(s>>16), byte(s>>8), byte(s)
	return h
}

func sum(b []byte) uint32 {
	s := uint32(2166136261)
	for _, x := range b {
		s ^= uint32(x)
		s *= 16777619
	}
	return s
}

// blank is all bytes of a disk of so many blocks of which no data block is taken.
func blank(blocks int) []byte {
	b := make([]byte, place(blocks))
	head := headOf(blocks)
	copy(b, head[:])
	m := bitmap(b[place(1):])
	for k := range firstData(blocks) {
		m.take(k)
	}
	return b
}

// count tells how many blocks the head says; ErrDisk, if it is no head.
func count(f api.File) (int, api.Errno) {
	b, e := read(f, 0, api.BlockSize)
	if e != api.OK {
		return 0, e
	}
	if len(b) < api.BlockSize {
		return 0, api.ErrDisk
	}
	head := blockBytes(b)
	blocks := int(head[4])<<8 | int(head[5])
	if blocks < leastBlocks || blocks > api.MaxBlocks || head != headOf(blocks) {
		return 0, api.ErrDisk
	}
	return blocks, api.OK
}

// read reads at most n bytes, into new memory, as the file may keep those that it tells.
func read(f api.File, at int64, n int) ([]byte, api.Errno) {
	b, e := f.ReadAt(at, n)
	if e != api.OK {
		return nil, e
	}
	return bytes.Clone(b[:min(len(b), n)]), api.OK
}

// readTaken reads a block that must be taken, and the byte of the map that has its bit. Both are read ahead of asking whether they are there, for a read's error comes first.
func readTaken(f api.File, k int) (b []byte, marks byte, e api.Errno) {
	b, e = read(f, place(k), api.BlockSize)
	if e != api.OK {
		return nil, 0, e
	}
	m, e := read(f, marksPlace(k), 1)
	switch {
	case e != api.OK:
		return nil, 0, e
	case len(b) < api.BlockSize || len(m) < 1:
		return nil, 0, api.ErrDisk
	case m[0]&bit(k) == 0:
		return nil, 0, api.ErrNone
	}
	return b, m[0], api.OK
}

// writeBlock writes bytes to a block, and noughts up to its end.
func writeBlock(w api.Writer, k int, b []byte) api.Errno {
	var all blockBytes
	copy(all[:], b)
	return w.WriteAt(place(k), all[:])
}

// writeMarks writes the byte of the map that has a block's bit.
func writeMarks(w api.Writer, k int, marks byte) api.Errno {
	return w.WriteAt(marksPlace(k), []byte{marks})
}
