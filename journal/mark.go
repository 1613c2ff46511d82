package journal

import (
	"mantle/api"
	"mantle/face"
)

// markSize is how many bytes a log has ahead of its records.
const markSize = 16

// sign is the end of a mark. It is written behind the number: a mark that was torn has not all of it.
const sign = "MANTLE\x0d\x01"

// mark is the beginning of a log whose records are all there.
type mark [markSize]byte

func markOf(long int) (m mark) {
	copy(m[:], appendNumber(nil, uint64(long), 8))
	copy(m[8:], sign)
	return m
}

// markIn is what stands in a log of this size where its mark would be; all noughts, if it has not so many bytes.
func markIn(log *face.Handle, size int64) (m mark, e api.Errno) {
	if size < markSize {
		return mark{}, api.OK
	}
	b, e := read(log, 0, markSize)
	if e != api.OK || len(b) < markSize {
		return mark{}, e
	}
	return mark(b), api.OK
}

func (m mark) signed() bool { return string(m[8:]) == sign }

// number is how many bytes of records there are.
func (m mark) number() uint64 { return number(m[:8]) }

// appendNumber puts the lowest bytes of n behind b, so many, the highest of them first.
func appendNumber(b []byte, n uint64, long int) []byte {
	for i := long - 1; i >= 0; i-- {
		b = append(b, byte(n>>(8*i)))
	}
	return b
}

// number is the number whose bytes these are, the highest first.
func number(b []byte) (n uint64) {
	for _, x := range b {
		n = n<<8 | uint64(x)
	}
	return n
}
