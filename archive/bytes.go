package archive

import (
	"mantle/api"
	"mantle/sums"
)

const (
	mark    = "MTA1"
	endSign = 0xFF // where an item has its kind

	pathLong  = 2 // bytes that tell how long a Path is
	dataLong  = 4 // the same of Data
	countLong = 4
	sumLong   = 8

	sumFactor = 1099511628211 // chapter 10's
)

func appendItem(out []byte, x api.Item) []byte {
	from := len(out)
	out = append(out, byte(x.Kind))
	out = appendTwice(out, len(x.Path), pathLong)
	out = append(out, x.Path...)
	out = appendTwice(out, len(x.Data), dataLong)
	out = append(out, x.Data...)
	return appendNumber(out, sums.Sum(out[from:]), sumLong)
}

func appendEnd(out []byte, count int) []byte {
	out = append(out, endSign)
	out = appendNumber(out, uint64(count), countLong)
	return appendNumber(out, sums.Sum(out), sumLong)
}

// appendTwice tells a length in n bytes, and again by what is left up to the greatest number that they can tell.
func appendTwice(out []byte, long, n int) []byte {
	out = appendNumber(out, uint64(long), n)
	return appendNumber(out, ^uint64(long), n)
}

// appendNumber tells the lowest n bytes of x, the highest of them first.
func appendNumber(out []byte, x uint64, n int) []byte {
	for i := n - 1; i >= 0; i-- {
		out = append(out, byte(x>>(8*i)))
	}
	return out
}

// number is what appendNumber told.
func number(b []byte) (x uint64) {
	for _, c := range b {
		x = x<<8 | uint64(c)
	}
	return x
}

// twice is the length that appendTwice told, or -1 if its halves do not fit.
func twice(b []byte) int {
	half := len(b) / 2
	long, rest := number(b[:half]), number(b[half:])
	if long+rest != 1<<(8*half)-1 {
		return -1
	}
	return int(long)
}

// onward is the sum of bytes and of those ahead of them, of which only the sum is there: sums.Sum would want all of them to be kept.
func onward(sum uint64, b []byte) uint64 {
	for _, x := range b {
		sum = (sum ^ uint64(x)) * sumFactor
	}
	return sum
}
