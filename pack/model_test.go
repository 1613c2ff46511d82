package pack_test

import (
	"bytes"
	"encoding/binary"
	"slices"

	"mantle/api"
)

// nearest is the least d of the matches of so many bytes that could stand at a place; 0, if none could.
func nearest(b []byte, at, long int) int {
	if long > 130 || at+long > len(b) {
		return 0
	}
	for d := 1; d <= min(255, at); d++ {
		if bytes.Equal(b[at:at+long], b[at-d:at-d+long]) {
			return d
		}
	}
	return 0
}

// matchAt is the longest match at a place, and of several the one with the least d. (Where none of so many bytes could stand, no longer one could.)
func matchAt(b []byte, at int) (long, d int) {
	for next := 3; nearest(b, at, next) > 0; next++ {
		long, d = next, nearest(b, at, next)
	}
	return long, d
}

// packed is P11.1 on paper, word for word.
func packed(b []byte) []byte {
	out := four(len(b))
	var run []byte
	end := func() {
		if len(run) > 0 {
			out = append(out, byte(len(run)-1))
			out = append(out, run...)
		}
		run = nil
	}
	for at := 0; at < len(b); {
		if long, d := matchAt(b, at); long > 0 {
			end()
			out = append(out, byte(125+long), byte(d))
			at += long
			continue
		}
		run = append(run, b[at])
		at++
		if len(run) == 128 {
			end()
		}
	}
	end()
	return out
}

// four are the four bytes that say n.
func four(n int) []byte { return binary.BigEndian.AppendUint32(nil, uint32(n)) }

// piece is a run, or, if it has no bytes, a match.
type piece struct {
	run     []byte
	long, d int
}

// piecesOf are the pieces of what stands behind the four bytes; ok is false, if the last one lacks bytes.
func piecesOf(b []byte) (l []piece, ok bool) {
	for len(b) > 0 {
		c := int(b[0])
		if c >= 128 && len(b) < 2 || c < 128 && len(b) < c+2 {
			return l, false
		}
		if c >= 128 {
			l = append(l, piece{long: c - 125, d: int(b[1])})
			b = b[2:]
			continue
		}
		l = append(l, piece{run: b[1 : c+2]})
		b = b[c+2:]
	}
	return l, true
}

// unpacked is P11.2 on paper, word for word.
func unpacked(b []byte) ([]byte, api.Errno) {
	if len(b) < 4 {
		return nil, api.ErrPack
	}
	says := binary.BigEndian.Uint32(b)
	if says > 65536 {
		return nil, api.ErrLong
	}
	l, ok := piecesOf(b[4:])
	if !ok {
		return nil, api.ErrPack
	}
	var told []byte
	for _, p := range l {
		told = append(told, p.run...)
		if p.run == nil && (p.d == 0 || p.d > len(told)) {
			return nil, api.ErrPack
		}
		for range p.long {
			told = append(told, told[len(told)-p.d])
		}
	}
	if uint64(len(told)) != uint64(says) {
		return nil, api.ErrPack
	}
	return told, api.OK
}

// run is a run as packed bytes have it.
func run(b string) []byte { return append([]byte{byte(len(b) - 1)}, b...) }

// ones are packed bytes of n noughts, each of them a run of its own: the most that there can be.
func ones(n int) []byte { return append(four(n), make([]byte, 2*n)...) }

// counted are n bytes of a period of so many, all of which are unlike.
func counted(n, period int) []byte {
	b := make([]byte, n)
	for i := range b {
		b[i] = byte(i % period)
	}
	return b
}

// chance tells numbers that are the same at each run.
type chance uint64

func (c *chance) below(n int) int {
	*c = *c*6364136223846793005 + 1442695040888963407
	return int(uint64(*c) >> 33 % uint64(n))
}

// text is n bytes of so many kinds.
func (c *chance) text(n, kinds int) []byte {
	b := make([]byte, n)
	for i := range b {
		b[i] = byte(c.below(kinds))
	}
	return b
}

// mixed is n bytes of new ones and of such as were there, of all lengths and from all places.
func (c *chance) mixed(n int) (b []byte) {
	for len(b) < n {
		if len(b) > 0 && c.below(3) > 0 {
			d := min(1+c.below(300), len(b))
			for range c.below(200) {
				b = append(b, b[len(b)-d])
			}
		}
		b = append(b, c.text(c.below(150), 256)...)
	}
	return b[:n]
}

// piled are packed bytes of any pieces, most of which Pack would not have made, and what they stand for.
func (c *chance) piled(most int) (b, told []byte) {
	for len(told) < most {
		if len(told) > 0 && c.below(2) == 0 {
			p := piece{long: 3 + c.below(128), d: 1 + c.below(min(255, len(told)))}
			b = append(b, byte(125+p.long), byte(p.d))
			for range p.long {
				told = append(told, told[len(told)-p.d])
			}
			continue
		}
		text := c.text(1+c.below(128), 256)
		b = append(b, run(string(text))...)
		told = append(told, text...)
	}
	return append(four(len(told)), b...), told
}

// texts are bytes of all kinds: none, few and many, such as never match, match always, now and then, and at the bounds.
func texts() (l [][]byte) {
	c := chance(11)
	for _, n := range []int{0, 1, 2, 3, 4, 5, 127, 128, 129, 130, 131, 132, 133, 134, 255, 256, 257, 258, 259, 260, 384, 385, 600, 1000} {
		for _, period := range []int{1, 2, 3, 4, 128, 130, 254, 255, 256} {
			l = append(l, counted(n, period))
		}
		for _, kinds := range []int{2, 3, 5, 16, 256} {
			l = append(l, c.text(n, kinds))
		}
		l = append(l, c.mixed(n))
	}
	for _, n := range []int{65408, 65409, api.MaxText - 1, api.MaxText} {
		for _, period := range []int{1, 3, 255, 256} {
			l = append(l, counted(n, period))
		}
		l = append(l, c.text(n, 256), c.text(n, 2), c.mixed(n))
	}
	return l
}

// cat are lists one behind the other.
func cat(l ...[]byte) []byte { return slices.Concat(l...) }

// some are the first ones of a list, so that no fault is told at great length.
func some(b []byte) []byte { return b[:min(len(b), 100)] }
