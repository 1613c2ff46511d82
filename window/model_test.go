package window_test

import (
	"math"
	"testing"

	"mantle/api"
	"mantle/caps"
	"mantle/span"
)

// paper is a file as a list of bytes, a byte at a time.
type paper struct {
	data  []byte
	wrote []bool
}

func (p *paper) cut(size int64) {
	for int64(len(p.data)) < size {
		p.data, p.wrote = append(p.data, 0), append(p.wrote, false)
	}
	p.data, p.wrote = p.data[:size], p.wrote[:size]
}

func (p *paper) write(at int64, b []byte) {
	p.cut(max(int64(len(p.data)), at+int64(len(b))))
	for i, x := range b {
		p.data[int(at)+i], p.wrote[int(at)+i] = x, true
	}
}

// part is what of it lies there.
func (p *paper) part(at, n int64) *paper {
	x := &paper{}
	for i := range p.data {
		if int64(i) >= at && int64(i)-at < n {
			x.data, x.wrote = append(x.data, p.data[i]), append(x.wrote, p.wrote[i])
		}
	}
	return x
}

func (p *paper) next(at int64) (from, to int64) {
	size := int64(len(p.data))
	for from = max(at, 0); from < size; from++ {
		if p.wrote[from] {
			for to = from; to < size && p.wrote[to]; to++ {
			}
			return from, to
		}
	}
	return size, size
}

// refuses is the error that the file's rules answer ahead of all else.
func refuses(op api.Op) api.Errno {
	switch op.Do {
	case api.DoRead:
		if op.At < 0 || op.N < 0 {
			return api.ErrArg
		}
		if op.N > api.MaxText {
			return api.ErrLong
		}
	case api.DoWrite:
		if op.At < 0 {
			return api.ErrArg
		}
		if len(op.B) > api.MaxText || op.At > api.MaxSize || op.At+int64(len(op.B)) > api.MaxSize {
			return api.ErrLong
		}
	case api.DoCut:
		if op.At < 0 {
			return api.ErrArg
		}
		if op.At > api.MaxSize {
			return api.ErrLong
		}
	}
	return api.OK
}

// lens is what a handle shows of a file: from at on, n bytes, if it is a window; and what it can.
type lens struct {
	can      uint8
	windowed bool
	at, n    int64
}

// do is what is told of op through the lens.
func (p *paper) do(l lens, op api.Op) (told api.Told) {
	if op.Do < 0 || op.Do > 5 {
		return api.Told{E: api.ErrArg}
	}
	if bit := [6]uint8{0, 0, 1, 2, 4, 8}[op.Do]; l.can&bit != bit {
		return api.Told{E: api.ErrCan}
	}
	if e := refuses(op); e != api.OK {
		return api.Told{E: e}
	}
	seen := p
	if l.windowed {
		seen = p.part(l.at, l.n)
	}
	switch op.Do {
	case api.DoSize:
		told.N = int64(len(seen.data))
	case api.DoRead:
		for i := op.At; i < int64(len(seen.data)) && i < op.At+int64(op.N); i++ {
			told.Data = append(told.Data, seen.data[i])
		}
	case api.DoWrite:
		if l.windowed && len(op.B) > 0 && op.At+int64(len(op.B)) > l.n {
			return api.Told{E: api.ErrLong}
		}
		if len(op.B) > 0 {
			p.write(l.at+op.At, op.B)
		}
	case api.DoCut:
		p.cut(op.At)
	case api.DoNext:
		told.N, told.M = seen.next(op.At)
	}
	return told
}

// wantState holds the bytes of a file of memory against the paper.
func (p *paper) wantState(t *testing.T, s *span.Bytes) {
	t.Helper()
	if s.Size() != int64(len(p.data)) || string(s.Get(0, api.MaxText)) != string(p.data) {
		t.Errorf("the bytes below are %q, want %q", s.Get(0, api.MaxText), p.data)
	}
	for at := range int64(len(p.data)) + 1 {
		from, to := s.Next(at)
		if f, e := p.next(at); from != f || to != e {
			t.Errorf("below, Next(%d) tells %d %d, want %d %d", at, from, to, f, e)
		}
	}
}

// patterned is a file of size bytes, of which those are written whose bit is set.
func patterned(size int64, bits int) (*span.Bytes, *paper) {
	s, p := span.New(nil), &paper{}
	s.Cut(size)
	p.cut(size)
	for i := range size {
		if bits>>i&1 == 1 {
			b := []byte{byte('a' + i)}
			s.Put(i, b)
			p.write(i, b)
		}
	}
	return s, p
}

// holed is abc, a hole of two bytes, fg, a hole of three.
func holed() (*span.Bytes, *paper) { return patterned(10, 0b1100111) }

// over is the lens of a window over a file that can so much.
func over(t *testing.T, can uint8, at, n int64) lens {
	t.Helper()
	can, e := caps.Over(api.Wrap{Kind: api.WrapWindow}, []uint8{can})
	if e != api.OK {
		t.Fatal(e)
	}
	return lens{can: can, windowed: true, at: at, n: n}
}

// edges are ops with numbers at the bounds of all kinds, and wrong ones.
func edges() (l []api.Op) {
	for _, at := range []int64{math.MinInt64, -api.MaxSize, -1, 0, 1, 2, 3, 4, 5, 6, 9, 10, 11, 30, api.MaxText, api.MaxText + 1,
		api.MaxSize - 5, api.MaxSize - 1, api.MaxSize, api.MaxSize + 1, math.MaxInt64 - 5, math.MaxInt64 - 1, math.MaxInt64} {
		l = append(l, api.Op{Do: api.DoNext, At: at})
		for _, n := range []int{math.MinInt, -1, 0, 1, 2, 9, api.MaxText, api.MaxText + 1, math.MaxInt} {
			l = append(l, api.Op{Do: api.DoRead, At: at, N: n})
		}
		for _, b := range []string{"", "!", "!?", "!?#%&"} {
			l = append(l, api.Op{Do: api.DoWrite, At: at, B: []byte(b)})
		}
		l = append(l, api.Op{Do: api.DoWrite, At: at, B: make([]byte, api.MaxText+1)})
	}
	for _, do := range []int8{-128, -1, api.DoSize, api.DoCut, api.DoSync, 6, 127} {
		l = append(l, api.Op{Do: do}, api.Op{Do: do, At: 2, N: 3, B: []byte("xy")}, api.Op{Do: do, At: -1, N: -1, B: []byte("x")})
	}
	return l
}

// chance tells numbers that are the same at each run.
type chance uint64

func (c *chance) below(n int) int {
	*c = *c*6364136223846793005 + 1442695040888963407
	return int(uint64(*c) >> 33 % uint64(n))
}

// op is an op with small numbers, some of them wrong.
func (c *chance) op() api.Op {
	b := []byte("ABCDEFGH")[:c.below(9)]
	return api.Op{Do: int8(c.below(8) - 1), At: int64(c.below(26) - 2), N: c.below(14) - 1, B: b}
}
