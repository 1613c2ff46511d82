package tee_test

import (
	"math"
	"testing"

	"mantle/api"
	"mantle/span"
)

// paper is a file as a list of bytes, a byte at a time.
type paper struct {
	data  []byte
	wrote []bool
}

func (p *paper) cut(size int64) {
	for int64(len(p.data)) < size {
		p.data, p.wrote = append(p.data, 0), append(p.wrote, false)
	}
	p.data, p.wrote = p.data[:size], p.wrote[:size]
}

func (p *paper) write(at int64, b []byte) {
	p.cut(max(int64(len(p.data)), at+int64(len(b))))
	for i, x := range b {
		p.data[int(at)+i], p.wrote[int(at)+i] = x, true
	}
}

func (p *paper) next(at int64) (from, to int64) {
	size := int64(len(p.data))
	for from = max(at, 0); from < size; from++ {
		if p.wrote[from] {
			for to = from; to < size && p.wrote[to]; to++ {
			}
			return from, to
		}
	}
	return size, size
}

// refuses is the error that the file's rules answer ahead of all else.
func refuses(op api.Op) api.Errno {
	switch op.Do {
	case api.DoRead:
		if op.At < 0 || op.N < 0 {
			return api.ErrArg
		}
		if op.N > api.MaxText {
			return api.ErrLong
		}
	case api.DoWrite:
		if op.At < 0 {
			return api.ErrArg
		}
		if len(op.B) > api.MaxText || op.At > api.MaxSize || op.At+int64(len(op.B)) > api.MaxSize {
			return api.ErrLong
		}
	case api.DoCut:
		if op.At < 0 {
			return api.ErrArg
		}
		if op.At > api.MaxSize {
			return api.ErrLong
		}
	}
	return api.OK
}

// cannot is the error of an op that a file of this set is not asked.
func cannot(can uint8, op api.Op) api.Errno {
	if op.Do < 0 || op.Do > 5 {
		return api.ErrArg
	}
	if bit := [6]uint8{0, 0, 1, 2, 4, 8}[op.Do]; can&bit != bit {
		return api.ErrCan
	}
	return api.OK
}

// do is what is told of op through a file over the paper that can so much.
func (p *paper) do(can uint8, op api.Op) (told api.Told) {
	if e := cannot(can, op); e != api.OK {
		return api.Told{E: e}
	}
	if e := refuses(op); e != api.OK {
		return api.Told{E: e}
	}
	switch op.Do {
	case api.DoSize:
		told.N = int64(len(p.data))
	case api.DoRead:
		for i := op.At; i < int64(len(p.data)) && i < op.At+int64(op.N); i++ {
			told.Data = append(told.Data, p.data[i])
		}
	case api.DoWrite:
		if len(op.B) > 0 {
			p.write(op.At, op.B)
		}
	case api.DoCut:
		p.cut(op.At)
	case api.DoNext:
		told.N, told.M = p.next(op.At)
	}
	return told
}

// couple is two papers, perhaps the same one, and what a tee over them can.
type couple struct {
	first, mirror *paper
	can           uint8
}

// do is what is told of op through the tee: what can be told of the first paper, what is changed in both.
func (c couple) do(op api.Op) api.Told {
	if cannot(c.can, op) == api.OK && (op.Do == api.DoWrite || op.Do == api.DoCut) {
		c.mirror.do(15, op)
	}
	return c.first.do(c.can, op)
}

// wantState holds the bytes of a file of memory against the paper.
func (p *paper) wantState(t *testing.T, s *span.Bytes) {
	t.Helper()
	if s.Size() != int64(len(p.data)) || string(s.Get(0, api.MaxText)) != string(p.data) {
		t.Errorf("the bytes below are %q, want %q", s.Get(0, api.MaxText), p.data)
	}
	for at := range int64(len(p.data)) + 1 {
		from, to := s.Next(at)
		if f, e := p.next(at); from != f || to != e {
			t.Errorf("below, Next(%d) tells %d %d, want %d %d", at, from, to, f, e)
		}
	}
}

// patterned is a file of size bytes, from the letter on, of which those are written whose bit is set.
func patterned(letter byte, size int64, bits int) (*span.Bytes, *paper) {
	s, p := span.New(nil), &paper{}
	s.Cut(size)
	p.cut(size)
	for i := range size {
		if bits>>i&1 == 1 {
			b := []byte{letter + byte(i)}
			s.Put(i, b)
			p.write(i, b)
		}
	}
	return s, p
}

// edges are ops with numbers at the bounds of all kinds, and wrong ones. None of them makes a file of many bytes.
func edges() (l []api.Op) {
	for _, at := range []int64{math.MinInt64, -api.MaxSize, -1, 0, 1, 2, 4, 5, 6, 7, 8, 9, 30, api.MaxSize - 1, api.MaxSize, api.MaxSize + 1, math.MaxInt64 - 5, math.MaxInt64} {
		l = append(l, api.Op{Do: api.DoNext, At: at})
		for _, n := range []int{math.MinInt, -1, 0, 1, 2, 9, api.MaxText, api.MaxText + 1, math.MaxInt} {
			l = append(l, api.Op{Do: api.DoRead, At: at, N: n})
		}
		for _, b := range []string{"", "!", "!?", "!?#%&"} {
			if op := (api.Op{Do: api.DoWrite, At: at, B: []byte(b)}); at < 99 || b == "" || refuses(op) != api.OK {
				l = append(l, op)
			}
		}
		l = append(l, api.Op{Do: api.DoWrite, At: at, B: make([]byte, api.MaxText+1)})
		if at < 99 || at > api.MaxSize {
			l = append(l, api.Op{Do: api.DoCut, At: at})
		}
	}
	for _, do := range []int8{-128, -1, api.DoSize, api.DoSync, 6, 127} {
		l = append(l, api.Op{Do: do}, api.Op{Do: do, At: 2, N: 3, B: []byte("xy")}, api.Op{Do: do, At: -1, N: -1, B: []byte("x")})
	}
	return l
}

// chance tells numbers that are the same at each run.
type chance uint64

func (c *chance) below(n int) int {
	*c = *c*6364136223846793005 + 1442695040888963407
	return int(uint64(*c) >> 33 % uint64(n))
}

// op is an op with small numbers, some of them wrong.
func (c *chance) op() api.Op {
	b := []byte("ABCDEFGH")[:c.below(9)]
	return api.Op{Do: int8(c.below(8) - 1), At: int64(c.below(20) - 2), N: c.below(14) - 1, B: b}
}
