package buffer_test

import (
	"math"
	"testing"

	"mantle/api"
	"mantle/span"
)

// paper is a file as a list of bytes, a byte at a time.
type paper struct {
	data  []byte
	wrote []bool
}

func (p *paper) cut(size int64) {
	for int64(len(p.data)) < size {
		p.data, p.wrote = append(p.data, 0), append(p.wrote, false)
	}
	p.data, p.wrote = p.data[:size], p.wrote[:size]
}

func (p *paper) write(at int64, b []byte) {
	p.cut(max(int64(len(p.data)), at+int64(len(b))))
	for i, x := range b {
		p.data[int(at)+i], p.wrote[int(at)+i] = x, true
	}
}

func (p *paper) next(at int64) (from, to int64) {
	size := int64(len(p.data))
	for from = max(at, 0); from < size; from++ {
		if p.wrote[from] {
			for to = from; to < size && p.wrote[to]; to++ {
			}
			return from, to
		}
	}
	return size, size
}

// refuses is the error that the file's rules answer ahead of all else.
func refuses(op api.Op) api.Errno {
	switch op.Do {
	case api.DoRead:
		if op.At < 0 || op.N < 0 {
			return api.ErrArg
		}
		if op.N > api.MaxText {
			return api.ErrLong
		}
	case api.DoWrite:
		if op.At < 0 {
			return api.ErrArg
		}
		if len(op.B) > api.MaxText || op.At > api.MaxSize || op.At+int64(len(op.B)) > api.MaxSize {
			return api.ErrLong
		}
	case api.DoCut:
		if op.At < 0 {
			return api.ErrArg
		}
		if op.At > api.MaxSize {
			return api.ErrLong
		}
	}
	return api.OK
}

// cannot is the error of an op that a file of this set is not asked.
func cannot(can uint8, op api.Op) api.Errno {
	if op.Do < 0 || op.Do > 5 {
		return api.ErrArg
	}
	if bit := [6]uint8{0, 0, 1, 2, 4, 8}[op.Do]; can&bit != bit {
		return api.ErrCan
	}
	return api.OK
}

// do is what is told of op through a file over the paper that can so much.
func (p *paper) do(can uint8, op api.Op) (told api.Told) {
	if e := cannot(can, op); e != api.OK {
		return api.Told{E: e}
	}
	if e := refuses(op); e != api.OK {
		return api.Told{E: e}
	}
	switch op.Do {
	case api.DoSize:
		told.N = int64(len(p.data))
	case api.DoRead:
		for i := op.At; i < int64(len(p.data)) && i < op.At+int64(op.N); i++ {
			told.Data = append(told.Data, p.data[i])
		}
	case api.DoWrite:
		if len(op.B) > 0 {
			p.write(op.At, op.B)
		}
	case api.DoCut:
		p.cut(op.At)
	case api.DoNext:
		told.N, told.M = p.next(op.At)
	}
	return told
}

func (p *paper) copy() *paper {
	return &paper{append([]byte(nil), p.data...), append([]bool(nil), p.wrote...)}
}

// ledger is a buffer over a paper, its gathered writes as a plain list.
type ledger struct {
	paper *paper
	can   uint8 // what the paper can
	most  int
	wait  []api.Op
	takes int       // so many writes the paper takes,
	e     api.Errno // and refuses all others by this error, if it is one
	wrote []api.Op  // what the paper was asked to write
}

// over is what a buffer can over the paper: the table's row, word for word.
func (l *ledger) over() (can uint8) {
	if l.can&api.CanWrite != 0 {
		can |= api.CanWrite
	}
	if l.can&api.CanCut != 0 {
		can |= api.CanCut
	}
	if l.can&api.CanSync != 0 || l.can&api.CanWrite != 0 {
		can |= api.CanSync
	}
	return can
}

// seen is the paper, as if all writes that wait were done to it.
func (l *ledger) seen() *paper {
	p := l.paper.copy()
	for _, op := range l.wait {
		p.write(op.At, op.B)
	}
	return p
}

func (l *ledger) write(op api.Op) api.Errno {
	l.wrote = append(l.wrote, op)
	if l.e != api.OK {
		if l.takes == 0 {
			return l.e
		}
		l.takes--
	}
	l.paper.write(op.At, op.B)
	return api.OK
}

func (l *ledger) flush() api.Errno {
	for len(l.wait) > 0 {
		if e := l.write(l.wait[0]); e != api.OK {
			return e
		}
		l.wait = l.wait[1:]
	}
	return api.OK
}

func (l *ledger) bytes() (n int) {
	for _, op := range l.wait {
		n += len(op.B)
	}
	return n
}

// put is P9.3, word for word.
func (l *ledger) put(op api.Op) api.Errno {
	if len(op.B) == 0 {
		return api.OK
	}
	if op.At+int64(len(op.B)) > int64(len(l.seen().data)) {
		if e := l.flush(); e != api.OK {
			return e
		}
		return l.write(op)
	}
	if l.bytes()+len(op.B) > l.most {
		if e := l.flush(); e != api.OK {
			return e
		}
		if len(op.B) > l.most {
			return l.write(op)
		}
	}
	l.wait = append(l.wait, op)
	return api.OK
}

// do is what is told of op through the buffer.
func (l *ledger) do(op api.Op) api.Told {
	e := cannot(l.over(), op)
	if e == api.OK {
		e = refuses(op)
	}
	if e != api.OK {
		return api.Told{E: e}
	}
	switch op.Do {
	case api.DoWrite:
		return api.Told{E: l.put(op)}
	case api.DoCut:
		if e := l.flush(); e != api.OK {
			return api.Told{E: e}
		}
		return l.paper.do(l.can, op)
	case api.DoSync:
		return api.Told{E: l.flush()}
	}
	return l.seen().do(15, op)
}

// wantState holds the bytes of a file of memory against the paper.
func (p *paper) wantState(t *testing.T, s *span.Bytes) {
	t.Helper()
	if s.Size() != int64(len(p.data)) || string(s.Get(0, api.MaxText)) != string(p.data) {
		t.Errorf("the bytes below are %q, want %q", s.Get(0, api.MaxText), p.data)
	}
	for at := int64(0); at < s.Size(); {
		from, to := s.Next(at)
		if f, e := p.next(at); from != f || to != e {
			t.Errorf("below, Next(%d) tells %d %d, want %d %d", at, from, to, f, e)
		}
		at = max(to, at+1)
	}
}

// letters are n bytes, no two near ones of which are the same.
func letters(n int) string {
	b := make([]byte, n)
	for i := range b {
		b[i] = byte('!' + i%89)
	}
	return string(b)
}

// patterned is a file of size bytes, letters and holes, by five: those are written whose bit is set.
func patterned(size int64, bits uint16) (*span.Bytes, *paper) {
	s, p := span.New(nil), &paper{}
	s.Cut(size)
	p.cut(size)
	for i, x := range []byte(letters(int(size))) {
		if bits>>(i/5%16)&1 == 1 {
			s.Put(int64(i), []byte{x})
			p.write(int64(i), []byte{x})
		}
	}
	return s, p
}

// edges are ops with numbers at the bounds of all kinds, and wrong ones. None of them makes a file of many bytes.
func edges() (l []api.Op) {
	for _, at := range []int64{math.MinInt64, -api.MaxSize, -1, 0, 1, 9, 10, 11, 39, 40, 41, 60, api.MaxSize - 40, api.MaxSize - 1, api.MaxSize, api.MaxSize + 1, math.MaxInt64 - 40, math.MaxInt64} {
		l = append(l, api.Op{Do: api.DoNext, At: at})
		for _, n := range []int{math.MinInt, -1, 0, 1, 9, 40, 41, api.MaxText, api.MaxText + 1, math.MaxInt} {
			l = append(l, api.Op{Do: api.DoRead, At: at, N: n})
		}
		for _, n := range []int{0, 1, 9, 40, 41} {
			if op := (api.Op{Do: api.DoWrite, At: at, B: []byte(letters(n))}); at < 999 || n == 0 || refuses(op) != api.OK {
				l = append(l, op)
			}
		}
		l = append(l, api.Op{Do: api.DoWrite, At: at, B: make([]byte, api.MaxText+1)})
		if at < 999 || at > api.MaxSize {
			l = append(l, api.Op{Do: api.DoCut, At: at})
		}
	}
	for _, do := range []int8{-128, -1, api.DoSize, api.DoSync, 6, 127} {
		l = append(l, api.Op{Do: do}, api.Op{Do: do, At: 2, N: 3, B: []byte("xy")}, api.Op{Do: do, At: -1, N: -1, B: []byte("x")})
	}
	return l
}

// chance tells numbers that are the same at each run.
type chance uint64

func (c *chance) below(n int) int {
	*c = *c*6364136223846793005 + 1442695040888963407
	return int(uint64(*c) >> 33 % uint64(n))
}

// place is a place of a small file, often right at a round one.
func (c *chance) place() int64 {
	if c.below(2) == 0 {
		return int64(10*c.below(6) + c.below(3) - 1)
	}
	return int64(c.below(60) - 2)
}

// op is an op with small numbers, some of them wrong; every other one is a write.
func (c *chance) op() api.Op {
	op := api.Op{Do: int8(c.below(8) - 1), At: c.place(), N: c.below(70) - 1, B: []byte(letters(c.below(14)))}
	if c.below(2) == 0 {
		op.Do = api.DoWrite
	}
	for i := range op.B { // other letters each time
		op.B[i] = byte('a' + (int(op.B[i])+c.below(3))%26)
	}
	return op
}
