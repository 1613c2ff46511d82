package cache_test

import (
	"math"
	"slices"
	"testing"

	"mantle/api"
	"mantle/span"
)

// paper is a file as a list of bytes, a byte at a time.
type paper struct {
	data  []byte
	wrote []bool
}

func (p *paper) cut(size int64) {
	for int64(len(p.data)) < size {
		p.data, p.wrote = append(p.data, 0), append(p.wrote, false)
	}
	p.data, p.wrote = p.data[:size], p.wrote[:size]
}

func (p *paper) write(at int64, b []byte) {
	p.cut(max(int64(len(p.data)), at+int64(len(b))))
	for i, x := range b {
		p.data[int(at)+i], p.wrote[int(at)+i] = x, true
	}
}

func (p *paper) next(at int64) (from, to int64) {
	size := int64(len(p.data))
	for from = max(at, 0); from < size; from++ {
		if p.wrote[from] {
			for to = from; to < size && p.wrote[to]; to++ {
			}
			return from, to
		}
	}
	return size, size
}

// refuses is the error that the file's rules answer ahead of all else.
func refuses(op api.Op) api.Errno {
	switch op.Do {
	case api.DoRead:
		if op.At < 0 || op.N < 0 {
			return api.ErrArg
		}
		if op.N > api.MaxText {
			return api.ErrLong
		}
	case api.DoWrite:
		if op.At < 0 {
			return api.ErrArg
		}
		if len(op.B) > api.MaxText || op.At > api.MaxSize || op.At+int64(len(op.B)) > api.MaxSize {
			return api.ErrLong
		}
	case api.DoCut:
		if op.At < 0 {
			return api.ErrArg
		}
		if op.At > api.MaxSize {
			return api.ErrLong
		}
	}
	return api.OK
}

// cannot is the error of an op that a file of this set is not asked.
func cannot(can uint8, op api.Op) api.Errno {
	if op.Do < 0 || op.Do > 5 {
		return api.ErrArg
	}
	if bit := [6]uint8{0, 0, 1, 2, 4, 8}[op.Do]; can&bit != bit {
		return api.ErrCan
	}
	return api.OK
}

// do is what is told of op through a file over the paper that can so much.
func (p *paper) do(can uint8, op api.Op) (told api.Told) {
	if e := cannot(can, op); e != api.OK {
		return api.Told{E: e}
	}
	if e := refuses(op); e != api.OK {
		return api.Told{E: e}
	}
	switch op.Do {
	case api.DoSize:
		told.N = int64(len(p.data))
	case api.DoRead:
		for i := op.At; i < int64(len(p.data)) && i < op.At+int64(op.N); i++ {
			told.Data = append(told.Data, p.data[i])
		}
	case api.DoWrite:
		if len(op.B) > 0 {
			p.write(op.At, op.B)
		}
	case api.DoCut:
		p.cut(op.At)
	case api.DoNext:
		told.N, told.M = p.next(op.At)
	}
	return told
}

// page is a kept block.
type page struct {
	k    int64
	data []byte
}

// ledger is a cache over a paper, its pages as a plain list: the one that was used last first.
type ledger struct {
	paper        *paper
	can          uint8
	most         int
	pages        []page
	hits, misses int
}

func (l *ledger) use(k int64) {
	for i, p := range l.pages {
		if p.k == k {
			l.hits++
			l.pages = slices.Insert(slices.Delete(l.pages, i, i+1), 0, p)
			return
		}
	}
	l.misses++
	told := l.paper.do(0, api.Op{Do: api.DoRead, At: 64 * k, N: 64})
	l.pages = slices.Insert(l.pages, 0, page{k, told.Data})
	l.pages = l.pages[:min(len(l.pages), l.most)]
}

// read goes byte by byte, and uses a page whenever it comes to one.
func (l *ledger) read(at int64, n int) (out []byte) {
	size := int64(len(l.paper.data))
	for i := at; i < size && i-at < int64(n); i++ {
		if i == at || i%64 == 0 {
			l.use(i / 64)
		}
		data := l.pages[0].data
		if i%64 >= int64(len(data)) {
			return out
		}
		out = append(out, data[i%64])
	}
	return out
}

// forget keeps the pages no more in which one of these bytes may lie.
func (l *ledger) forget(from, to int64) {
	l.pages = slices.DeleteFunc(l.pages, func(p page) bool { return from < 64*p.k+64 && to >= 64*p.k })
}

// do is what is told of op through the cache.
func (l *ledger) do(op api.Op) api.Told {
	size := int64(len(l.paper.data))
	if cannot(l.can, op) == api.OK && refuses(op) == api.OK && op.Do == api.DoRead {
		return api.Told{Data: l.read(op.At, op.N)}
	}
	told := l.paper.do(l.can, op)
	if told.E == api.OK && op.Do == api.DoWrite && len(op.B) > 0 {
		l.forget(min(op.At, size), op.At+int64(len(op.B))-1)
	}
	if told.E == api.OK && op.Do == api.DoCut {
		l.forget(min(op.At, size), math.MaxInt64)
	}
	return told
}

func (l *ledger) blocks() (out []int64) {
	for _, p := range l.pages {
		out = append(out, p.k)
	}
	return out
}

// wantState holds the bytes of a file of memory against the paper.
func (p *paper) wantState(t *testing.T, s *span.Bytes) {
	t.Helper()
	if s.Size() != int64(len(p.data)) || string(s.Get(0, api.MaxText)) != string(p.data) {
		t.Errorf("the bytes below are %q, want %q", s.Get(0, api.MaxText), p.data)
	}
	for at := int64(0); at < s.Size(); {
		from, to := s.Next(at)
		if f, e := p.next(at); from != f || to != e {
			t.Errorf("below, Next(%d) tells %d %d, want %d %d", at, from, to, f, e)
		}
		at = max(to, at+1)
	}
}

// letters are n bytes, no two near ones of which are the same.
func letters(n int) string {
	b := make([]byte, n)
	for i := range b {
		b[i] = byte('!' + i%89)
	}
	return string(b)
}

// patterned is a file of size bytes, letters and holes, by five: those are written whose bit is set.
func patterned(size int64, bits uint16) (*span.Bytes, *paper) {
	s, p := span.New(nil), &paper{}
	s.Cut(size)
	p.cut(size)
	for i, x := range []byte(letters(int(size))) {
		if bits>>(i/5%16)&1 == 1 {
			s.Put(int64(i), []byte{x})
			p.write(int64(i), []byte{x})
		}
	}
	return s, p
}

// edges are ops with numbers at the bounds of all kinds, and wrong ones. None of them makes a file of many bytes.
func edges() (l []api.Op) {
	for _, at := range []int64{math.MinInt64, -api.MaxSize, -65, -64, -1, 0, 1, 63, 64, 65, 127, 128, 191, 192, 193, 199, 200, 201, 255, 256, 300, api.MaxSize - 64, api.MaxSize - 1, api.MaxSize, api.MaxSize + 1, math.MaxInt64 - 63, math.MaxInt64} {
		l = append(l, api.Op{Do: api.DoNext, At: at})
		for _, n := range []int{math.MinInt, -1, 0, 1, 63, 64, 65, 128, 129, 200, api.MaxText, api.MaxText + 1, math.MaxInt} {
			l = append(l, api.Op{Do: api.DoRead, At: at, N: n})
		}
		for _, n := range []int{0, 1, 64, 65} {
			if op := (api.Op{Do: api.DoWrite, At: at, B: []byte(letters(n))}); at < 999 || n == 0 || refuses(op) != api.OK {
				l = append(l, op)
			}
		}
		l = append(l, api.Op{Do: api.DoWrite, At: at, B: make([]byte, api.MaxText+1)})
		if at < 999 || at > api.MaxSize {
			l = append(l, api.Op{Do: api.DoCut, At: at})
		}
	}
	for _, do := range []int8{-128, -1, api.DoSize, api.DoSync, 6, 127} {
		l = append(l, api.Op{Do: do}, api.Op{Do: do, At: 2, N: 3, B: []byte("xy")}, api.Op{Do: do, At: -1, N: -1, B: []byte("x")})
	}
	return l
}

// chance tells numbers that are the same at each run.
type chance uint64

func (c *chance) below(n int) int {
	*c = *c*6364136223846793005 + 1442695040888963407
	return int(uint64(*c) >> 33 % uint64(n))
}

// place is a place of a small file, often right at a block's border.
func (c *chance) place() int64 {
	if c.below(2) == 0 {
		return int64(64*c.below(8) + c.below(3) - 1)
	}
	return int64(c.below(500) - 2)
}

// op is an op with small numbers, some of them wrong; every other one is a read.
func (c *chance) op() api.Op {
	op := api.Op{Do: int8(c.below(8) - 1), At: c.place(), N: c.below(200) - 1, B: []byte(letters(c.below(150)))}
	if c.below(2) == 0 {
		op.Do = api.DoRead
	}
	for i := range op.B { // other letters each time
		op.B[i] = byte('a' + (int(op.B[i])+c.below(3))%26)
	}
	return op
}
