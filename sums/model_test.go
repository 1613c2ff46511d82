package sums_test

import (
	"encoding/binary"
	"hash/fnv"
	"math"
	"testing"

	"mantle/api"
	"mantle/span"
)

// sumOf is the sum by the library's own reckoning.
func sumOf(b []byte) uint64 {
	h := fnv.New64a()
	h.Write(b)
	return h.Sum64()
}

// entryOf is a sum as a table has it.
func entryOf(b []byte) []byte { return binary.LittleEndian.AppendUint64(nil, sumOf(b)) }

// tableOf is the table of these bytes.
func tableOf(b []byte) (out []byte) {
	for len(b) > 0 {
		n := min(64, len(b))
		out = append(out, entryOf(b[:n])...)
		b = b[n:]
	}
	return out
}

// paper is a file as a list of bytes.
type paper struct{ data []byte }

func (p *paper) cut(size int64) {
	for int64(len(p.data)) < size {
		p.data = append(p.data, 0)
	}
	p.data = p.data[:size]
}

func (p *paper) write(at int64, b []byte) {
	p.cut(max(int64(len(p.data)), at+int64(len(b))))
	for i, x := range b {
		p.data[int(at)+i] = x
	}
}

// refuses is the error that the file's rules answer ahead of all else.
func refuses(op api.Op) api.Errno {
	switch op.Do {
	case api.DoRead:
		if op.At < 0 || op.N < 0 {
			return api.ErrArg
		}
		if op.N > api.MaxText {
			return api.ErrLong
		}
	case api.DoWrite:
		if op.At < 0 {
			return api.ErrArg
		}
		if len(op.B) > api.MaxText || op.At > api.MaxSize || op.At+int64(len(op.B)) > api.MaxSize {
			return api.ErrLong
		}
	}
	return api.OK
}

// cannot is the error of an op that a file of this set is not asked.
func cannot(can uint8, op api.Op) api.Errno {
	if op.Do < 0 || op.Do > 5 {
		return api.ErrArg
	}
	if bit := [6]uint8{0, 0, 1, 2, 4, 8}[op.Do]; can&bit != bit {
		return api.ErrCan
	}
	return api.OK
}

// do is what is told of op through a file over the paper that can so much, and be neither cut nor asked for holes.
func (p *paper) do(can uint8, op api.Op) (told api.Told) {
	e := cannot(can&9, op)
	if e == api.OK {
		e = refuses(op)
	}
	if e != api.OK {
		return api.Told{E: e}
	}
	switch op.Do {
	case api.DoSize:
		told.N = int64(len(p.data))
	case api.DoRead:
		for i := op.At; i < int64(len(p.data)) && i < op.At+int64(op.N); i++ {
			told.Data = append(told.Data, p.data[i])
		}
	case api.DoWrite:
		if len(op.B) > 0 {
			p.write(op.At, op.B)
		}
	}
	return told
}

// book is a file with sums on paper: P10.3 to P10.5, word for word and place by place.
type book struct {
	data, table *paper // perhaps the same one
	can         uint8
	diary       diary
}

// ask is what a paper tells of a call that is written down.
func (k *book) ask(name string, op api.Op) api.Told {
	if e := k.diary.note(name, op); e != api.OK {
		return api.Told{E: e}
	}
	if name == "a" {
		return k.data.do(9, op)
	}
	return k.table.do(9, op)
}

// block reads block n.
func (k *book) block(n int64) api.Told {
	return k.ask("a", api.Op{Do: api.DoRead, At: 64 * n, N: 64})
}

// right reads block n, and holds it to be right.
func (k *book) right(n int64) api.Told {
	block := k.block(n)
	if block.E != api.OK {
		return block
	}
	sum := k.ask("b", api.Op{Do: api.DoRead, At: 8 * n, N: 8})
	if sum.E != api.OK {
		return api.Told{E: sum.E}
	}
	if len(sum.Data) != 8 || binary.LittleEndian.Uint64(sum.Data) != sumOf(block.Data) {
		return api.Told{E: api.ErrSum}
	}
	return block
}

func (k *book) read(at int64, n int) (told api.Told) {
	var block api.Told
	for i := at; i < at+int64(n) && i < int64(len(k.data.data)); i++ {
		if i == at || i%64 == 0 {
			if block = k.right(i / 64); block.E != api.OK {
				return block
			}
		}
		told.Data = append(told.Data, block.Data[i%64])
	}
	return told
}

// lies are the blocks in which a place from p up to end lies.
func lies(p, end int64) (l []int64) {
	for i := p; i < end; i++ {
		if len(l) == 0 || l[len(l)-1] != i/64 {
			l = append(l, i/64)
		}
	}
	return l
}

// leaves tells whether block n has bytes of which not all are written over.
func (k *book) leaves(n, at, end int64) bool {
	for i := 64 * n; i < 64*n+64 && i < int64(len(k.data.data)); i++ {
		if i < at || i >= end {
			return true
		}
	}
	return false
}

func (k *book) write(at int64, b []byte) api.Errno {
	size, end := int64(len(k.data.data)), at+int64(len(b))
	if at > size+api.MaxText {
		return api.ErrLong
	}
	blocks := lies(min(at, size), end)
	for _, n := range blocks {
		if k.leaves(n, at, end) {
			if x := k.right(n); x.E != api.OK {
				return x.E
			}
		}
	}
	if x := k.ask("a", api.Op{Do: api.DoWrite, At: at, B: b}); x.E != api.OK {
		return x.E
	}
	for _, n := range blocks {
		block := k.block(n)
		if block.E != api.OK {
			return block.E
		}
		if x := k.ask("b", api.Op{Do: api.DoWrite, At: 8 * n, B: entryOf(block.Data)}); x.E != api.OK {
			return x.E
		}
	}
	return api.OK
}

// do is what is told of op through the file with sums.
func (k *book) do(op api.Op) api.Told {
	e := cannot(k.can, op)
	if e == api.OK {
		e = refuses(op)
	}
	if e != api.OK {
		return api.Told{E: e}
	}
	switch {
	case op.Do == api.DoSize:
		return api.Told{N: int64(len(k.data.data))}
	case op.Do == api.DoRead:
		return k.read(op.At, op.N)
	case op.Do == api.DoWrite && len(op.B) > 0:
		return api.Told{E: k.write(op.At, op.B)}
	case op.Do == api.DoSync:
		if x := k.ask("a", api.Op{Do: api.DoSync}); x.E != api.OK {
			return x
		}
		return k.ask("b", api.Op{Do: api.DoSync})
	}
	return api.Told{}
}

// wantState holds the bytes of a file of memory against the paper.
func (p *paper) wantState(t *testing.T, s *span.Bytes) {
	t.Helper()
	if got := s.Get(0, api.MaxData); s.Size() != int64(len(p.data)) || string(got) != string(p.data) {
		t.Errorf("the bytes below are %.300q, %d of them, want %.300q, %d", got, s.Size(), p.data, len(p.data))
	}
}

// letters are n bytes, no two blocks of which are the same.
func letters(n int) string {
	b := make([]byte, n)
	for i := range b {
		b[i] = byte('!' + i%89)
	}
	return string(b)
}

// edges are ops with numbers at the bounds of all kinds, and wrong ones. None of them makes a file of many bytes.
func edges() (l []api.Op) {
	for _, at := range []int64{math.MinInt64, -api.MaxSize, -1, 0, 1, 63, 64, 65, 127, 128, 129, 192, 199, 200, 201, 260, api.MaxSize - 40, api.MaxSize - 1, api.MaxSize, api.MaxSize + 1, math.MaxInt64 - 40, math.MaxInt64} {
		for _, n := range []int{math.MinInt, -1, 0, 1, 40, 64, 65, 200, api.MaxText, api.MaxText + 1, math.MaxInt} {
			l = append(l, api.Op{Do: api.DoRead, At: at, N: n})
		}
		for _, n := range []int{0, 1, 40, 41, 64, 130, api.MaxText + 1} {
			l = append(l, api.Op{Do: api.DoWrite, At: at, B: []byte(letters(n))})
		}
		l = append(l, api.Op{Do: api.DoCut, At: at}, api.Op{Do: api.DoNext, At: at})
	}
	for _, do := range []int8{-128, -1, api.DoSize, api.DoSync, 6, 127} {
		l = append(l, api.Op{Do: do}, api.Op{Do: do, At: 2, N: 3, B: []byte("xy")}, api.Op{Do: do, At: -1, N: -1, B: []byte("x")})
	}
	return l
}

// chance tells numbers that are the same at each run.
type chance uint64

func (c *chance) below(n int) int {
	*c = *c*6364136223846793005 + 1442695040888963407
	return int(uint64(*c) >> 33 % uint64(n))
}

// place is a place of a file of a few blocks, often right at a border.
func (c *chance) place() int64 {
	if c.below(2) == 0 {
		return int64(64*c.below(6) + c.below(3) - 1)
	}
	return int64(c.below(330) - 2)
}

// many is a number of bytes, often of whole blocks.
func (c *chance) many() int {
	if c.below(3) == 0 {
		return max(64*c.below(4)+c.below(3)-1, 0)
	}
	return c.below(150)
}

// text is so many letters, other ones each time.
func (c *chance) text(n int) []byte {
	b := make([]byte, n)
	for i := range b {
		b[i] = byte('a' + c.below(26))
	}
	return b
}

// op is an op with small numbers, some of them wrong; every other one is a write.
func (c *chance) op() api.Op {
	op := api.Op{Do: int8(c.below(8) - 1), At: c.place(), N: c.many() - 1, B: c.text(c.many())}
	if c.below(2) == 0 {
		op.Do = api.DoWrite
	}
	return op
}
