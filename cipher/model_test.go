package cipher_test

import (
	"math"
	"testing"

	"mantle/api"
	"mantle/span"
)

// byteOf is the byte of a key's stream at a place: the chapter's words, one place at a time.
func byteOf(key, place uint64) byte {
	k := place / 8
	z := key
	z += k * 0x9E3779B97F4A7C15
	z += 0x9E3779B97F4A7C15
	z ^= z >> 30
	z *= 0xBF58476D1CE4E5B9
	z ^= z >> 27
	z *= 0x94D049BB133111EB
	z ^= z >> 31
	for range place % 8 {
		z /= 256
	}
	return byte(z % 256)
}

// streamOf is n bytes of a key's stream from at on.
func streamOf(key uint64, at int64, n int) []byte { return turnedOf(key, at, make([]byte, n)) }

// turnedOf is b turned, its first byte standing at at.
func turnedOf(key uint64, at int64, b []byte) []byte {
	out := make([]byte, len(b))
	for i, x := range b {
		out[i] = x ^ byteOf(key, uint64(at)+uint64(i))
	}
	return out
}

// paper is a file as a list of bytes, and of which of them are written.
type paper struct {
	data  []byte
	wrote []bool
}

func paperOf(b []byte) *paper {
	p := &paper{}
	p.write(0, b)
	return p
}

func (p *paper) size() int64 { return int64(len(p.data)) }

func (p *paper) cut(size int64) {
	for p.size() < size {
		p.data, p.wrote = append(p.data, 0), append(p.wrote, false)
	}
	p.data, p.wrote = p.data[:size], p.wrote[:size]
}

func (p *paper) write(at int64, b []byte) {
	p.cut(max(p.size(), at+int64(len(b))))
	for i, x := range b {
		p.data[int(at)+i], p.wrote[int(at)+i] = x, true
	}
}

func (p *paper) next(at int64) (from, to int64) {
	for from = max(at, 0); from < p.size(); from++ {
		if p.wrote[from] {
			for to = from; to < p.size() && p.wrote[to]; to++ {
			}
			return from, to
		}
	}
	return p.size(), p.size()
}

// refuses is the error that the file's rules answer ahead of all else.
func refuses(op api.Op) api.Errno {
	switch op.Do {
	case api.DoRead:
		if op.At < 0 || op.N < 0 {
			return api.ErrArg
		}
		if op.N > api.MaxText {
			return api.ErrLong
		}
	case api.DoWrite:
		if op.At < 0 {
			return api.ErrArg
		}
		if len(op.B) > api.MaxText || op.At > api.MaxSize || op.At+int64(len(op.B)) > api.MaxSize {
			return api.ErrLong
		}
	case api.DoCut:
		if op.At < 0 {
			return api.ErrArg
		}
		if op.At > api.MaxSize {
			return api.ErrLong
		}
	}
	return api.OK
}

// cannot is the error of an op that a file of this set is not asked.
func cannot(can uint8, op api.Op) api.Errno {
	if op.Do < 0 || op.Do > 5 {
		return api.ErrArg
	}
	if bit := [6]uint8{0, 0, 1, 2, 4, 8}[op.Do]; can&bit != bit {
		return api.ErrCan
	}
	return api.OK
}

// do is what is told of op through a plain file over the paper that can so much.
func (p *paper) do(can uint8, op api.Op) (told api.Told) {
	e := cannot(can, op)
	if e == api.OK {
		e = refuses(op)
	}
	if e != api.OK {
		return api.Told{E: e}
	}
	switch op.Do {
	case api.DoSize:
		told.N = p.size()
	case api.DoRead:
		for i := op.At; i < p.size() && i < op.At+int64(op.N); i++ {
			told.Data = append(told.Data, p.data[i])
		}
	case api.DoWrite:
		if len(op.B) > 0 {
			p.write(op.At, op.B)
		}
	case api.DoCut:
		p.cut(op.At)
	case api.DoNext:
		told.N, told.M = p.next(op.At)
	}
	return told
}

// keeps is the table's row, word for word.
func keeps(can uint8) (out uint8) {
	if can&api.CanWrite != 0 {
		out |= api.CanWrite
	}
	if can&api.CanWrite != 0 && can&api.CanCut != 0 {
		out |= api.CanCut
	}
	if can&api.CanSync != 0 {
		out |= api.CanSync
	}
	return out
}

// book is a cipher on paper: P12.2 to P12.4, word for word.
type book struct {
	below *paper
	can   uint8 // what the file below can
	key   uint64
	diary diary
}

// ask is what the paper tells of a call that is written down.
func (k *book) ask(op api.Op) api.Told {
	if e := k.diary.note(op); e != api.OK {
		return api.Told{E: e}
	}
	return k.below.do(15, op)
}

// put is the file's WriteAt of b, turned.
func (k *book) put(at int64, b []byte) api.Told {
	return k.ask(api.Op{Do: api.DoWrite, At: at, B: turnedOf(k.key, at, b)})
}

func (k *book) write(at int64, b []byte) api.Told {
	size := k.below.size()
	if len(b) == 0 {
		return api.Told{}
	}
	if at <= size {
		return k.put(at, b)
	}
	if at+int64(len(b))-size > api.MaxText {
		return api.Told{E: api.ErrLong}
	}
	var all []byte
	for i := size; i < at; i++ {
		all = append(all, 0)
	}
	return k.put(size, append(all, b...))
}

func (k *book) cut(to int64) api.Told {
	size := k.below.size()
	if to <= size {
		return k.ask(api.Op{Do: api.DoCut, At: to})
	}
	if to > size+api.MaxText {
		return api.Told{E: api.ErrLong}
	}
	return k.put(size, make([]byte, to-size))
}

// do is what is told of op through the cipher.
func (k *book) do(op api.Op) (told api.Told) {
	e := cannot(keeps(k.can), op)
	if e == api.OK {
		e = refuses(op)
	}
	if e != api.OK {
		return api.Told{E: e}
	}
	switch op.Do {
	case api.DoSize:
		told.N = k.below.size()
	case api.DoRead:
		told = k.ask(api.Op{Do: api.DoRead, At: op.At, N: op.N})
		told.Data = turnedOf(k.key, op.At, told.Data)
	case api.DoWrite:
		told = k.write(op.At, op.B)
	case api.DoCut:
		told = k.cut(op.At)
	case api.DoSync:
		told = k.ask(api.Op{Do: api.DoSync})
	}
	return told
}

// wantState holds the bytes of a file of memory, and its holes, against the paper.
func (p *paper) wantState(t *testing.T, s *span.Bytes) {
	t.Helper()
	for at := int64(0); at < max(p.size(), s.Size(), 1); at += api.MaxText {
		want := p.data[min(at, p.size()):min(at+api.MaxText, p.size())]
		if got := s.Get(at, api.MaxText); s.Size() != p.size() || string(got) != string(want) {
			t.Errorf("the bytes below from %d on are %.100x, of %d, want %.100x, of %d", at, got, s.Size(), want, p.size())
		}
	}
	for at := int64(0); at < s.Size() && !t.Failed(); {
		from, to := s.Next(at)
		if f, e := p.next(at); from != f || to != e {
			t.Errorf("below, Next(%d) tells %d %d, want %d %d", at, from, to, f, e)
		}
		at = max(to, at+1)
	}
}

// letters are n bytes, no two near ones of which are the same.
func letters(n int) string {
	b := make([]byte, n)
	for i := range b {
		b[i] = byte('!' + i%89)
	}
	return string(b)
}

// patterned is a file of size bytes, letters and holes, by five: those are written whose bit is set.
func patterned(size int64, bits uint16) (*span.Bytes, *paper) {
	s, p := span.New(nil), &paper{}
	s.Cut(size)
	p.cut(size)
	for i, x := range []byte(letters(int(size))) {
		if bits>>(i/5%16)&1 == 1 {
			s.Put(int64(i), []byte{x})
			p.write(int64(i), []byte{x})
		}
	}
	return s, p
}

// keys are keys of all kinds.
func keys() []uint64 {
	return []uint64{0, 1, 2, 77, 1 << 32, math.MaxInt64, 1 << 63, 1<<63 + 1, 0x9E3779B97F4A7C15, 0x61C8864680B583EB, math.MaxUint64 - 1, math.MaxUint64}
}

// edges are ops with numbers at the bounds of all kinds, and wrong ones, for a file of some 40 bytes.
func edges() (l []api.Op) {
	for _, at := range []int64{math.MinInt64, -api.MaxSize, -1, 0, 1, 7, 8, 9, 39, 40, 41, 48, 60, api.MaxText, api.MaxText + 39, api.MaxText + 40, api.MaxText + 41, api.MaxText + 60, api.MaxText + 61,
		api.MaxSize - 41, api.MaxSize - 40, api.MaxSize - 1, api.MaxSize, api.MaxSize + 1, math.MaxInt64 - 40, math.MaxInt64 - 1, math.MaxInt64} {
		l = append(l, api.Op{Do: api.DoNext, At: at})
		for _, n := range []int{math.MinInt, -1, 0, 1, 8, 9, 40, 41, api.MaxText, api.MaxText + 1, math.MaxInt} {
			l = append(l, api.Op{Do: api.DoRead, At: at, N: n})
		}
		for _, n := range []int{0, 1, 8, 9, 40, 41, api.MaxText + 1} {
			l = append(l, api.Op{Do: api.DoWrite, At: at, B: []byte(letters(n))})
		}
		l = append(l, api.Op{Do: api.DoCut, At: at}, api.Op{Do: api.DoCut, At: 40})
	}
	for _, do := range []int8{-128, -1, api.DoSize, api.DoSync, 6, 127} {
		l = append(l, api.Op{Do: do}, api.Op{Do: do, At: 2, N: 3, B: []byte("xy")}, api.Op{Do: do, At: -1, N: -1, B: []byte("x")})
	}
	return l
}

// chance tells numbers that are the same at each run.
type chance uint64

func (c *chance) below(n int) int {
	*c = *c*6364136223846793005 + 1442695040888963407
	return int(uint64(*c) >> 33 % uint64(n))
}

// key is one of the keys of all kinds, or any other one.
func (c *chance) key() uint64 {
	if l := keys(); c.below(2) == 0 {
		return l[c.below(len(l))]
	}
	return uint64(c.below(1<<30))<<34 ^ uint64(c.below(1<<30))
}

// bytes are so many bytes of all kinds.
func (c *chance) bytes(n int) []byte {
	b := make([]byte, n)
	for i := range b {
		b[i] = byte(c.below(256))
	}
	return b
}

// place is a place of a small file, often right at a border of two numbers of a stream.
func (c *chance) place() int64 {
	if c.below(2) == 0 {
		return int64(8*c.below(8) + c.below(3) - 1)
	}
	return int64(c.below(70) - 2)
}

// op is an op with small numbers, some of them wrong; every other one is a write.
func (c *chance) op() api.Op {
	op := api.Op{Do: int8(c.below(8) - 1), At: c.place(), N: c.below(80) - 1, B: c.bytes(c.below(20))}
	if c.below(2) == 0 {
		op.Do = api.DoWrite
	}
	return op
}
