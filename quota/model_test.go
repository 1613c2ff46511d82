package quota_test

import (
	"math"
	"testing"

	"mantle/api"
	"mantle/face"
	"mantle/span"
)

// refuses is the error that the file's rules answer ahead of all else.
func refuses(op api.Op) api.Errno {
	switch op.Do {
	case api.DoRead:
		if op.At < 0 || op.N < 0 {
			return api.ErrArg
		}
		if op.N > api.MaxText {
			return api.ErrLong
		}
	case api.DoWrite:
		if op.At < 0 {
			return api.ErrArg
		}
		if len(op.B) > api.MaxText || op.At > api.MaxSize || op.At+int64(len(op.B)) > api.MaxSize {
			return api.ErrLong
		}
	case api.DoCut:
		if op.At < 0 {
			return api.ErrArg
		}
		if op.At > api.MaxSize {
			return api.ErrLong
		}
	}
	return api.OK
}

// cannot is the error of an op that a file of this set is not asked.
func cannot(can uint8, op api.Op) api.Errno {
	if op.Do < 0 || op.Do > 5 {
		return api.ErrArg
	}
	if bit := [6]uint8{0, 0, 1, 2, 4, 8}[op.Do]; can&bit != bit {
		return api.ErrCan
	}
	return api.OK
}

// changes tells whether op is one that a purse is asked about.
func changes(op api.Op) bool { return op.Do == api.DoWrite || op.Do == api.DoCut }

// wants is by how many bytes a file of this Size would get longer by op.
func wants(size int64, op api.Op) int64 {
	end := size
	switch {
	case op.Do == api.DoWrite && len(op.B) > 0:
		end = op.At + int64(len(op.B))
	case op.Do == api.DoCut:
		end = op.At
	}
	if end <= size {
		return 0
	}
	return end - size
}

func sizeOf(h *face.Handle) int64 { return h.Do(api.Op{Do: api.DoSize}).N }

// book is a purse on paper: P14.2 and P14.3, word for word, over files that have no purse.
type book struct{ left int64 }

// do is what is told of op through a handle of the purse over a file that is like plain, and by itself can what plain can.
func (k *book) do(plain *face.Handle, op api.Op) api.Told {
	e := cannot(plain.Can(), op)
	if e == api.OK {
		e = refuses(op)
	}
	if e != api.OK {
		return api.Told{E: e}
	}
	was := sizeOf(plain)
	if changes(op) && wants(was, op) > k.left {
		return api.Told{E: api.ErrQuota}
	}
	told := plain.Do(op)
	if changes(op) && told.E == api.OK {
		k.left += was
		k.left -= sizeOf(plain)
	}
	return told
}

// wantAlike holds the bytes of a file, and its holes, against those of another one. It goes from stretch to stretch: there may be many noughts between.
func wantAlike(t *testing.T, got, want *span.Bytes) {
	t.Helper()
	if got.Size() != want.Size() || got.Held() != want.Held() {
		t.Errorf("the file has %d bytes, %d of them written, want %d, %d", got.Size(), got.Held(), want.Size(), want.Held())
	}
	for at := int64(0); at < want.Size() && !t.Failed(); {
		from, to := want.Next(at)
		if f, e := got.Next(at); f != from || e != to {
			t.Errorf("Next(%d) tells %d %d, want %d %d", at, f, e, from, to)
		}
		for ; from < to; from += api.MaxText {
			if a, b := got.Get(from, api.MaxText), want.Get(from, api.MaxText); string(a) != string(b) {
				t.Errorf("from %d on there is %.50q, want %.50q", from, a, b)
			}
		}
		at = max(to, at+1)
	}
}

// letters are n bytes, no two near ones of which are the same.
func letters(n int) string {
	b := make([]byte, n)
	for i := range b {
		b[i] = byte('!' + i%89)
	}
	return string(b)
}

// patterned is a file of size bytes, letters and holes, by three: those are written whose bit is set.
func patterned(size int64, bits uint16) *span.Bytes {
	s := span.New(nil)
	s.Cut(size)
	for i, x := range []byte(letters(int(min(size, 60)))) {
		if bits>>(i/3%16)&1 == 1 {
			s.Put(int64(i), []byte{x})
		}
	}
	return s
}

// edges are ops with numbers at the bounds of all kinds, and wrong ones, for a file of some 40 bytes.
func edges() (l []api.Op) {
	for _, at := range []int64{math.MinInt64, math.MinInt64 + 40, -api.MaxSize, -1, 0, 1, 39, 40, 41, 60, api.MaxText, api.MaxSize - api.MaxText, api.MaxSize - 41, api.MaxSize - 40, api.MaxSize - 39,
		api.MaxSize - 1, api.MaxSize, api.MaxSize + 1, api.MaxSize + 40, math.MaxInt64 - 40, math.MaxInt64 - 1, math.MaxInt64} {
		l = append(l, api.Op{Do: api.DoNext, At: at})
		for _, n := range []int{math.MinInt, -1, 0, 1, 40, 41, api.MaxText, api.MaxText + 1, math.MaxInt} {
			l = append(l, api.Op{Do: api.DoRead, At: at, N: n})
		}
		for _, n := range []int{0, 1, 40, 41, api.MaxText, api.MaxText + 1} {
			l = append(l, api.Op{Do: api.DoWrite, At: at, B: []byte(letters(n))}, api.Op{Do: api.DoCut, At: 40})
		}
		l = append(l, api.Op{Do: api.DoCut, At: at}, api.Op{Do: api.DoCut, At: 40})
	}
	for _, do := range []int8{-128, -1, api.DoSize, api.DoSync, 6, 127} {
		l = append(l, api.Op{Do: do}, api.Op{Do: do, At: 2, N: 3, B: []byte("xy")}, api.Op{Do: do, At: -1, N: -1, B: []byte("x")})
	}
	return l
}

// chance tells numbers that are the same at each run.
type chance uint64

func (c *chance) below(n int) int {
	*c = *c*6364136223846793005 + 1442695040888963407
	return int(uint64(*c) >> 33 % uint64(n))
}

// op is an op with small numbers, some of them wrong; two of three are writes or cuts.
func (c *chance) op() api.Op {
	op := api.Op{Do: int8(c.below(8) - 1), At: int64(c.below(42) - 2), N: c.below(50) - 1, B: []byte(letters(c.below(14)))}
	switch c.below(6) {
	case 0, 1:
		op.Do = api.DoWrite
	case 2:
		op.Do = api.DoCut
	}
	return op
}

// big is an op with numbers of all sizes, up to MaxSize and a bit more.
func (c *chance) big() api.Op {
	op := c.op()
	switch c.below(4) {
	case 0:
		op.At = api.MaxSize - op.At
	case 1:
		op.At += int64(c.below(api.MaxSize))
	case 2:
		op.B = []byte(letters(c.below(api.MaxText + 2)))
	}
	return op
}
