package window_test

import (
	"testing"

	"mantle/api"
	"mantle/face"
	"mantle/span"
	"mantle/window"
)

// Each op at all bounds, over all sixteen sets, through windows within the file, across its end, behind it, and of no bytes.
func TestP52P53Rules(t *testing.T) {
	ops := edges()
	for can := range uint8(16) {
		for _, x := range []struct{ at, n int64 }{{0, 0}, {0, 4}, {2, 4}, {3, 4}, {4, 0}, {6, 4}, {8, 5}, {10, 3}, {20, 5}, {20, 0}, {0, 40}} {
			for _, op := range ops {
				s, p := holed()
				w, l := newWindow(t, fileOf(t, s, can), x.at, x.n), over(t, can, x.at, x.n)
				wantTold(t, w, op, p.do(l, op))
				p.wantState(t, s)
				if t.Failed() {
					t.Fatalf("set %d, window %d %d, Do %d at %d, %d, of %d bytes", can, x.at, x.n, op.Do, op.At, op.N, len(op.B))
				}
			}
		}
	}
}

// All files of six bytes, some of them holes, through all windows that lie there: what is read, and all stretches.
func TestP52AllPatterns(t *testing.T) {
	for bits := range 1 << 6 {
		s, p := patterned(6, bits)
		h := fileOf(t, s, api.CanHoles)
		for at := range int64(9) {
			for n := range int64(9) {
				w, l := newWindow(t, h, at, n), over(t, api.CanHoles, at, n)
				op := api.Op{Do: api.DoSize}
				wantTold(t, w, op, p.do(l, op))
				for q := int64(-2); q < 10; q++ {
					op = api.Op{Do: api.DoNext, At: q}
					wantTold(t, w, op, p.do(l, op))
					op = api.Op{Do: api.DoRead, At: q, N: 3}
					wantTold(t, w, op, p.do(l, op))
				}
				if t.Failed() {
					t.Fatalf("pattern %b, window %d %d", bits, at, n)
				}
			}
		}
	}
}

// Stretches that begin ahead of the window, lie across its ends, cover it, or lie wholly behind it.
func TestP52Stretches(t *testing.T) {
	for _, x := range []struct {
		from, to int64 // what is written, of ten bytes; the window is 3 to 7
		first    api.Stretch
	}{
		{0, 2, api.Stretch{From: 4, To: 4}}, {0, 3, api.Stretch{From: 4, To: 4}}, {0, 5, api.Stretch{From: 0, To: 2}}, {0, 10, api.Stretch{From: 0, To: 4}},
		{3, 7, api.Stretch{From: 0, To: 4}}, {4, 6, api.Stretch{From: 1, To: 3}}, {5, 9, api.Stretch{From: 2, To: 4}}, {6, 7, api.Stretch{From: 3, To: 4}},
		{7, 9, api.Stretch{From: 4, To: 4}}, {8, 9, api.Stretch{From: 4, To: 4}},
	} {
		s := span.New(nil)
		s.Cut(10)
		s.Put(x.from, make([]byte, x.to-x.from))
		w := newWindow(t, fileOf(t, s, 15), 3, 4)
		for _, at := range []int64{-api.MaxSize, -1, 0} {
			wantNext(t, w, at, x.first.From, x.first.To)
		}
		for _, at := range []int64{4, 5, api.MaxSize} {
			wantNext(t, w, at, 4, 4)
		}
		if t.Failed() {
			t.Fatalf("%d to %d is written", x.from, x.to)
		}
	}
}

// All small writes through all small windows, to files of some lengths: what stands below then, and that nothing does beside it.
func TestP53AllWrites(t *testing.T) {
	for _, size := range []int64{0, 3, 6} {
		for at := range int64(9) {
			for n := range int64(6) {
				for q := range int64(8) {
					for k := range 5 {
						s, p := patterned(size, 0b101101)
						op := api.Op{Do: api.DoWrite, At: q, B: []byte("WXYZ")[:k]}
						w, l := newWindow(t, fileOf(t, s, api.CanWrite), at, n), over(t, api.CanWrite, at, n)
						wantTold(t, w, op, p.do(l, op))
						p.wantState(t, s)
						if t.Failed() {
							t.Fatalf("a file of %d, window %d %d, %d bytes at %d", size, at, n, k, q)
						}
					}
				}
			}
		}
	}
}

// A write ends at n, one place behind it, and behind n but within the file.
func TestP53Ends(t *testing.T) {
	s := span.New([]byte("0123456789"))
	w := newWindow(t, fileOf(t, s, 15), 3, 4)
	wantWrite(t, w, 0, "abcde", api.ErrLong)
	wantWrite(t, w, 3, "ab", api.ErrLong)
	wantWrite(t, w, 4, "a", api.ErrLong)
	wantWrite(t, w, 5, "a", api.ErrLong)
	wantWrite(t, w, api.MaxSize, "a", api.ErrLong)
	if string(s.Get(0, 99)) != "0123456789" {
		t.Errorf("a write that was refused changed the file: %q", s.Get(0, 99))
	}
	wantWrite(t, w, 2, "ab", api.OK)
	wantWrite(t, w, 0, "c", api.OK)
	if string(s.Get(0, 99)) != "012c4ab789" {
		t.Errorf("the file is %q", s.Get(0, 99))
	}
}

// A write behind the file's end lengthens it by what lies between, as a hole.
func TestP53Gap(t *testing.T) {
	s := span.New([]byte("abc"))
	w := newWindow(t, fileOf(t, s, 15), 2, 8)
	wantWrite(t, w, 4, "xy", api.OK)
	wantSize(t, w, 6)
	wantRead(t, w, 0, 9, "c\x00\x00\x00xy")
	wantNext(t, w, 0, 0, 1)
	wantNext(t, w, 1, 4, 6)
	far := newWindow(t, fileOf(t, s, 15), 1000, 8)
	wantWrite(t, far, 3, "z", api.OK)
	wantSize(t, far, 4)
	wantNext(t, far, 0, 3, 4)
	wantSize(t, w, 8)
	if s.Size() != 1004 || s.Held() != 6 {
		t.Errorf("the file has %d bytes, of which %d are written", s.Size(), s.Held())
	}
}

// A write of none is taken wherever a file's is, behind n too, and changes nothing.
func TestP53EmptyWrite(t *testing.T) {
	for _, x := range []struct{ at, n int64 }{{0, 0}, {3, 4}, {20, 5}, {api.MaxSize, 0}, {1, api.MaxSize - 1}} {
		s, p := holed()
		w := newWindow(t, fileOf(t, s, 15), x.at, x.n)
		for _, q := range []int64{0, 4, 5, x.n, api.MaxSize - x.at, api.MaxSize - x.at + 1, api.MaxSize} {
			wantWrite(t, w, min(q, api.MaxSize), "", api.OK)
		}
		wantWrite(t, w, -1, "", api.ErrArg)
		wantWrite(t, w, api.MaxSize+1, "", api.ErrLong)
		p.wantState(t, s)
	}
}

// hand is a handle and what it shows.
type hand struct {
	h *face.Handle
	l lens
}

// hands are files over s that can what they can, windows over these, and each of them read alone.
func hands(t *testing.T, c *chance, s *span.Bytes) (l []hand) {
	for range 6 {
		can := uint8(c.below(16))
		h := fileOf(t, s, can)
		at, n := int64(c.below(20)), int64(c.below(12))
		whole, part := lens{can: can}, over(t, can, at, n)
		w := newWindow(t, h, at, n)
		l = append(l, hand{h, whole}, hand{w, part})
		whole.can, part.can = whole.can&api.CanHoles, part.can&api.CanHoles
		l = append(l, hand{window.Read(h), whole}, hand{window.Read(w), part}, hand{newWindow(t, window.Read(h), at, n), part})
	}
	return l
}

// Whatever is done through windows, beside them, and through what is read alone: all tell of the same bytes.
func TestP52P53P54Beside(t *testing.T) {
	c := chance(5)
	for range 60 {
		s, p := holed()
		l := hands(t, &c, s)
		for range 200 {
			x, op := l[c.below(len(l))], c.op()
			wantTold(t, x.h, op, p.do(x.l, op))
			if t.Failed() {
				t.Fatalf("%+v through %+v", op, x.l)
			}
		}
		p.wantState(t, s)
	}
}
