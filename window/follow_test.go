package window_test

import (
	"bytes"
	"testing"

	"mantle/api"
	"mantle/face"
	"mantle/span"
	"mantle/window"
)

// wantAlike does each op through both, and holds what is told, and what stands below, against each other.
func wantAlike(t *testing.T, one, two *face.Handle, s1, s2 *span.Bytes, ops []api.Op) {
	t.Helper()
	for _, op := range ops {
		wantTold(t, one, op, two.Do(op))
		if s1.Size() != s2.Size() || s1.Held() != s2.Held() || !bytes.Equal(s1.Get(0, 99), s2.Get(0, 99)) {
			t.Errorf("below %q, and %q", s1.Get(0, 99), s2.Get(0, 99))
		}
		if t.Failed() {
			t.Fatalf("Do %d at %d, %d, of %d bytes", op.Do, op.At, op.N, len(op.B))
		}
	}
}

// few are ops enough to tell two windows of small numbers from each other, those that change nothing behind each one that does.
func few(at int64) (l []api.Op) {
	look := []api.Op{{Do: api.DoSize}, {Do: api.DoRead, N: 20}, {Do: api.DoRead, At: 2, N: 2}, {Do: api.DoNext}, {Do: api.DoNext, At: 3}, {Do: api.DoSync}, {Do: api.DoCut}}
	l = append(l, look...)
	for _, b := range []string{"", "V", "WX", "WXYZ"} {
		l = append(append(l, api.Op{Do: api.DoWrite, At: at, B: []byte(b)}), look...)
	}
	return l
}

// All small windows of all small windows.
func TestP55WindowOfWindow(t *testing.T) {
	for a := range int64(8) {
		for n := range int64(8) {
			for b := range n + 1 {
				for m := range int64(8) {
					for _, size := range []int64{0, 4, 9} {
						for at := range int64(7) {
							s1, _ := patterned(size, 0b10110111)
							s2, _ := patterned(size, 0b10110111)
							one := newWindow(t, newWindow(t, fileOf(t, s1, 15), a, n), b, m)
							two := newWindow(t, fileOf(t, s2, 15), a+b, min(m, n-b))
							wantAlike(t, one, two, s1, s2, few(at))
						}
					}
				}
			}
		}
	}
}

// At the bounds, and over all sixteen sets.
func TestP55Edges(t *testing.T) {
	ops := edges()
	for can := range uint8(16) {
		for _, x := range []struct{ a, n, b, m int64 }{
			{0, api.MaxSize, 0, api.MaxSize}, {1, api.MaxSize - 1, 2, api.MaxSize - 2}, {3, 5, 2, api.MaxSize - 2}, {3, 5, 5, 9},
			{api.MaxSize - 4, 4, 2, 2}, {api.MaxSize, 0, 0, 0}, {2, 6, 3, 2}, {20, 6, 3, 2},
		} {
			s1, _ := holed()
			s2, _ := holed()
			one := newWindow(t, newWindow(t, fileOf(t, s1, can), x.a, x.n), x.b, x.m)
			two := newWindow(t, fileOf(t, s2, can), x.a+x.b, min(x.m, x.n-x.b))
			wantAlike(t, one, two, s1, s2, ops)
		}
	}
}

// A window of all tells what the file tells, but for Cut.
func TestP55Whole(t *testing.T) {
	for can := range uint8(16) {
		s1, _ := holed()
		s2, _ := holed()
		one, two := newWindow(t, fileOf(t, s1, can), 0, api.MaxSize), fileOf(t, s2, can&^api.CanCut)
		wantAlike(t, one, two, s1, s2, edges())
	}
}

// Over files that refuse, too: their errors are told at each place where the window has none of its own.
func TestP55WholeRefused(t *testing.T) {
	for no := range 1 << 3 {
		r := newRefuser(t, "0123456789")
		for i, do := range []int8{api.DoRead, api.DoWrite, api.DoSync} {
			if no>>i&1 == 1 {
				r.no[do] = api.ErrGone
			}
		}
		h := r.handle(13)
		w := newWindow(t, h, 0, api.MaxSize)
		for _, op := range edges() {
			if refuses(op) == api.OK {
				wantTold(t, w, op, h.Do(op))
			}
		}
		if t.Failed() {
			t.Fatalf("refused: %v", r.no)
		}
	}
}

// reads are all the bytes that a window shows.
func reads(h *face.Handle) []byte { return h.Do(api.Op{Do: api.DoRead, N: api.MaxText}).Data }

// Windows that touch, or are parted: what is written through one leaves the bytes of the other one; noughts may be new there.
func TestP56Apart(t *testing.T) {
	for a := range int64(6) {
		for n := range int64(5) {
			for b := a + n; b < 12; b++ {
				for m := range int64(5) {
					for at := range int64(6) {
						for k := range 5 {
							s, _ := patterned(7, 0b1101011)
							h := fileOf(t, s, 15)
							one, two := newWindow(t, h, a, n), newWindow(t, h, b, m)
							for _, x := range [][2]*face.Handle{{one, two}, {two, one}} {
								was := reads(x[1])
								x[0].Do(api.Op{Do: api.DoWrite, At: at, B: []byte("WXYZ")[:k]})
								is := reads(x[1])
								if !bytes.HasPrefix(is, was) || bytes.ContainsFunc(is[len(was):], func(r rune) bool { return r != 0 }) {
									t.Fatalf("windows %d %d and %d %d: %q became %q", a, n, b, m, was, is)
								}
							}
						}
					}
				}
			}
		}
	}
}

// Read twice is Read, whatever is done beside it.
func TestP56ReadOfRead(t *testing.T) {
	c := chance(6)
	for can := range uint8(16) {
		s, p := holed()
		h := fileOf(t, s, can)
		once, twice := window.Read(h), window.Read(window.Read(h))
		if once.Can() != twice.Can() || once.Can() != can&api.CanHoles {
			t.Errorf("set %d: it can %d, and %d", can, once.Can(), twice.Can())
		}
		for _, op := range edges() {
			wantTold(t, twice, op, once.Do(op))
		}
		all := fileOf(t, s, 15)
		for range 200 {
			op := c.op()
			wantTold(t, all, op, p.do(lens{can: 15}, op))
			op = c.op()
			told := p.do(lens{can: can & api.CanHoles}, op)
			wantTold(t, once, op, told)
			wantTold(t, twice, op, told)
		}
		p.wantState(t, s)
	}
}

func TestP54Nil(t *testing.T) {
	for _, none := range []*face.Handle{nil, {}} {
		if r := window.Read(none); r != nil {
			t.Errorf("Read of nil answers %v", r)
		}
	}
	if r := window.Read(window.Read(nil)); r != nil || r.Can() != 0 || r.Do(api.Op{}).E != api.ErrNil {
		t.Errorf("Read of nil twice answers %v", r)
	}
}
