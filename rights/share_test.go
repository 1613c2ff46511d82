package rights_test

import (
	"sync"
	"testing"

	"mantle/api"
	"mantle/cipher"
	"mantle/face"
	"mantle/journal"
	"mantle/quota"
	"mantle/tee"
	"mantle/window"
)

// over is a guard over a guard: two books, or one twice; ids of grants with these rights each.
type over struct {
	low, high     *desk
	lowID, highID int
	inner, outer  *face.Handle
}

func newOver(low, high *desk, a, b uint8, h *face.Handle) over {
	o := over{low: low, high: high, lowID: low.given(0, a), highID: high.given(0, b)}
	o.inner = low.guard(o.lowID, h)
	o.outer = high.guard(o.highID, o.inner)
	return o
}

// want holds each call through the outer guard: the upper book is asked first, then the lower one.
func (o over) want(can uint8, s *spy) {
	o.high.t.Helper()
	a := o.low.paper[o.lowID].rights
	for _, op := range ops() {
		var calls []string
		file := func(op api.Op) api.Told {
			calls = append(calls, call(op))
			return s.told[op.Do]
		}
		below := func(op api.Op) api.Told { return o.low.paper.tells(o.lowID, can, op, file) }
		wantTold(o.high.t, o.outer, op, o.high.paper.tells(o.highID, canOf(a, can), op, below))
		s.wantCalls(o.high.t, calls...)
	}
}

// Guards over guards, of each two sets of rights, of one book and of two, and what each of them takes back.
func TestGuardsOverGuards(t *testing.T) {
	for a := range uint8(4) {
		for b := range uint8(4) {
			for i := range 8 {
				low := newDesk(t)
				high := low
				if i%2 == 1 {
					high = newDesk(t)
				}
				s := newSpy()
				o := newOver(low, high, a, b, s.handle(15))
				wantCan(t, o.outer, canOf(a, 15)&canOf(b, 15))
				s.calls = nil
				if i&2 != 0 {
					low.back(o.lowID)
				}
				if i&4 != 0 {
					high.back(o.highID)
				}
				if o.want(15, s); t.Failed() {
					t.Fatalf("rights %d below, %d above, case %d", a, b, i)
				}
			}
		}
	}
}

// The outer guard does not read where only the lower one may not: the lower one refuses by itself.
func TestGuardOverBlindGuard(t *testing.T) {
	d := newDesk(t)
	o := newOver(d, d, api.RightWrite, 63, newFile(t, "abc", 15))
	wantTold(t, o.outer, api.Op{Do: api.DoRead, N: 3}, api.Told{E: api.ErrRight})
	wantTold(t, o.outer, api.Op{Do: api.DoSize}, api.Told{})
	wantTold(t, o.outer, api.Op{Do: api.DoWrite, B: []byte("x")}, api.Told{})
	d.back(o.lowID)
	wantTold(t, o.outer, api.Op{Do: api.DoWrite, B: []byte("x")}, api.Told{E: api.ErrGone})
	wantTold(t, o.outer, api.Op{Do: api.DoSync}, api.Told{E: api.ErrGone})
}

// Very many guards, one over the other, of grants each of which came of the one ahead: all tell what the file tells, until one grant goes.
func TestManyGuardsOverGuards(t *testing.T) {
	d := newDesk(t)
	h := newFile(t, "abc", 15)
	g := h
	for of := range api.MaxRights - 1 {
		g = d.guard(d.given(of, 3), g)
	}
	wantTold(t, g, api.Op{Do: api.DoWrite, At: 3, B: []byte("def")}, api.Told{})
	wantBytes(t, "abcdef", g, h)
	if n, e := d.book.Back(4095); n != 1 || e != api.OK {
		t.Errorf("Back answers %d, %v", n, e)
	}
	wantTold(t, g, api.Op{Do: api.DoRead, N: 9}, api.Told{E: api.ErrGone})
	wantBytes(t, "abcdef", h)
}

// Several guards over one file: each asks for its own grant, and what is written through one is read through the others.
func TestSeveralGuardsOverOneFile(t *testing.T) {
	d := newDesk(t)
	h := newFile(t, "abc", 15)
	a, b := d.given(0, 3), d.given(0, 3)
	one, two, again, root := d.guard(a, h), d.guard(b, h), d.guard(a, h), d.guard(0, h)
	wantTold(t, one, api.Op{Do: api.DoWrite, At: 1, B: []byte("XYZ")}, api.Told{})
	wantBytes(t, "aXYZ", one, two, again, root, h)
	wantTold(t, two, api.Op{Do: api.DoCut, At: 2}, api.Told{})
	wantBytes(t, "aX", one, two, again, root, h)
	d.back(a)
	for _, g := range []*face.Handle{one, again} {
		wantTold(t, g, api.Op{Do: api.DoWrite, B: []byte("!")}, api.Told{E: api.ErrGone})
	}
	wantTold(t, two, api.Op{Do: api.DoWrite, B: []byte("A")}, api.Told{})
	wantBytes(t, "AX", two, root, h)
}

// One grant's guards over several files: all of them go at once, and no file notices.
func TestSeveralFilesOfOneGrant(t *testing.T) {
	d := newDesk(t)
	id := d.given(0, 3)
	var spies []*spy
	var guards []*face.Handle
	for range 20 {
		s := newSpy()
		spies, guards = append(spies, s), append(guards, d.guard(id, s.handle(15)))
	}
	d.back(id)
	for i, g := range guards {
		d.wantThrough(g, id, 15, spies[i])
	}
}

// Guards of several books over one file: a number of one book is nothing to the others.
func TestSeveralBooks(t *testing.T) {
	h := newFile(t, "abc", 15)
	var desks []*desk
	var guards []*face.Handle
	for i := range uint8(4) {
		d := newDesk(t)
		desks, guards = append(desks, d), append(guards, d.guard(d.given(0, i), h))
	}
	for i, d := range desks {
		for j, g := range guards {
			want := api.Told{Data: []byte("abc")}
			if j%2 == 0 {
				want = api.Told{E: api.ErrRight}
			}
			if j < i {
				want = api.Told{E: api.ErrGone}
			}
			wantTold(t, g, api.Op{Do: api.DoRead, N: 9}, want)
		}
		d.back(1)
	}
}

// Guards over wrappers, and wrappers over guards: what the wrapper can follows, and a grant that goes stops what goes through it.
func TestGuardsAndWrappers(t *testing.T) {
	d := newDesk(t)
	s := newSpy()
	id := d.given(0, 3)
	w, e := window.New(d.guard(id, newFile(t, "0123456789", 15)), 2, 4)
	if e != api.OK || w.Can() != api.CanWrite|api.CanHoles|api.CanSync {
		t.Fatalf("a window over a guard can %d, %v", w.Can(), e)
	}
	wantBytes(t, "2345", w)
	crypt, e := cipher.New(newFile(t, "", 15), 7)
	if e != api.OK {
		t.Fatal(e)
	}
	g := d.guard(id, crypt)
	wantCan(t, g, 11)
	wantTold(t, g, api.Op{Do: api.DoWrite, B: []byte("abc")}, api.Told{})
	wantBytes(t, "abc", g, crypt)
	p, _ := quota.NewPurse(2)
	full, e := quota.New(newFile(t, "", 15), p)
	if e != api.OK {
		t.Fatal(e)
	}
	wantTold(t, d.guard(id, full), api.Op{Do: api.DoWrite, B: []byte("abc")}, api.Told{E: api.ErrQuota})
	j, e := journal.New(d.guard(id, newFile(t, "abc", 15)), newFile(t, "", 15))
	if e != api.OK {
		t.Fatal(e)
	}
	wantTold(t, j, api.Op{Do: api.DoWrite, At: 1, B: []byte("x")}, api.Told{})
	both, e := tee.New(s.handle(15), d.guard(id, newFile(t, "abc", 15)))
	if e != api.OK {
		t.Fatal(e)
	}
	d.back(id)
	wantTold(t, w, api.Op{Do: api.DoWrite, B: []byte("x")}, api.Told{E: api.ErrGone})
	wantTold(t, w, api.Op{Do: api.DoSize}, api.Told{})
	wantTold(t, j, api.Op{Do: api.DoSync}, api.Told{E: api.ErrGone})
	wantTold(t, both, api.Op{Do: api.DoCut}, api.Told{E: api.ErrGone})
	s.wantCalls(t)
	wantBytes(t, "abc", crypt)
}

// R2: books that several goroutines ask at a time answer as for one.
func TestManyAskAtATime(t *testing.T) {
	d := family(t)
	d.back(6)
	h := newFile(t, "abc", 15)
	g := d.guard(4, h)
	var all sync.WaitGroup
	for range 8 {
		all.Go(func() {
			for range 50 {
				d.wantAll()
				wantBytes(t, "abc", g)
				if _, e := d.book.Guard(6, h); e != api.ErrGone {
					t.Error(e)
				}
			}
		})
	}
	all.Wait()
}
