package rights_test

import (
	"reflect"
	"slices"
	"testing"

	"mantle/api"
	"mantle/face"
	"mantle/rights"
)

// canOf is what a guard of a grant with these rights can over a file that can so much: P17.5, word for word.
func canOf(has, can uint8) uint8 {
	if has&api.RightWrite == 0 {
		can &= api.CanHoles | api.CanSync
	}
	if has&api.RightRead == 0 {
		can &= api.CanWrite | api.CanCut | api.CanSync
	}
	return can
}

// guard is a Guard that is to be taken.
func (d *desk) guard(id int, h *face.Handle) *face.Handle {
	d.t.Helper()
	g, e := d.book.Guard(id, h)
	if g == nil || e != api.OK {
		d.t.Fatalf("Guard(%d) answers %v, %v", id, g, e)
	}
	return g
}

// tells is what is to be told of op through a guard of the grant id over a file that can so much: P17.5, word for word. What it leaves to the file is asked of plain.
func (p paper) tells(id int, can uint8, op api.Op, plain func(api.Op) api.Told) api.Told {
	if op.Do < 0 || op.Do > 5 {
		return api.Told{E: api.ErrArg}
	}
	if bit := [6]uint8{0, 0, 1, 2, 4, 8}[op.Do]; canOf(p[id].rights, can)&bit != bit {
		return api.Told{E: api.ErrCan}
	}
	e := api.OK
	if !p.has(id) {
		e = api.ErrGone
	} else if p[id].rights&right(op) == 0 {
		e = api.ErrRight
	}
	switch {
	case e == api.OK:
		return plain(op)
	case op.Do == api.DoSize || op.Do == api.DoNext:
		return api.Told{}
	}
	return api.Told{E: e}
}

// wantCan asks a handle in all ways what it can.
func wantCan(t *testing.T, h *face.Handle, can uint8) {
	t.Helper()
	names := []string{"ReadAt", "Size"}
	for i, name := range []string{"WriteAt", "Cut", "Next", "Sync"} {
		if can>>i&1 == 1 {
			names = append(names, name)
		}
	}
	slices.Sort(names)
	var got []string
	for m := range reflect.TypeOf(h.File()).Methods() {
		got = append(got, m.Name)
	}
	if h.Can() != can || !slices.Equal(got, names) {
		t.Errorf("it can %d, by %v, want %d", h.Can(), got, can)
	}
	for do, bit := range []uint8{0, 0, api.CanWrite, api.CanCut, api.CanHoles, api.CanSync} {
		if _, fell := h.Must(api.Op{Do: int8(do)}); fell != (can&bit != bit) {
			t.Errorf("can %d: Must of %d fell: %v", can, do, fell)
		}
	}
}

// P17.5: each set of rights over files of each set of what they can; also when the grant is gone.
func TestP175Can(t *testing.T) {
	for has := range uint8(64) {
		for can := range uint8(16) {
			d := newDesk(t)
			id := d.given(0, has)
			s := newSpy()
			g := d.guard(id, s.handle(can))
			s.wantCalls(t)
			wantCan(t, g, canOf(has, can))
			wantCan(t, d.guard(id, newFile(t, "abc", can)), canOf(has, can))
			wantCan(t, d.guard(id, newFile(t, "abc", 15).Only(can)), canOf(has, can))
			d.back(id)
			wantCan(t, g, canOf(has, can))
		}
	}
}

// P17.5: the rights besides RightRead and RightWrite count for nothing, RightGive neither; grant 0 hides nothing.
func TestP175CanOfFew(t *testing.T) {
	h := newFile(t, "abc", 15)
	for _, x := range [][2]uint8{{0, 8}, {1, 12}, {2, 11}, {3, 15}, {4, 8}, {8, 8}, {16, 8}, {32, 8}, {60, 8}, {61, 12}, {62, 11}, {63, 15}} {
		d := newDesk(t)
		wantCan(t, d.guard(d.given(0, x[0]), h), x[1])
	}
	wantCan(t, newDesk(t).guard(0, h), 15)
}

// P17.5: a nil book, a nil handle, both, as what there is not, or as what a refused call answered; ahead of ErrGone.
func TestP175Nil(t *testing.T) {
	var none *rights.Book
	d := newDesk(t)
	gone := d.given(0, 63)
	d.back(gone)
	s := newSpy()
	refused, _ := d.book.Guard(gone, s.handle(15))
	for _, id := range []int{-1, 0, gone, 9} {
		for _, h := range []*face.Handle{nil, {}, refused} {
			for _, b := range []*rights.Book{none, d.book} {
				if g, e := b.Guard(id, h); g != nil || e != api.ErrNil {
					t.Errorf("Guard(%d) of no file answers %v, %v", id, g, e)
				}
			}
		}
		for can := range uint8(16) {
			if g, e := none.Guard(id, s.handle(can)); g != nil || e != api.ErrNil {
				t.Errorf("Guard(%d) of no book answers %v, %v", id, g, e)
			}
		}
	}
	s.wantCalls(t)
	wantTold(t, refused, api.Op{Do: api.DoRead}, api.Told{E: api.ErrNil})
}

// P17.5: no grant: numbers that never were, and gone ones, by themselves and with another one.
func TestP175Gone(t *testing.T) {
	d := family(t)
	d.back(4)
	s := newSpy()
	for _, id := range append(never(len(d.paper)), 4, 6, 7, 8) {
		for can := range uint8(16) {
			if g, e := d.book.Guard(id, s.handle(can)); g != nil || e != api.ErrGone {
				t.Errorf("Guard(%d) answers %v, %v", id, g, e)
			}
		}
	}
	s.wantCalls(t)
	d.wantAll()
}

// Guards are handles of their own, each time; making them asks and changes nothing.
func TestP175EachItsOwn(t *testing.T) {
	d := newDesk(t)
	id := d.given(0, 3)
	s := newSpy()
	h := s.handle(15)
	l := []*face.Handle{h, d.guard(id, h), d.guard(id, h), d.guard(0, h), d.guard(0, h)}
	for i, a := range l {
		for _, b := range l[:i] {
			if a == b || a.File() == b.File() {
				t.Error("two handles are the same")
			}
		}
	}
	s.wantCalls(t)
	d.wantAll()
	if n := d.given(0, 1); n != id+1 {
		t.Errorf("guards took numbers: the next one is %d", n)
	}
}

// wantThrough does all ops through a guard of id over a spy, and holds what is told and what comes to the file.
func (d *desk) wantThrough(g *face.Handle, id int, can uint8, s *spy) {
	d.t.Helper()
	for _, op := range ops() {
		var calls []string
		want := d.paper.tells(id, can, op, func(op api.Op) api.Told {
			calls = append(calls, call(op))
			return s.told[op.Do]
		})
		wantTold(d.t, g, op, want)
		s.wantCalls(d.t, calls...)
	}
}

// P17.5: each call with and without the right that it wants, ahead of Back and behind it. What is not refused comes to the file as it is, wrong numbers too; what is refused does not.
func TestP175EachCall(t *testing.T) {
	for has := range uint8(64) {
		can := uint8(15)
		d := newDesk(t)
		id := d.given(0, has)
		s := newSpy()
		g := d.guard(id, s.handle(can))
		d.wantThrough(g, id, can, s)
		d.wantThrough(d.guard(0, s.handle(can)), 0, can, s)
		d.back(id)
		d.wantThrough(g, id, can, s)
		if t.Failed() {
			t.Fatalf("rights %d", has)
		}
	}
}

// The same over files that can less.
func TestP175EachCallOfFilesThatCanLess(t *testing.T) {
	for can := range uint8(15) {
		for has := range uint8(4) {
			d := newDesk(t)
			id := d.given(0, has)
			s := newSpy()
			g := d.guard(id, s.handle(can))
			d.wantThrough(g, id, can, s)
			d.back(id)
			d.wantThrough(g, id, can, s)
		}
	}
}

// The same as the chapter tells it, and not by the paper.
func TestP175ByHand(t *testing.T) {
	read, write, cut, next := api.Op{Do: api.DoRead, N: 9}, api.Op{Do: api.DoWrite, At: 1, B: []byte("x")}, api.Op{Do: api.DoCut, At: 2}, api.Op{Do: api.DoNext}
	size, sync := api.Op{Do: api.DoSize}, api.Op{Do: api.DoSync}
	d := newDesk(t)
	h := newFile(t, "abc", 15)
	reader, writer, both, neither := d.given(0, 1), d.given(0, 2), d.given(0, 3), d.given(0, 60)
	r, w, b, n := d.guard(reader, h), d.guard(writer, h), d.guard(both, h), d.guard(neither, h)
	wantTold(t, r, size, api.Told{N: 3})
	wantTold(t, r, read, api.Told{Data: []byte("abc")})
	wantTold(t, r, write, api.Told{E: api.ErrCan})
	wantTold(t, r, cut, api.Told{E: api.ErrCan})
	wantTold(t, r, next, api.Told{M: 3})
	wantTold(t, r, sync, api.Told{E: api.ErrRight})
	wantTold(t, w, size, api.Told{})
	wantTold(t, w, read, api.Told{E: api.ErrRight})
	wantTold(t, w, api.Op{Do: api.DoRead, At: -1, N: -1}, api.Told{E: api.ErrRight})
	wantTold(t, w, write, api.Told{})
	wantTold(t, w, api.Op{Do: api.DoWrite, At: -1}, api.Told{E: api.ErrArg})
	wantTold(t, w, next, api.Told{E: api.ErrCan})
	wantTold(t, w, sync, api.Told{})
	wantTold(t, b, read, api.Told{Data: []byte("axc")})
	wantTold(t, w, cut, api.Told{})
	wantTold(t, b, size, api.Told{N: 2})
	wantTold(t, b, next, api.Told{M: 2})
	wantTold(t, b, write, api.Told{})
	wantTold(t, b, sync, api.Told{})
	wantTold(t, n, size, api.Told{})
	wantTold(t, n, read, api.Told{E: api.ErrRight})
	wantTold(t, n, sync, api.Told{E: api.ErrRight})
	for i, op := range []api.Op{write, cut, next} {
		wantTold(t, n, op, api.Told{E: api.ErrCan})
		d.back([]int{reader, writer, both}[i])
	}
	for _, g := range []*face.Handle{r, w, b} {
		wantTold(t, g, size, api.Told{})
		wantTold(t, g, read, api.Told{E: api.ErrGone})
		wantTold(t, g, api.Op{Do: api.DoRead, At: -1, N: -1}, api.Told{E: api.ErrGone})
		wantTold(t, g, sync, api.Told{E: api.ErrGone})
	}
	for _, op := range []api.Op{write, cut, {Do: api.DoWrite, At: -1}, {Do: api.DoCut, At: -1}} {
		wantTold(t, w, op, api.Told{E: api.ErrGone})
		wantTold(t, b, op, api.Told{E: api.ErrGone})
	}
	wantTold(t, b, next, api.Told{})
	wantTold(t, r, next, api.Told{})
	wantTold(t, n, read, api.Told{E: api.ErrRight})
	wantBytes(t, "ax", h)
}

// A grant goes with each one above it.
func TestP175BackOfOneAbove(t *testing.T) {
	for above := 1; above <= 5; above++ {
		d := newDesk(t)
		s := newSpy()
		h := s.handle(15)
		var guards []*face.Handle
		for of := range 6 {
			guards = append(guards, d.guard(d.given(of, 3), h))
		}
		d.back(above)
		for i, g := range guards {
			d.wantThrough(g, i+1, 15, s)
			if gone := g.Do(api.Op{Do: api.DoRead}).E == api.ErrGone; gone != (i+1 >= above) {
				t.Errorf("behind Back(%d) the guard of %d is gone: %v", above, i+1, gone)
			}
			s.calls = nil
		}
	}
}

// Back of others, and of what came of it, leaves a guard as it was; new grants bring none back.
func TestP175BackOfOthers(t *testing.T) {
	d := family(t)
	h := newFile(t, "abc", 15)
	g, other := d.guard(4, h), d.guard(9, h)
	for _, id := range []int{5, 6, 3, 11} {
		d.back(id)
		wantBytes(t, "abc", g, other)
	}
	d.back(1)
	wantTold(t, g, api.Op{Do: api.DoRead}, api.Told{E: api.ErrGone})
	wantBytes(t, "abc", other)
	for len(d.paper) < api.MaxRights {
		d.given(0, 63)
	}
	wantTold(t, g, api.Op{Do: api.DoRead}, api.Told{E: api.ErrGone})
	wantBytes(t, "abc", other)
}

// What the file answers is told as it is: errors, Sizes and stretches of all kinds, and what it tells beside an error.
func TestP175AsTheFileTells(t *testing.T) {
	d := newDesk(t)
	id := d.given(0, 3)
	for _, e := range []api.Errno{api.OK, api.ErrNil, api.ErrArg, api.ErrCan, api.ErrGone, api.ErrRight, api.ErrScript, -1, 1 << 40} {
		for _, n := range []int64{-1 << 63, -1, 0, 1, api.MaxSize + 1, 1<<63 - 1} {
			s := newSpy()
			for do := range s.told {
				s.told[do].E = e
			}
			s.told[api.DoSize] = api.Told{N: n}
			s.told[api.DoNext] = api.Told{N: n, M: -n}
			d.wantThrough(d.guard(id, s.handle(15)), id, 15, s)
		}
	}
}

// The book is asked at the beginning of each call: a grant that goes while the call is under way lets it come to its end, and none behind it.
func TestP175GoneMeanwhile(t *testing.T) {
	for _, op := range []api.Op{{Do: api.DoSize}, {Do: api.DoRead, N: 4}, {Do: api.DoWrite, B: []byte("x")}, {Do: api.DoCut}, {Do: api.DoNext}, {Do: api.DoSync}} {
		d := newDesk(t)
		id := d.given(0, 3)
		s := newSpy()
		g := d.guard(id, s.handle(15))
		s.first = func() { d.back(id) }
		wantTold(t, g, op, s.told[op.Do])
		s.wantCalls(t, call(op))
		d.wantThrough(g, id, 15, s)
	}
}

// keeper is a file that keeps the lists that it is handed and writes into them, and hands out its own memory.
type keeper struct {
	spy
	own  []byte
	kept [][]byte
}

func (k *keeper) ReadAt(int64, int) ([]byte, api.Errno) { return k.own, api.OK }

func (k *keeper) WriteAt(_ int64, b []byte) api.Errno {
	k.kept = append(k.kept, slices.Clone(b))
	room := b[:cap(b)]
	clear(room)
	return api.OK
}

// R3: lists that go in stay as they are, with the room behind, and those that come out are new; also where the methods themselves are called, and the file is careless.
func TestListsAreApart(t *testing.T) {
	d := newDesk(t)
	k := &keeper{own: []byte("abc")}
	g := d.guard(d.given(0, 3), face.Make(k, k, nil, nil, nil))
	b := []byte("abcdef")
	if e := g.File().(api.Writer).WriteAt(0, b[:3]); e != api.OK || string(b) != "abcdef" {
		t.Errorf("%v, the caller's bytes became %q", e, b)
	}
	if len(k.kept) != 1 || string(k.kept[0]) != "abc" {
		t.Errorf("the file was handed %q", k.kept)
	}
	for range 2 {
		l, e := g.File().ReadAt(0, 9)
		if string(l) != "abc" || e != api.OK {
			t.Errorf("%q, %v is read", l, e)
		}
		clear(l[:cap(l)])
		_ = append(l, "!!!"...)
	}
}

// The methods of the guard's file tell what Do tells.
func TestP175ByMethods(t *testing.T) {
	d := newDesk(t)
	id := d.given(0, 3)
	s := newSpy()
	f := d.guard(id, s.handle(15)).File()
	check := func(told [6]api.Told, calls int) {
		t.Helper()
		if n := f.Size(); n != told[0].N {
			t.Errorf("Size tells %d", n)
		}
		if b, e := f.ReadAt(1, 2); string(b) != string(told[1].Data) || e != told[1].E {
			t.Errorf("ReadAt tells %q, %v", b, e)
		}
		if e := f.(api.Writer).WriteAt(1, nil); e != told[2].E {
			t.Errorf("WriteAt tells %v", e)
		}
		if e := f.(api.Cutter).Cut(1); e != told[3].E {
			t.Errorf("Cut tells %v", e)
		}
		if from, to := f.(api.Holer).Next(1); from != told[4].N || to != told[4].M {
			t.Errorf("Next tells %d, %d", from, to)
		}
		if e := f.(api.Syncer).Sync(); e != told[5].E {
			t.Errorf("Sync tells %v", e)
		}
		if len(s.calls) != calls {
			t.Errorf("%d calls came to the file, want %d", len(s.calls), calls)
		}
		s.calls = nil
	}
	check(s.told, 6)
	d.back(id)
	gone := api.Told{E: api.ErrGone}
	check([6]api.Told{{}, gone, gone, gone, {}, gone}, 0)
}
