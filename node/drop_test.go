package node_test

import (
	"fmt"
	"strings"
	"testing"

	"mantle/api"
)

// absent are names that no directory here holds; some no directory can.
func absent() []string {
	return []string{"", ".", "..", "/", "\x00", "z", "A", "a ", "a/b", "a/", "./a", strings.Repeat("n", 65), strings.Repeat("n", 1<<16)}
}

// P18.4: Drop, Take and Get of what is not there.
func TestP184None(t *testing.T) {
	w := newWorld(t)
	empty, d, e := w.dir(), w.dir(), w.dir()
	w.added(d, "a", e)
	w.added(e, "b", w.white())
	for _, n := range []int{empty, d, e} {
		for _, name := range absent() {
			w.get(n, name)
			if e := w.drop(n, name); e != api.ErrNone {
				t.Errorf("Drop is %v on paper", e)
			}
			if _, e := w.take(n, name); e != api.ErrNone {
				t.Errorf("Take is %v on paper", e)
			}
		}
	}
	w.wantAll()
}

// P18.4: what was dropped or taken is there no more, and can neither be dropped nor taken again.
func TestP184Gone(t *testing.T) {
	w := newWorld(t)
	for _, m := range append(w.leaves(), w.dir()) {
		d := w.dir()
		for range 3 {
			w.added(d, "a", m)
			w.get(d, "a")
			w.drop(d, "a")
			w.get(d, "a")
			w.drop(d, "a")
			w.take(d, "a")
			w.wantAll()
			w.added(d, "a", m)
			w.take(d, "a")
			w.get(d, "a")
			w.drop(d, "a")
			w.take(d, "a")
			w.wantAll()
		}
	}
}

// P18.4: one name goes, the others stay, those of the same node too.
func TestP184OneGoes(t *testing.T) {
	for _, take := range []bool{false, true} {
		w := newWorld(t)
		d, e, f := w.dir(), w.dir(), w.file("abc")
		for i := range 6 {
			w.added(d, fmt.Sprint(i), f)
			w.added(e, fmt.Sprint(i), f)
			w.added(d, fmt.Sprint("d", i), w.dir())
		}
		for _, name := range []string{"3", "d2", "0", "5", "d5"} {
			if take {
				w.take(d, name)
			} else {
				w.drop(d, name)
			}
			w.wantAll()
		}
	}
}

// P18.4: Drop refuses a directory that holds something, whatever that is; Take does not.
func TestP184Empty(t *testing.T) {
	w := newWorld(t)
	for _, m := range append(w.leaves(), w.dir()) {
		top, d := w.dir(), w.dir()
		w.added(top, "d", d)
		w.added(d, "m", m)
		if e := w.drop(top, "d"); e != api.ErrEmpty {
			t.Errorf("Drop is %v on paper", e)
		}
		w.wantAll()
		if n, e := w.take(top, "d"); n != d || e != api.OK {
			t.Errorf("Take is %d, %v on paper", n, e)
		}
		w.wantAll()
		w.added(top, "d", d)
		w.drop(d, "m")
		if e := w.drop(top, "d"); e != api.OK {
			t.Errorf("Drop of the empty directory is %v on paper", e)
		}
		w.wantAll()
	}
}

// P18.4: a mount of a directory that holds something is no such directory: it is dropped, and that stays as it is.
func TestP184DropMount(t *testing.T) {
	w := newWorld(t)
	top, d := w.dir(), w.dir()
	w.added(d, "x", w.white())
	w.added(top, "d", d)
	w.added(top, "m", w.mount(d))
	if e := w.drop(top, "m"); e != api.OK {
		t.Errorf("Drop of a mount is %v on paper", e)
	}
	w.wantAdd(w.dir(), "d", d, api.ErrThere)
	if e := w.drop(top, "d"); e != api.ErrEmpty {
		t.Errorf("Drop of the directory is %v on paper", e)
	}
	w.added(top, "m", w.mount(d))
	w.take(top, "m")
	w.wantAdd(w.dir(), "d", d, api.ErrThere)
	w.wantAll()
}

// P18.4: a directory that was taken stands nowhere, and all below it stands where it stood.
func TestP184TakeWhole(t *testing.T) {
	w := newWorld(t)
	l := w.chain(w.dir(), 20)
	for i, d := range l {
		w.added(d, "file", w.file(fmt.Sprint("of ", i)))
	}
	w.take(l[7], "c")
	w.wantAll()
	other := w.dir()
	w.added(other, "here", l[8])
	for _, d := range l[9:] {
		w.wantAdd(other, "x", d, api.ErrThere)
		w.wantAdd(d, "x", other, api.ErrLoop)
	}
	for _, d := range l[8:] {
		w.wantAdd(l[7], "c", d, api.ErrThere)
	}
	w.added(l[7], "c", w.dir())
	w.wantAll()
}

// P18.4: Get, Drop and Take look for one name in one directory: no path, and nothing under a mount.
func TestP184NoPath(t *testing.T) {
	w := newWorld(t)
	l := w.chain(w.dir(), 3)
	w.added(l[0], "m", w.mount(l[1]))
	for _, name := range []string{"c/c", "/c", "c/", "m/c", "./c", "../c", "c/.", "c/.."} {
		w.get(l[0], name)
		w.drop(l[0], name)
		w.take(l[0], name)
	}
	w.wantAll()
}

// P18.6: what was dropped is what it was.
func TestP186Dropped(t *testing.T) {
	w := newWorld(t)
	d, f := w.dir(), w.file("abc")
	w.added(d, "f", f)
	n, e := w.nodes[d].Get("f")
	if e != api.OK {
		t.Fatal(e)
	}
	h, _ := n.Open()
	w.drop(d, "f")
	if told := h.Do(api.Op{Do: api.DoWrite, At: 3, B: []byte("def")}); told.E != api.OK {
		t.Errorf("a write behind Drop: %v", told.E)
	}
	again, e := n.Open()
	if e != api.OK || again != h || string(again.Do(api.Op{Do: api.DoRead, N: 9}).Data) != "abcdef" {
		t.Errorf("it does not read on: %v", e)
	}
	w.added(d, "g", f)
	w.wantAll()
}

// P18.6: a directory's nodes are its own still, and more may be added to it while it stands nowhere.
func TestP186DirectoryGoesOn(t *testing.T) {
	w := newWorld(t)
	top, d := w.dir(), w.dir()
	w.added(top, "d", d)
	w.drop(top, "d")
	e := w.added(d, "e", w.dir())
	w.added(e, "f", w.file("abc"))
	w.added(top, "d", d)
	w.wantAll()
	w.take(top, "d")
	w.take(d, "e")
	w.added(top, "e", e)
	w.added(e, "d", d)
	w.wantAll()
}

// P18.6: what Add refuses has changed nothing: neither does the directory hold it, nor does it stand somewhere.
func TestP186Refused(t *testing.T) {
	w := newWorld(t)
	l := w.chain(w.dir(), 64)
	m, other := w.dir(), w.dir()
	w.added(other, "a", w.white())
	w.wantAdd(l[64], "x", m, api.ErrLong)
	w.wantAdd(l[0], "no/name", m, api.ErrName)
	w.wantAdd(l[0], "c", m, api.ErrThere)
	w.wantAdd(w.white(), "x", m, api.ErrDir)
	w.wantAdd(-1, "x", m, api.ErrNil)
	w.wantAdd(l[64], "x", l[0], api.ErrLoop)
	w.wantAdd(other, "x", l[9], api.ErrThere)
	w.wantAll()
	w.added(other, "m", m)
	w.added(m, "top", w.dir())
	w.added(w.dir(), "top", other)
	w.wantAll()
}
