package store_test

import (
	"testing"

	"mantle/api"
	"mantle/store"
)

// both is a store over a spy, and its tree on paper.
type both struct {
	store  *store.Store
	spy    *spy
	paper  *paper
	blocks int
}

// bothOf is a new store of so many blocks.
func bothOf(t *testing.T, blocks int) *both {
	t.Helper()
	s, f := made(t, blocks)
	return &both{s, f, newPaper(), blocks}
}

// want does it to both, and holds what is told, which it tells. ErrSpace may come where all else went well and the tree would have too great a cost; then all is as it was.
func (x *both) want(t *testing.T, a act) told {
	t.Helper()
	was := x.paper.twin()
	want, got := a.onPaper(x.paper), a.on(x.store)
	switch {
	case got == want:
	case got == told{e: api.ErrSpace} && want.e == api.OK && a.changes() && x.paper.cost() > x.blocks:
		x.paper = was
	default:
		t.Fatalf("%s tells %.300q, %v, want %.300q, %v (the tree's cost is %d, of %d blocks)", a.text(), got.text, got.e, want.text, want.e, x.paper.cost(), x.blocks)
	}
	return got
}

// do does it to both, as something that goes well.
func (x *both) do(t *testing.T, l ...act) {
	t.Helper()
	for _, a := range l {
		if got := x.want(t, a); got.e != api.OK {
			t.Fatalf("%s tells %v", a.text(), got.e)
		}
	}
}

// wantE does it to both, and holds the error that is told.
func (x *both) wantE(t *testing.T, want api.Errno, a act) {
	t.Helper()
	if got := x.want(t, a); got.e != want {
		t.Errorf("%s tells %v, want %v", a.text(), got.e, want)
	}
}

// wantTree holds the tree, and that nothing is complained of.
func (x *both) wantTree(t *testing.T) {
	t.Helper()
	wantTree(t, x.store, x.paper)
}

// wantTree holds that a store tells the tree on paper, and complains of nothing.
func wantTree(t *testing.T, s *store.Store, m *paper) {
	t.Helper()
	if got, want := itemsOf(t, s), listText(m.list()); got != want {
		t.Fatalf("Items tells %.900s, want %.900s", got, want)
	}
	wantWhole(t, s)
}

// wantStays holds that behind a Sync the file below is a store with the same tree.
func (x *both) wantStays(t *testing.T) *store.Store {
	t.Helper()
	wantE(t, x.store.Sync(), api.OK)
	s := opened(t, x.spy.bytes(t))
	wantTree(t, s, x.paper)
	return s
}

// changes tells whether it is a call that may find no room.
func (a act) changes() bool {
	return a.do != doRead && a.do != doItems && a.do != doSync
}

func makes(p string, kind int8, to string) act { return act{do: doMake, p: p, kind: kind, to: to} }

func file(p string) act { return makes(p, api.NodeFile, "") }

func dir(p string) act { return makes(p, api.NodeDir, "") }

func link(p, to string) act { return makes(p, api.NodeLink, to) }

func write(p string, at int64, b []byte) act { return act{do: doWrite, p: p, at: at, b: b} }

func read(p string, at int64, n int) act { return act{do: doRead, p: p, at: at, n: n} }

func cut(p string, size int64) act { return act{do: doCut, p: p, at: size} }

func drop(p string) act { return act{do: doDrop, p: p} }

func move(p, to string) act { return act{do: doMove, p: p, to: to} }

// all are all calls that are handed a path.
func all(p string) []act {
	return []act{file(p), dir(p), link(p, "x"), makes(p, api.NodeMount, ""), write(p, 0, []byte("b")), read(p, 0, 1), cut(p, 1), drop(p), move(p, "to"), move(p, p), move("d", p)}
}

// mixed is a store in which there is something of each kind, below several directories.
func mixed(t *testing.T, blocks int) *both {
	t.Helper()
	x := bothOf(t, blocks)
	x.do(t,
		dir("d"), dir("d/e"), file("d/e/f"), dir("d/empty"), link("d/l", "e/f"),
		dir("dd"), file("d.e"), file("f"), link("l", "d"), link("gone", "no/such"),
		write("d/e/f", 0, []byte("deep")), write("f", 3, []byte("xyz")),
	)
	return x
}

// fill makes a file, and lets it get longer until there is no room for one byte more.
func (x *both) fill(t *testing.T, p string) {
	t.Helper()
	x.do(t, file(p))
	size := lengthen(func(size int64) api.Errno { return x.want(t, cut(p, size)).e })
	x.wantE(t, api.ErrSpace, cut(p, size+1))
}

// lengthen cuts a file that has no bytes to more and more, and tells to how many it could be cut at most.
func lengthen(cut func(size int64) api.Errno) (size int64) {
	for step := int64(1 << 15); step > 0; step /= 2 {
		if cut(size+step) == api.OK {
			size += step
		}
	}
	return size
}
