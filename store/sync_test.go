package store_test

import (
	"bytes"
	"slices"
	"strings"
	"testing"

	"mantle/api"
	"mantle/disk"
	"mantle/store"
	"mantle/tree"
)

// The order is that of paths byte by byte, not that of names directory by directory; and the tree is a tree of items.
func TestP226Items(t *testing.T) {
	x := bothOf(t, 512)
	wantPaths(t, x.store)
	x.do(t, dir("a"), file("a/c"), file("a.b"), dir("a0"), link("a-", "a"), dir("a/c-"), dir("a/d"), file("a/d/a"), file("a/d.a"), file("\xff"), file("B"), write("a/c", 1, []byte("c")))
	wantPaths(t, x.store, "B", "a", "a-", "a.b", "a/c", "a/c-", "a/d", "a/d.a", "a/d/a", "a0", "\xff")
	l, e := x.store.Items()
	wantE(t, e, api.OK)
	root, e, _ := tree.Make(l)
	wantE(t, e, api.OK)
	again, e := tree.Items(root)
	if e != api.OK || listText(again) != listText(l) {
		t.Errorf("tree.Items tells %s", listText(again))
	}
	x.wantTree(t)
}

// Check asks no write of the file and changes nothing; a file that refuses to be read is no complaint.
func TestP226Check(t *testing.T) {
	x := mixed(t, 64)
	x.wantStays(t)
	b, writes := x.spy.bytes(t), x.spy.writes
	for _, e := range append(errnos(), api.OK) {
		x.spy.noRead, x.spy.noWrite, x.spy.noSync = e, e, e
		wantWhole(t, x.store)
	}
	x.spy.calm()
	if x.spy.writes != writes || !bytes.Equal(x.spy.bytes(t), b) {
		t.Error("Check wrote")
	}
	x.wantTree(t)
}

// Somebody else has written the file: a line for each complaint, and all calls go on.
func TestP226Complaints(t *testing.T) {
	x := mixed(t, 64)
	x.wantStays(t)
	b := x.spy.bytes(t)
	complained := 0
	for at := range b {
		x.spy.all.Do(api.Op{Do: api.DoWrite, At: int64(at), B: []byte{^b[at]}})
		lines := x.store.Check()
		if len(lines) > 0 {
			complained++
		}
		if i := slices.IndexFunc(lines, func(s string) bool { return s == "" || strings.Contains(s, "\n") }); i >= 0 {
			t.Errorf("a complaint is %q", lines[i])
		}
		x.do(t, read("f", 0, 9), act{do: doItems})
		x.spy.all.Do(api.Op{Do: api.DoWrite, At: int64(at), B: b[at : at+1]})
	}
	if complained < 100 {
		t.Errorf("%d of %d changed bytes were complained of", complained, len(b))
	}
	x.wantTree(t)
}

// wantComplaint holds that a store complains behind this, and no more when the file is as it was.
func wantComplaint(t *testing.T, x *both, what string, spoil func()) {
	t.Helper()
	b := x.spy.bytes(t)
	spoil()
	if len(x.store.Check()) == 0 {
		t.Errorf("%s: no complaint", what)
	}
	x.spy.all.Do(api.Op{Do: api.DoWrite, B: b})
	x.wantTree(t)
}

// Each block freed, a byte changed, noughts, and an older Sync's bytes instead, however many Syncs there were.
func TestP226Spoilt(t *testing.T) {
	x := bothOf(t, 25)
	x.do(t, dir("a"))
	var older [][]byte
	for range 4 {
		b := x.spy.bytes(t)
		wantComplaint(t, x, "a changed byte", func() {
			for k := 2; k < 25; k++ {
				x.spy.all.Do(api.Op{Do: api.DoWrite, At: int64(64 * k), B: []byte{^b[64*k]}})
			}
		})
		for k := 2; k < 25; k++ {
			wantComplaint(t, x, "a freed block", func() {
				d, e := disk.Open(x.spy.all)
				wantE(t, e, api.OK)
				wantE(t, d.Free(k), api.OK)
			})
		}
		for _, b := range append(older, make([]byte, len(b))) {
			wantComplaint(t, x, "other bytes", func() { x.spy.all.Do(api.Op{Do: api.DoWrite, B: b}) })
		}
		older = append(older, b)
		x.do(t, move("a", "b"), move("b", "a"))
		x.wantStays(t)
	}
}

// What the file is asked: all is written when it is synced; where it can't be synced it is not asked; a Sync behind another one writes nothing.
func TestP226Sync(t *testing.T) {
	for can := range uint8(16) {
		if can&api.CanWrite == 0 {
			continue
		}
		f := spyOf(t, nil)
		s, e := store.New(f.handle(can), 64)
		wantE(t, e, api.OK)
		m := newPaper()
		for i, a := range []act{dir("d"), file("d/f"), write("d/f", 5, letters(100)), link("l", "d"), move("d", "e"), cut("e/f", 7), drop("l"), move("e/f", "f"), drop("e"), drop("f")} {
			wantE(t, a.on(s).e, api.OK)
			a.onPaper(m)
			wantE(t, s.Sync(), api.OK)
			writes := f.writes
			wantTree(t, opened(t, f.bytes(t)), m)
			wantE(t, s.Sync(), api.OK)
			if f.writes != writes {
				t.Error("what is on the disk was written again")
			}
			if can&api.CanSync == 0 {
				if f.syncs > 0 {
					t.Error("a file was synced that can't be")
				}
				continue
			}
			if f.syncs != 2*i+2 || !bytes.Equal(f.kept, f.bytes(t)) {
				t.Errorf("%d: the file was synced %d times, or written behind that", i, f.syncs)
			}
		}
	}
}

// A file that refuses to be synced: its error, all is as it was, and the next Sync does it.
func TestP226NoSync(t *testing.T) {
	for _, e := range errnos() {
		x := mixed(t, 64)
		for range 3 {
			x.spy.noSync = e
			wantE(t, x.store.Sync(), e)
			x.wantTree(t)
			x.do(t, file("new"))
			wantE(t, x.store.Sync(), e)
			x.wantTree(t)
			x.spy.noSync = api.OK
			x.wantStays(t)
			wantTree(t, opened(t, x.spy.kept), x.paper)
			x.do(t, drop("new"))
		}
	}
}

// A file that can't be written any more, as it is read alone, refuses what was changed, and nothing else.
func TestP226ReadAlone(t *testing.T) {
	x := mixed(t, 64)
	x.wantStays(t)
	h := newFile(t, x.spy.bytes(t))
	s, e := store.Open(h.Only(api.CanSync))
	wantE(t, e, api.OK)
	wantE(t, s.Sync(), api.OK)
	wantTree(t, s, x.paper)
	wantE(t, s.Make("new", api.NodeFile, ""), api.OK)
	file("new").onPaper(x.paper)
	wantE(t, s.Sync(), api.ErrCan)
	wantTree(t, s, x.paper)
}

// synced is a store in which much has changed since its last Sync, and the tree of that.
func synced(t *testing.T) (*both, *paper) {
	t.Helper()
	x := mixed(t, 256)
	x.wantStays(t)
	was := x.paper.twin()
	x.do(t, write("f", 0, letters(900)), write("d/e/f", 0, letters(300)), drop("l"), move("d", "new"), link("zz", "f"))
	return x, was
}

// A file that refuses a write, at each place: its error, all is as it was; the last Sync is still there, and the next one does it.
func TestP226NoWrite(t *testing.T) {
	x, _ := synced(t)
	ahead := x.spy.writes
	wantE(t, x.store.Sync(), api.OK)
	most := x.spy.writes - ahead
	if most < 3 {
		t.Fatalf("a Sync makes %d writes", most)
	}
	for skip := range most {
		x, was := synced(t)
		for i, e := range []api.Errno{api.ErrQuota, api.ErrSpace, api.ErrNone} {
			x.spy.noWrite, x.spy.skip = e, skip
			syncs := x.spy.syncs
			wantE(t, x.store.Sync(), e)
			x.spy.calm()
			x.wantTree(t)
			if x.spy.syncs != syncs {
				t.Error("what was not written was synced")
			}
			wantTree(t, opened(t, x.spy.bytes(t)), was)
			if i == 1 {
				x.do(t, cut("f", 950), drop("zz"))
			}
		}
		x.wantStays(t)
		x.do(t, file("more"))
		x.wantStays(t)
	}
}

// A file that refuses to be read refuses what a Sync must write; nothing that was read is lost.
func TestP226NoRead(t *testing.T) {
	x, was := synced(t)
	x.spy.noRead = api.ErrSum
	wantE(t, x.store.Sync(), api.ErrSum)
	x.wantTree(t)
	x.do(t, file("one"), read("f", 0, 9))
	x.spy.calm()
	wantTree(t, opened(t, x.spy.bytes(t)), was)
	x.wantStays(t)
}

// However often it is synced, the last tree is the one that is found, with one change or none between two Syncs.
func TestP226Often(t *testing.T) {
	x := bothOf(t, 64)
	x.do(t, file("f"))
	for i := range 1200 {
		if i%7 > 0 {
			x.do(t, write("f", 0, []byte{byte(i), byte(i >> 8)}))
		}
		x.wantStays(t)
	}
}

// lost is what a file has behind a loss of power: of what was written since its last Sync each write came through whole, in part or not at all.
func (c *chance) lost(f *spy) []byte {
	b := bytes.Clone(f.kept)
	for _, w := range f.since {
		n := []int{0, c.below(len(w.b)), len(w.b), len(w.b)}[c.below(4)]
		copy(b[w.at:], w.b[:n])
	}
	return b
}

// The power is lost behind Syncs that were refused at some place: the last one that was not is there, or one of those that were tried since then.
func TestP226Power(t *testing.T) {
	c := chance(226)
	for range 100 {
		x := bothOf(t, 24+c.below(150))
		var trees []string
		for range 40 {
			x.want(t, c.act())
			if c.below(3) > 0 {
				continue
			}
			c.refuse(x.spy)
			e := x.store.Sync()
			x.spy.calm()
			if e == api.OK {
				trees = nil
			}
			trees = append(trees, itemsOf(t, x.store))
			if x.spy.kept == nil {
				continue
			}
			for range 5 {
				if s := opened(t, c.lost(x.spy)); !slices.Contains(trees, itemsOf(t, s)) {
					t.Fatalf("behind a loss of power Items tells %.900s", itemsOf(t, s))
				}
			}
		}
	}
}
