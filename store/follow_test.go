package store_test

import (
	"bytes"
	"slices"
	"testing"

	"mantle/api"
	"mantle/disk"
	"mantle/store"
)

// refuse lets the file refuse something now and then.
func (c *chance) refuse(f *spy) {
	e := errnos()[c.below(len(errnos()))]
	switch c.below(4) {
	case 0:
		f.noRead, f.bad = e, int64(c.below(3000))
	case 1:
		f.noWrite, f.skip = e, c.below(9)
	case 2:
		f.noSync = e
	}
}

// blocks are those of a small disk, now and then of the greatest one.
func (c *chance) blocks() int {
	if c.below(9) == 0 {
		return api.MaxBlocks
	}
	return 24 + c.below(150)
}

// Any calls in any order, over a file that refuses whatever it likes at any time: what is told is told by the tree alone, but for ErrSpace and for what Sync tells of the file; what is refused changes nothing, and nothing is ever complained of.
func TestP227(t *testing.T) {
	c := chance(227)
	for range 300 {
		x := bothOf(t, c.blocks())
		for range 120 {
			c.refuse(x.spy)
			x.want(t, c.act())
			if c.below(9) == 0 {
				x.store.Sync()
			}
			x.spy.calm()
			if c.below(9) == 0 {
				x.wantTree(t)
			}
		}
		x.wantTree(t)
		x.wantStays(t)
	}
}

// The same calls on a small disk and on a great one tell the same, as long as there is room on both.
func TestP227AnyDisk(t *testing.T) {
	c := chance(1227)
	for range 100 {
		x, y := bothOf(t, 24+c.below(1000)), bothOf(t, api.MaxBlocks)
		for range 100 {
			a := c.act()
			was := x.paper.twin()
			if x.want(t, a).e == api.ErrSpace {
				x.paper = was
				continue
			}
			y.want(t, a)
		}
		if itemsOf(t, x.store) != itemsOf(t, y.store) {
			t.Fatal("the trees are not the same")
		}
	}
}

// Behind a Sync a store that is opened out of the same bytes goes on as the first one does: each call tells the same, ErrSpace too, and so does each store that is opened then.
func TestP228(t *testing.T) {
	c := chance(228)
	for range 150 {
		x := bothOf(t, c.blocks())
		for range 6 {
			for range c.below(40) {
				x.want(t, c.act())
			}
			f := spyOf(t, nil)
			again := x.wantReopened(t, f)
			for range c.below(40) {
				a := c.act()
				if want, got := x.want(t, a), a.on(again); got != want {
					t.Fatalf("%s tells %v, and of the store that was opened %v", a.text(), want.e, got.e)
				}
			}
			wantTree(t, again, x.paper)
			wantE(t, again.Sync(), api.OK)
			wantTree(t, opened(t, f.bytes(t)), x.paper)
			if c.below(2) == 0 {
				x.store, x.spy = again, f
			}
		}
		x.wantStays(t)
	}
}

// wantReopened is the store that is opened out of the same bytes, behind a Sync, over this spy.
func (x *both) wantReopened(t *testing.T, f *spy) *store.Store {
	t.Helper()
	wantE(t, x.store.Sync(), api.OK)
	if e := f.all.Do(api.Op{Do: api.DoWrite, B: x.spy.bytes(t)}).E; e != api.OK {
		t.Fatal(e)
	}
	s, e := store.Open(f.handle(15))
	if e != api.OK {
		t.Fatalf("Open: %v", e)
	}
	wantTree(t, s, x.paper)
	return s
}

// exercise makes all kinds of calls on what Open answers for any bytes, and holds that they tell what may be told.
func exercise(t *testing.T, c *chance, b []byte) (isStore bool) {
	t.Helper()
	s, e := store.Open(newFile(t, b))
	if (s == nil) != (e != api.OK) {
		t.Fatalf("Open tells %v, and a store: %v", e, s != nil)
	}
	if s == nil {
		for _, a := range append(all("a"), act{do: doItems}, act{do: doSync}) {
			if got := a.on(s); got != (told{e: api.ErrNil}) {
				t.Fatalf("%s of none tells %v", a.text(), got.e)
			}
		}
		return false
	}
	s.Check()
	l, e := s.Items()
	wantE(t, e, api.OK)
	for _, x := range l {
		for _, p := range []string{x.Path, x.Path + "/a", x.Path + "x"} {
			for _, a := range all(p) {
				a.on(s)
			}
		}
	}
	for range 30 {
		c.act().on(s)
	}
	s.Items()
	s.Sync()
	s.Check()
	return true
}

// spoilt is the bytes of a store with some changed, moved block by block, cut or longer ones.
func (c *chance) spoilt(b []byte) []byte {
	b = bytes.Clone(b)
	block := func() []byte {
		k := c.below(len(b) / 64)
		return b[64*k : 64*k+64]
	}
	switch c.below(6) {
	case 0:
		return b[:c.below(len(b)+1)]
	case 1:
		return append(b, c.text(c.below(200))...)
	case 2:
		copy(block(), block())
	case 3:
		copy(block(), c.text(64))
	case 4:
		clear(block())
	}
	for range c.below(4) {
		b[c.below(len(b))] = byte(c.below(256))
	}
	return b
}

// Each byte of a store changed, by one bit and by all: what is opened then, if anything, is a store that complains of nothing, with the tree of the last Sync or of the one ahead.
func TestP229EachByte(t *testing.T) {
	x := mixed(t, 64)
	x.wantStays(t)
	was := x.paper.twin()
	x.do(t, drop("l"), move("d", "new"), write("f", 1, letters(150)))
	x.wantStays(t)
	b := x.spy.bytes(t)
	ahead, last := listText(was.list()), listText(x.paper.list())
	for at := range b {
		for _, mask := range []byte{1, 255} {
			b[at] ^= mask
			if s, e := store.Open(newFile(t, b)); e == api.OK {
				if got := itemsOf(t, s); got != ahead && got != last {
					t.Fatalf("byte %d changed: Items tells %.900s", at, got)
				}
				s.Check()
			}
			b[at] ^= mask
		}
	}
}

// Each two bytes of a store that stand side by side change places, and each two of its blocks: likewise.
func TestP229Swapped(t *testing.T) {
	x := mixed(t, 64)
	x.wantStays(t)
	b := x.spy.bytes(t)
	want, empty := listText(x.paper.list()), listText(nil)
	for size := 1; size <= 64; size *= 8 {
		for at := 0; at+2*size <= len(b); at += size {
			turned := slices.Concat(b[:at], b[at+size:at+2*size], b[at:at+size], b[at+2*size:])
			if s, e := store.Open(newFile(t, turned)); e == api.OK {
				if got := itemsOf(t, s); got != want && got != empty {
					t.Fatalf("%d bytes at %d changed places with those behind: Items tells %.900s", size, at, got)
				}
			}
		}
	}
}

// Whatever bytes: of a store that were changed, cut or got longer, of any disk, and of nothing at all.
func TestP229(t *testing.T) {
	c := chance(229)
	stores := 0
	for range 60 {
		x := bothOf(t, 24+c.below(100))
		for range 60 {
			x.want(t, c.act())
		}
		x.wantStays(t)
		b := x.spy.bytes(t)
		for range 60 {
			if exercise(t, &c, c.spoilt(b)) {
				stores++
			}
		}
	}
	if stores < 100 {
		t.Errorf("%d were stores", stores)
	}
	for range 2000 {
		exercise(t, &c, c.text(c.below(5000)))
	}
}

// Disks with whatever bytes on blocks that are taken or not.
func TestP229Disks(t *testing.T) {
	c := chance(1229)
	for range 1000 {
		f := newFile(t, nil)
		d, e := disk.Format(f, 3+c.below(100))
		wantE(t, e, api.OK)
		free := c.below(2) * c.below(4)
		for d.Left() > free {
			k, e := d.Take()
			wantE(t, e, api.OK)
			wantE(t, d.Write(k, c.text(c.below(65))), api.OK)
		}
		h, e := f.Do(api.Op{Do: api.DoRead, N: api.MaxText}).Data, api.OK
		wantE(t, e, api.OK)
		exercise(t, &c, h)
	}
}
