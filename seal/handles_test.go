package seal_test

import (
	"testing"

	"mantle/api"
	"mantle/buffer"
	"mantle/cache"
	"mantle/cipher"
	"mantle/face"
	"mantle/join"
	"mantle/journal"
	"mantle/memory"
	"mantle/pack"
	"mantle/quota"
	"mantle/seal"
	"mantle/span"
	"mantle/sums"
	"mantle/tee"
	"mantle/window"
)

// counter is a file that counts its calls.
type counter struct{ calls int }

func (c *counter) Size() int64                           { c.calls++; return 0 }
func (c *counter) ReadAt(int64, int) ([]byte, api.Errno) { c.calls++; return nil, api.OK }
func (c *counter) WriteAt(int64, []byte) api.Errno       { c.calls++; return api.OK }
func (c *counter) Cut(int64) api.Errno                   { c.calls++; return api.OK }
func (c *counter) Next(int64) (from, to int64)           { c.calls++; return 0, 0 }
func (c *counter) Sync() api.Errno                       { c.calls++; return api.OK }

// kinds gathers handles, each with a word for it.
type kinds struct {
	t     *testing.T
	words []string
	list  []*face.Handle
}

func (k *kinds) add(word string, h *face.Handle, e api.Errno) {
	k.t.Helper()
	if h == nil || e != api.OK {
		k.t.Fatalf("%s: %v", word, e)
	}
	k.words, k.list = append(k.words, word), append(k.list, h)
}

// wrapped adds a wrapper of each kind.
func (k *kinds) wrapped() {
	t, h := k.t, file(k.t, "abcdef")
	g, e := window.New(h, 1, 3)
	k.add("window", g, e)
	k.add("read alone", window.Read(h), api.OK)
	g, e = join.New([]*face.Handle{h, file(t, "xy")})
	k.add("join", g, e)
	g, e = tee.New(h, file(t, "abcdef"))
	k.add("tee", g, e)
	g, _ = tee.Watched(h)
	k.add("watched", g, api.OK)
	g, _, e = cache.New(h, 2)
	k.add("cache", g, e)
	g, e = buffer.New(h, 4)
	k.add("buffer", g, e)
	b, e := sums.Table(h)
	if e != api.OK {
		t.Fatal(e)
	}
	g, e = sums.New(h, file(t, string(b)))
	k.add("sums", g, e)
	b, e = pack.Pack([]byte("abcabc"))
	if e != api.OK {
		t.Fatal(e)
	}
	g, e = pack.New(file(t, string(b)))
	k.add("pack", g, e)
	g, e = cipher.New(h, 7)
	k.add("cipher", g, e)
	g, e = journal.New(h, file(t, ""))
	k.add("journal", g, e)
	p, e := quota.NewPurse(10)
	if e != api.OK {
		t.Fatal(e)
	}
	g, e = quota.New(h, p)
	k.add("quota", g, e)
}

// all is a handle of each kind that the layers below make, files of memory and bare ones with each set of what they can.
func all(t *testing.T) *kinds {
	k := &kinds{t: t}
	s := span.New([]byte("abc"))
	for can := range uint8(16) {
		c := &counter{}
		k.add("made", face.Make(c, c, c, c, c).Only(can), api.OK)
		h, e := memory.New([]byte("abc"), can)
		k.add("memory", h, e)
		h, e = memory.Of(s, can)
		k.add("memory of one span", h, e)
	}
	k.wrapped()
	return k
}

// P16.2: the very handle comes back, and its file is the same one.
func TestP162VeryHandle(t *testing.T) {
	k := all(t)
	for i, h := range k.list {
		f, can := h.File(), h.Can()
		for _, by := range []*seal.Brand{seal.New("a"), seal.Plain("a")} {
			x := by.Seal(h)
			for range 3 {
				if g, e := by.Open(x); g != h || e != api.OK || g.File() != f || g.Can() != can {
					t.Errorf("%s that can %d: %v, the handle: %v", k.words[i], can, e, g == h)
				}
				if g, e := seal.Odd("a").Open(x); g != nil || e != api.ErrBrand {
					t.Errorf("%s that can %d: Odd is answered %v, no handle: %v", k.words[i], can, e, g == nil)
				}
			}
		}
	}
}

// All these handles in boxes side by side, by brands of each maker: each box has its own.
func TestP162BoxesOfAllKinds(t *testing.T) {
	var m maker
	k := all(t)
	list := m.all("a", "b")
	var boxes []box
	for _, h := range k.list {
		for _, by := range list {
			boxes = append(boxes, wantSeal(t, by, h))
		}
	}
	for _, x := range boxes {
		for _, b := range list {
			wantOpen(t, b, x)
		}
	}
}

// Nothing is asked of a file that is sealed, opened, or refused.
func TestNothingIsCalled(t *testing.T) {
	var m maker
	c := &counter{}
	h := face.Make(c, c, c, c, c)
	list := m.all("a", "b")
	for _, by := range list {
		for _, b := range list {
			wantOpen(t, b, wantSeal(t, by, h))
		}
	}
	if c.calls != 0 {
		t.Errorf("%d calls came to the file", c.calls)
	}
}

// What is written through a handle out of a box is read through the one that was sealed, and out of every other box.
func TestOpenedIsShared(t *testing.T) {
	h := file(t, "abc")
	a, p := seal.New("a"), seal.Plain("a")
	x, y := a.Seal(h), p.Seal(h)
	g, e := a.Open(x)
	if e != api.OK {
		t.Fatal(e)
	}
	if told := g.Do(api.Op{Do: api.DoWrite, At: 1, B: []byte("XYZ")}); told.E != api.OK {
		t.Fatal(told.E)
	}
	other, e := seal.Plain("a").Open(y)
	if e != api.OK {
		t.Fatal(e)
	}
	for _, from := range []*face.Handle{h, g, other} {
		if b, e := memory.All(from); string(b) != "aXYZ" || e != api.OK {
			t.Errorf("%q, %v is read", b, e)
		}
	}
}
