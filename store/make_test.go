package store_test

import (
	"fmt"
	"strings"
	"testing"

	"mantle/api"
	"mantle/store"
)

// A nil store, whatever it is asked; nil comes ahead of what is wrong with a path.
func TestNil(t *testing.T) {
	var s *store.Store
	for _, p := range []string{"", "a", "a/b", "\x00", strings.Repeat("a", 65), strings.Repeat("a/", 3000)} {
		for _, a := range all(p) {
			if got := a.on(s); got != (told{e: api.ErrNil}) {
				t.Errorf("%s of nil tells %q, %v", a.text(), got.text, got.e)
			}
		}
	}
	for _, do := range []int{doItems, doSync} {
		if got := (act{do: do}).on(s); got != (told{e: api.ErrNil}) {
			t.Errorf("%s of nil tells %q, %v", act{do: do}.text(), got.text, got.e)
		}
	}
	if l := s.Check(); len(l) > 0 {
		t.Errorf("Check of nil complains: %q", l)
	}
}

// Paths that path.Clean refuses, ahead of all else, the second one of Move too.
func TestWrongPaths(t *testing.T) {
	long, name := strings.Repeat("/", api.MaxPath)+"f", strings.Repeat("n", 65)
	x := mixed(t, 64)
	for p, want := range map[string]api.Errno{long: api.ErrLong, name: api.ErrName, "f/\x00": api.ErrName, "f/" + name + "/..": api.ErrName, long + "/\x00": api.ErrLong} {
		for _, a := range append(all(p), move("f", p), move("", p), move("no", p), write(p, -1, nil), read(p, -1, -1), cut(p, -1)) {
			x.wantE(t, want, a)
		}
		x.wantE(t, api.ErrName, move("\x00", p))
		x.wantE(t, api.ErrLong, move(long, p))
	}
	x.wantTree(t)
}

// Paths that are cleaned to others.
func TestCleanedPaths(t *testing.T) {
	x := bothOf(t, 128)
	x.do(t,
		dir("/d"), dir("d//e/"), file("./d/./e/f"), link("../../d/q/../l", "/d//e"),
		write("//d/e/f", 1, []byte("x")), cut("d/no/../e/f", 5), read("d/e/f/.", 0, 9), read("/../d/e/f", 0, 9),
		move("/d/e/../l/", "./l"), move("d/e/f", "/f//"), drop("d/./e"), move("f", "./f"), move("f/", "/d/../f"),
	)
	x.wantE(t, api.ErrThere, file("d/../f"))
	x.wantE(t, api.ErrThere, dir("/"))
	x.wantE(t, api.ErrLoop, move("d", "./d//e"))
	x.do(t, read(strings.Repeat("/", api.MaxPath-1)+"f", 0, 9))
	wantPaths(t, x.store, "d", "f", "l")
	x.wantTree(t)
}

// Each kind, and all kinds that are none of the three.
func TestP222Kinds(t *testing.T) {
	x := bothOf(t, 64)
	for kind := -128; kind < 128; kind++ {
		x.want(t, makes(fmt.Sprintf("n%d", kind), int8(kind), "to"))
	}
	l, e := x.store.Items()
	wantE(t, e, api.OK)
	for i, want := range []api.Item{{Path: "n0"}, {Path: "n1", Kind: api.NodeDir}, {Path: "n2", Kind: api.NodeLink, Data: []byte("to")}} {
		if len(l) != 3 || l[i].Path != want.Path || l[i].Kind != want.Kind || string(l[i].Data) != string(want.Data) {
			t.Fatalf("Items tells %v", l)
		}
	}
	x.wantE(t, api.ErrArg, makes("w", api.NodeWhite, ""))
	x.wantTree(t)
}

// Each kind at the root, below nothing, below each kind, and where something of each kind stands.
func TestP222Places(t *testing.T) {
	x := mixed(t, 512)
	for kind := range int8(3) {
		for _, p := range []string{"", "/", ".", "d/..", "d/e", "d/e/f", "d/l", "f", "l", "gone", "d.e"} {
			x.wantE(t, api.ErrThere, makes(p, kind, "to"))
		}
		for _, p := range []string{"no/a", "d/no/a", "f/a/b", "l/e/f", "gone/a/b", "d/e/f/a/b", "dd/d/e", "d/em/a"} {
			x.wantE(t, api.ErrNone, makes(p, kind, "to"))
		}
		for _, p := range []string{"f/a", "d/e/f/a", "l/new", "l/e", "gone/a", "d/l/f", "d.e/f"} {
			x.wantE(t, api.ErrDir, makes(p, kind, "to"))
		}
		for _, p := range []string{"new", "d/new", "d/e/new", "d/empty/new", "dd/new", "d-", "d0", "\xff", " ", "..."} {
			x.do(t, makes(fmt.Sprintf("%s%d", p, kind), kind, "to"))
		}
		x.wantTree(t)
	}
	x.wantStays(t)
}

// What a link may lead to; of the others it does not count.
func TestP222Link(t *testing.T) {
	x := bothOf(t, 1024)
	x.wantE(t, api.ErrName, link("a", ""))
	x.wantE(t, api.ErrLong, link("a", strings.Repeat("t", api.MaxPath+1)))
	x.wantE(t, api.ErrLong, link("a", strings.Repeat("t", 1<<17)))
	for i, to := range []string{"t", "\x00", "/", "no/such//..", "\xff/\n", strings.Repeat("t", 65), strings.Repeat("t", api.MaxPath), strings.Repeat("/", api.MaxPath)} {
		x.do(t, link(fmt.Sprintf("l%d", i), to))
	}
	for i, to := range []string{"", "t", strings.Repeat("t", api.MaxPath+1), strings.Repeat("t", 1<<17)} {
		x.do(t, makes(fmt.Sprintf("f%d", i), api.NodeFile, to), makes(fmt.Sprintf("d%d", i), api.NodeDir, to))
		wantRead(t, x.store, fmt.Sprintf("f%d", i), nil)
	}
	x.wantTree(t)
	x.wantStays(t)
}

// As deep as may be, and one deeper.
func TestP222Deep(t *testing.T) {
	x := bothOf(t, 1024)
	for n := range 63 {
		x.do(t, dir(names(n+1, 1)))
	}
	x.wantE(t, api.ErrNone, file(names(65, 1))) // its parent is asked ahead of how deep it is
	for kind := range int8(3) {
		x.do(t, makes(names(63, 1)+fmt.Sprintf("/k%d", kind), kind, "to"))
	}
	for _, p := range []string{"/k0/a", "/k2/a"} {
		x.wantE(t, api.ErrDir, file(names(63, 1)+p))
	}
	for kind := range int8(3) {
		x.wantE(t, api.ErrLong, makes(names(63, 1)+"/k1/a", kind, "to"))
	}
	x.wantE(t, api.ErrLong, link(names(63, 1)+"/k1/a", "")) // ahead of ErrName
	x.wantE(t, api.ErrArg, makes(names(63, 1)+"/k1/a", 3, ""))
	x.wantTree(t)
	x.wantStays(t)
}

// A path of as many bytes as may be; one with more is refused as a path.
func TestP222LongPath(t *testing.T) {
	x := bothOf(t, 1024)
	for n := range 63 {
		x.do(t, dir(names(n+1, 64)))
	}
	p := names(63, 64) // 4094 bytes
	x.wantE(t, api.ErrLong, file(p+"/aa"))
	x.do(t, file(p+"/a"), write(p+"/a", 0, []byte("far")))
	x.wantTree(t)
	x.wantStays(t)
}

// full is a store with as many nodes as may be, and a directory as deep as may be.
func full(t *testing.T) *store.Store {
	t.Helper()
	s, _ := made(t, 1024)
	made := 0
	add := func(p string) {
		wantE(t, s.Make(p, api.NodeDir, ""), api.OK)
		made++
	}
	for n := range 64 {
		add(names(n+1, 1))
	}
	for i := 0; made < api.MaxNodes; i++ {
		add(string([]byte{byte('A' + i%100), byte('A' + i/100)}))
	}
	return s
}

// As many nodes as may be, and one more; the errors ahead of ErrFull and behind it.
func TestP222Full(t *testing.T) {
	s := full(t)
	l, e := s.Items()
	if e != api.OK || len(l) != api.MaxNodes {
		t.Fatalf("%d items, %v", len(l), e)
	}
	for i, c := range []struct {
		a    act
		want api.Errno
	}{
		{dir("new"), api.ErrFull},
		{dir("AA/new"), api.ErrFull},
		{link("new", ""), api.ErrFull},
		{link("new", strings.Repeat("t", api.MaxPath+1)), api.ErrFull},
		{file(names(64, 1) + "/a"), api.ErrLong},
		{link("AA", ""), api.ErrThere},
		{file("no/a"), api.ErrNone},
		{file(""), api.ErrThere},
		{makes("new", -1, ""), api.ErrArg},
		{move("AA", "new"), api.OK},
		{move("new", "BA/new"), api.OK},
		{file("AA"), api.ErrFull},
		{drop("BA/new"), api.OK},
		{link("AA", ""), api.ErrName},
		{dir("CA/new"), api.OK},
		{file("AA"), api.ErrFull},
	} {
		if got := c.a.on(s); got.e != c.want {
			t.Errorf("%d: %s tells %v, want %v", i, c.a.text(), got.e, c.want)
		}
	}
	wantWhole(t, s)
}

// Of a store in which there is no room for one byte more: all errors come ahead of ErrSpace.
func TestP222NoRoom(t *testing.T) {
	x := mixed(t, 128)
	x.fill(t, "d/full")
	for _, c := range []struct {
		a    act
		want api.Errno
	}{
		{file("new"), api.ErrSpace},
		{dir("d/new"), api.ErrSpace},
		{link("new", "t"), api.ErrSpace},
		{link("new", ""), api.ErrName},
		{link("new", strings.Repeat("t", api.MaxPath+1)), api.ErrLong},
		{file("f"), api.ErrThere},
		{file("f/new"), api.ErrDir},
		{file("no/new"), api.ErrNone},
		{makes("new", 3, ""), api.ErrArg},
		{file("\x00"), api.ErrName},
	} {
		x.wantE(t, c.want, c.a)
		x.wantTree(t)
	}
	x.wantStays(t)
}

// Neither depth nor the number of nodes is asked behind the room.
func TestP222FullNoRoom(t *testing.T) {
	s := full(t)
	wantE(t, s.Drop("AA"), api.OK)
	wantE(t, s.Make("AA", api.NodeFile, ""), api.OK)
	size := lengthen(func(size int64) api.Errno { return s.Cut("AA", size) })
	wantE(t, s.Cut("AA", size+1), api.ErrSpace)
	wantE(t, s.Make("new", api.NodeFile, ""), api.ErrFull)
	wantE(t, s.Make(names(64, 1)+"/a", api.NodeFile, ""), api.ErrLong)
	wantWhole(t, s)
}
