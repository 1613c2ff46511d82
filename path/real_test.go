package path_test

import (
	"strings"
	"testing"

	"mantle/api"
	"mantle/path"
)

// tells is a Real that the test tells itself. It is held against the paper, too.
func tells(t *testing.T, root *sheet, p, want string) {
	t.Helper()
	if s, e := path.Real(root.node, p); s != want || e != api.OK {
		t.Errorf("Real(%.60q) answers %.60q, %v, want %.60q", p, s, e, want)
	}
	wantAll(t, root, p)
}

// tooLong is a Real that is refused, though the walk is not.
func tooLong(t *testing.T, root *sheet, p string, to *sheet) {
	t.Helper()
	if n, e := path.Walk(root.node, p, true); n != to.node || e != api.OK {
		t.Errorf("Walk(%.60q) answers a node of kind %d, %v", p, n.Kind(), e)
	}
	if s, e := path.Real(root.node, p); s != "" || e != api.ErrLong {
		t.Errorf("Real(%.60q) answers %d bytes, %v", p, len(s), e)
	}
	wantAll(t, root, p)
}

// P20.5: what leads to the root has no names.
func TestP205Root(t *testing.T) {
	root, _ := grove(t)
	for _, p := range []string{"", "/", ".", "..", "a/..", "a/b/../../..", "a/up", "a/b/top", "a/b/two", "a/abs/..", "z/mb/two", "z/mb/top", "a/m/../..", "a/m/a/b/top"} {
		tells(t, root, p, "")
	}
	tells(t, root, "a/m", "a/m") // the root, but met under a name
	tells(t, root, "a/m/a/m", "a/m/a/m")
	tells(t, root, "a/m/a/..", "a/m")
}

// P20.5: directories, also behind mounts, and files; through links the names are those where they led, and no link's.
func TestP205Names(t *testing.T) {
	root, at := grove(t)
	for p, want := range map[string]string{
		"a": "a", "/a/b/": "a/b", "a/b/c/d": "a/b/c/d", "f": "f", "./f/.": "f", "a/b/../f": "a/f", "z/../a": "a",
		"z/mb": "z/mb", "z/mb/c": "z/mb/c", "z/mb/c/d": "z/mb/c/d", "z/mb/..": "z", "z/mb/../g": "z/g", "a/m/f": "a/m/f",
		"a/l": "a/f", "al": "a/f", "aal": "a/f", "a/back": "a/m/f", "z/in": "z/mb", "z/in/c/d": "z/mb/c/d", "z/out/g": "z/g", "z/far/d": "a/b/c/d", "z/far/../../l": "a/f", "a/abs/in/c": "z/mb/c", "dots/l": "a/f", "a/m/al": "a/m/a/f", "a/m/a/abs": "z",
	} {
		tells(t, root, p, want)
	}
	tells(t, at["a"], "b/c", "b/c")
	tells(t, at["a"], "m/al", "m/a/f")
	tells(t, at["z"], "mb/c/d", "mb/c/d")
}

// P20.5: one node under several names is told by the one under which it was met.
func TestP205ManyNames(t *testing.T) {
	root := dirSheet()
	d := root.dir(t, "d")
	f := root.file(t, "one")
	root.hold(t, "two", f)
	d.hold(t, "three", f)
	m := root.mount(t, "m", d)
	root.hold(t, "n", m)
	l := root.link(t, "l", "n/three")
	d.hold(t, "l", l)
	d.dir(t, "n").hold(t, "three", f)
	for p, want := range map[string]string{"one": "one", "two": "two", "d/three": "d/three", "m": "m", "n": "n", "m/three": "m/three", "n/three": "n/three", "l": "n/three", "d/l": "d/n/three", "m/l": "m/n/three", "m/../n/l": "n/n/three"} {
		tells(t, root, p, want)
	}
}

// P20.5: Walk's errors, in its order; too many bytes are told behind them.
func TestP205Errors(t *testing.T) {
	root, at := grove(t)
	for _, x := range []struct {
		root *sheet
		p    string
		e    api.Errno
	}{
		{nil, strings.Repeat("\x00", 4097), api.ErrNil}, {at["f"], strings.Repeat("\x00", 4097), api.ErrDir}, {at["a/m"], "", api.ErrDir}, {root, strings.Repeat("\x00", 4097), api.ErrLong}, {root, strings.Repeat("/", 4097), api.ErrLong},
		{root, "f/x", api.ErrDir}, {root, "\x00", api.ErrName}, {root, "no", api.ErrNone}, {root, "a/w", api.ErrNone}, {root, "r", api.ErrLoop}, {root, "z/behind", api.ErrDir}, {root, "z/bad", api.ErrName}, {root, "z/none", api.ErrNone},
	} {
		fails(t, x.root, x.p, x.e)
	}
	root.link(t, "deep", strings.Repeat("a/m/", 1023)+"a/m")
	for more, e := range map[string]api.Errno{"/a/m/a/m/no": api.ErrNone, "/a/m/a/m/\x00": api.ErrName, "/a/m/a/m/f/x": api.ErrDir, "/a/m/a/m/r": api.ErrLoop, "/a/m/a/m/z/bad": api.ErrName} {
		fails(t, root, "deep"+more, e)
	}
}

// P20.5: names that have MaxPath bytes with the strokes between them, and one more.
func TestP205Long(t *testing.T) {
	root := dirSheet()
	name, at, ahead := strings.Repeat("n", 64), root, ""
	for range 63 {
		at = at.dir(t, name)
		ahead += name + "/"
	}
	root.link(t, "half", ahead[:65*32])
	rest := ahead[65*32:]
	d, f := at.dir(t, "d"), at.file(t, "f")
	dd, ff := at.dir(t, "dd"), at.file(t, "ff")
	top := at.link(t, "top", "/half")
	if len(ahead) != 4095 {
		t.Fatal(len(ahead))
	}
	leads(t, root, "half/"+rest+"d", d, d, ahead+"d")
	leads(t, root, "half/"+rest+"f", f, f, ahead+"f")
	leads(t, root, ahead+"f", f, f, ahead+"f")
	leads(t, root, "half/"+rest, at, at, ahead[:4094])
	tooLong(t, root, "half/"+rest+"dd", dd) // 63 * 64 + 2 bytes of names: the strokes count
	tooLong(t, root, "half/"+rest+"ff", ff)
	leads(t, root, "half/"+rest+"dd/..", at, at, ahead[:4094])
	leads(t, root, "half/"+rest+"top/", root.holds[name].down(name, 31), top, ahead[:65*32-1])
	fails(t, root, ahead+"ff", api.ErrLong) // now the path itself
}

// down is the directory n names on.
func (s *sheet) down(name string, n int) *sheet {
	for range n {
		s = s.holds[name]
	}
	return s
}

// P20.5: how long the row was on the way makes no difference.
func TestP205LongOnTheWay(t *testing.T) {
	root := dirSheet()
	root.mount(t, "m", root)
	f := root.file(t, "f")
	root.link(t, "l", strings.Repeat("m/", 2048))
	root.link(t, "top", "/")
	root.link(t, "up", strings.Repeat("../", 1365))
	leads(t, root, "l/..", root, root, strings.Repeat("m/", 2046)+"m")
	leads(t, root, "l", root, root.holds["l"], strings.Repeat("m/", 2047)+"m")
	tooLong(t, root, "l/f", f)
	tooLong(t, root, "l/m", root)
	tooLong(t, root, "l/l/l/f", f)
	leads(t, root, "l/../f", f, f, strings.Repeat("m/", 2047)+"f")
	leads(t, root, "l/m/..", root, root, strings.Repeat("m/", 2047)+"m")
	leads(t, root, "l/l/top/f", f, f, "f")
	leads(t, root, "l/l/up/up/up/m/f", f, f, strings.Repeat("m/", 2)+"f")
	leads(t, root, "l/l/l/m/up/up/up/up/f", f, f, strings.Repeat("m/", 3*2048+1-4*1365)+"f")
}
