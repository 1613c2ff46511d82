package overlay_test

import (
	"math"
	"strings"
	"testing"

	"mantle/api"
	"mantle/memory"
	"mantle/node"
)

// mixed is an overlay in which all kinds stand in the upper tree alone (u), in lower ones alone (o), in both (b), and in the upper one hiding another kind (h).
func mixed(t *testing.T) *both {
	t.Helper()
	return bothOf(t,
		sheet{
			"u": dir(), "u/f": file("1"), "u/l": link("f"), "u/d": dir(), "u/m": mount(), "u/w": white(), "u/d/x": file("2"), "u/e": dir(), "u/e/w": white(),
			"b": dir(), "b/f": file("3"), "b/l": link("f"), "b/d": dir(), "b/m": mount(), "b/w": white(), "b/d/own": file("4"),
			"h": dir(), "h/fd": file("5"), "h/df": dir(), "h/lm": link("x"), "h/md": mount(), "h/wd": white(), "h/wf": white(), "h/d": dir(), "h/d/x": white(), "h/d/y": white(),
		},
		sheet{
			"o": dir(), "o/f": file("6"), "o/l": link("f"), "o/d": dir(), "o/m": mount(), "o/w": white(), "o/d/x": file("7"), "o/e": dir(), "o/e/w": white(),
			"b": dir(), "b/f": file("8"), "b/l": link("g"), "b/d": dir(), "b/m": mount(), "b/w": white(), "b/d/x": file("9"),
			"h": dir(), "h/fd": dir(), "h/fd/x": file("a"), "h/df": file("b"), "h/lm": mount(), "h/md": dir(), "h/md/x": file("c"), "h/wd": dir(), "h/wd/x": file("d"), "h/wd/w": white(), "h/wf": file("e"), "h/d": dir(), "h/d/x": file("f"),
		},
		sheet{
			"o": dir(), "o/d": dir(), "o/d/z": file("g"), "o/w": file("hidden"), "o/e": dir(), "o/e/w": file("hidden"), "o/p": dir(), "o/p/q": dir(), "o/p/q/r": link("s"),
			"h": dir(), "h/wd": dir(), "h/wd/w": file("hidden"), "h/wd/y": dir(), "h/wd/y/z": file("h"), "h/wd/l": link("i"), "h/wd/m": mount(), "h/wf": dir(), "h/d": dir(), "h/d/y": dir(),
		})
}

// spots are all paths of mixed, and some at which nothing is.
func spots(x *both) []string {
	l := x.paper.paths()
	for _, p := range x.paper.paths() {
		l = append(l, p+"/new", p+"/x", p+"/new/new")
	}
	return append(l, "", "new", "new/new", "u/new", "o/p/q/new")
}

// things are what may be tried to be put.
func things() []thing {
	return []thing{file(""), file("abc"), dir(), {kind: api.NodeDir, data: "not counted"}, link("a"), link(""), link(strings.Repeat("l", 4096)), link(strings.Repeat("l", 4097)), mount(), white(), {kind: -1}, {kind: 5}, {kind: math.MaxInt8}, {kind: math.MinInt8, data: "x"}}
}

// P24.3: each thing at each place, from the same beginning.
func TestP243Each(t *testing.T) {
	for _, p := range spots(mixed(t)) {
		for _, y := range things() {
			x := mixed(t)
			x.do(t, put(p, y))
			x.wantAround(t, p)
		}
	}
}

// P24.3: two one behind the other, at places that have to do with one another.
func TestP243Two(t *testing.T) {
	for _, p := range mixed(t).paper.paths() {
		for _, q := range []string{p, p + "/x", p + "/new", parentOf(p)} {
			for i := range 9 {
				x := mixed(t)
				x.do(t, put(p, []thing{dir(), file("abc"), link("x")}[i/3]))
				x.do(t, put(q, []thing{dir(), file("def"), link("y")}[i%3]))
				x.wantAround(t, q)
			}
		}
	}
}

// P24.3: the errors, told by hand.
func TestP243Errors(t *testing.T) {
	x := mixed(t)
	long := strings.Repeat("x", 1<<22+1)
	for _, r := range []struct {
		p string
		x thing
		e api.Errno
	}{
		{"", white(), api.ErrArg}, {"//", mount(), api.ErrArg}, {"none/a", thing{kind: -1}, api.ErrArg}, {"", thing{kind: 9}, api.ErrArg},
		{"", file("a"), api.ErrName}, {"", dir(), api.ErrName}, {"", link(""), api.ErrName}, {"/", file("a"), api.ErrName}, {"none//a", link(""), api.ErrName}, {"u/f/..", file(long), api.ErrName},
		{"none/a", file("a"), api.ErrNone}, {"u/none/a", dir(), api.ErrNone}, {"u/w/a", link(""), api.ErrNone}, {"h/wd/x", file(long), api.ErrNone}, {"u/f/a/b", dir(), api.ErrNone}, {"b/m/a/b", dir(), api.ErrNone}, {"o/w/a", dir(), api.ErrNone},
		{"u/f/a", file("a"), api.ErrDir}, {"u/l/a", link(""), api.ErrDir}, {"u/m/a", dir(), api.ErrDir}, {"o/f/a", file(long), api.ErrDir}, {"o/m/b", dir(), api.ErrDir}, {"h/md/x", file("a"), api.ErrDir}, {"h/lm/a", dir(), api.ErrDir},
		{"u/f", dir(), api.ErrThere}, {"u/d", dir(), api.ErrThere}, {"o/d", dir(), api.ErrThere}, {"b/m", dir(), api.ErrThere}, {"o/l", dir(), api.ErrThere},
		{"u/d", file("a"), api.ErrDir}, {"o/d", link(""), api.ErrDir}, {"b/m", file(long), api.ErrDir}, {"o/m", link("a"), api.ErrDir}, {"h/df", link(strings.Repeat("l", 4097)), api.ErrDir}, {"o/p/q", file("a"), api.ErrDir},
		{"u/f", link(""), api.ErrName}, {"u/f", link(strings.Repeat("l", 4097)), api.ErrLong}, {"new", link(""), api.ErrName}, {"o/new", file(long), api.ErrLong}, {"o/l", file(long), api.ErrLong},
	} {
		x.want(t, put(r.p, r.x), r.e)
	}
}

// P24.3: of what one would put, the greatest.
func TestP243Greatest(t *testing.T) {
	x := mixed(t)
	x.wants(t, put("o/l", link(strings.Repeat("l", 4096))))
	x.want1(t, put("o/f", file(strings.Repeat("abcd", 1<<20))))
	x.wantTold(t, "o/f")
	x.want1(t, put("new", thing{kind: api.NodeDir, data: strings.Repeat("x", 1<<22+1)}))
	x.wantTold(t, "new")
	x.wantTrees(t)
}

// held is the node at a path of a tree.
func held(t *testing.T, n *node.Node, p string) *node.Node {
	t.Helper()
	for _, name := range strings.Split(p, "/") {
		m, e := n.Get(name)
		if e != api.OK {
			t.Fatalf("the tree holds no %s: %v", p, e)
		}
		n = m
	}
	return n
}

// P24.3: the new file can all; it is a new one, also where the upper tree had one: that is what it was.
func TestP243NewFile(t *testing.T) {
	x := mixed(t)
	for _, p := range []string{"u/f", "b/f", "new", "o/d/x", "o/p/q/new", "u/l"} {
		var old *node.Node
		if depthOf(p) == 2 && p[0] != 'o' {
			old = held(t, x.upper, p)
		}
		x.wants(t, put(p, file("first")))
		n := held(t, x.upper, p)
		h, e := n.Open()
		if e != api.OK || h.Can() != 15 || n == old {
			t.Errorf("the new file at %s can %d, %v", p, h.Can(), e)
		}
		x.wants(t, put(p, file("second")))
		if b, e := memory.All(h); string(b) != "first" || e != api.OK {
			t.Errorf("the first file is %q, %v", b, e)
		}
		h, _ = held(t, x.upper, p).Open()
		h.Do(api.Op{Do: api.DoWrite, At: 6, B: []byte("!")})
		x.paper.layers[0][p] = file("second!")
		x.wantSame(t)
	}
}

// P24.3: a new directory is one, and shares nothing with those below.
func TestP243NewDirectory(t *testing.T) {
	x := mixed(t)
	x.wants(t, put("h/wd", dir()), put("h/wd/y", dir()), put("h/wd/w", file("w")), put("h/wd/y/z", file("1")), drop("h/wd/w"))
	x.wantText(t, "b b/d b/d/own b/d/x b/f b/l b/m h h/d h/df h/fd h/lm h/md h/wd h/wd/y h/wd/y/z o o/d o/d/x o/d/z o/e o/f o/l o/m o/p o/p/q o/p/q/r u u/d u/d/x u/e u/f u/l u/m")
}

// R3: what is handed in is neither changed nor kept.
func TestP243NotKept(t *testing.T) {
	x := mixed(t)
	b := append(make([]byte, 0, 99), "abc"...)
	copy(b[3:9], "behind")
	x.wants(t, put("u/f", file("")), put("l", link("abc")))
	for p, kind := range map[string]int8{"u/f": api.NodeFile, "l": api.NodeLink} {
		if e := x.o.Put(api.Item{Path: p, Kind: kind, Data: b}); e != api.OK {
			t.Fatal(e)
		}
		x.paper.layers[0][p] = thing{kind: kind, data: "abc"}
	}
	if e := x.o.Write("b/f", 0, b); e != api.OK {
		t.Fatal(e)
	}
	x.paper.layers[0]["b/f"] = file("abc")
	x.wantSame(t)
	if string(b[:9]) != "abcbehind" {
		t.Errorf("the bytes are %q", b[:9])
	}
	copy(b[:9], "#########")
	x.wantSame(t)
	x.wants(t, write("u/f", 3, "d"))
	if string(b[:9]) != "#########" {
		t.Errorf("the bytes are %q", b[:9])
	}
}

// P24.3: a new directory where the lower layers have one: nothing of it comes up, whatever their own whites and files hide of one another.
func TestP243Whites(t *testing.T) {
	lower := []sheet{
		{"d": dir(), "d/a": file("1"), "d/b": white(), "d/c": dir(), "d/c/x": file("2")},
		{"d": dir(), "d/a": white(), "d/b": file("3"), "d/e": link("a"), "d/c": file("4"), "d/g": mount()},
		{"d": file("5")},
		{"d": dir(), "d/hidden": file("6")},
	}
	for n := range len(lower) + 1 {
		x := bothOf(t, sheet{"d": white()}, lower[:n]...)
		x.wants(t, put("d", dir()))
		if l, e := x.o.List("d"); len(l) != 0 || e != api.OK {
			t.Errorf("over %d layers the new directory has %v, %v", n, l, e)
		}
		x.wants(t, put("d/b", file("b")), put("d/c", dir()), put("d/hidden", file("h")), put("d/a", link("b")))
		x.wantText(t, "d d/a d/b d/c d/hidden")
	}
	x := bothOf(t, sheet{"d": white()}, lower...)
	x.wants(t, put("d", dir()))
	if got, want := told(t, x.upper), (sheet{"d": dir(), "d/a": white(), "d/c": white(), "d/e": white(), "d/g": white()}).text(); got != want {
		t.Errorf("the upper tree has\n%s\nwant\n%s", got, want)
	}
}

// A new directory where the upper tree has nothing, as a lower layer's white hides those behind it: it needs no whites.
func TestP243OverLowerWhite(t *testing.T) {
	x := bothOf(t, sheet{}, sheet{"d": white()}, sheet{"d": dir(), "d/x": file("1")})
	x.wants(t, put("d", dir()))
	x.wantText(t, "d")
	if got, want := told(t, x.upper), (sheet{"d": dir()}).text(); got != want {
		t.Errorf("the upper tree has\n%s", got)
	}
}

// P24.3: the parents that the upper tree has not come up empty, so that what the lower ones hold there stays to be seen.
func TestP243Parents(t *testing.T) {
	for _, y := range []thing{file("new"), dir(), link("new")} {
		x := bothOf(t, sheet{"a": dir()}, sheet{"a": dir(), "a/b": dir(), "a/b/c": dir(), "a/b/c/d": dir(), "a/b/x": file("1"), "a/b/c/y": file("2")})
		x.wants(t, put("a/b/c/d/e", y))
		if got, want := told(t, x.upper), (sheet{"a": dir(), "a/b": dir(), "a/b/c": dir(), "a/b/c/d": dir(), "a/b/c/d/e": y}).text(); got != want {
			t.Errorf("the upper tree has\n%s", got)
		}
		x.wantText(t, "a a/b a/b/c a/b/c/d a/b/c/d/e a/b/c/y a/b/x")
	}
}

// One layer twice, or the upper one as a lower one, too: calls go on telling one tree.
func TestShared(t *testing.T) {
	u, v := node.Dir(), node.Dir()
	sheet{"d": dir(), "d/x": file("1"), "w": white()}.grow(t, u)
	sheet{"d": dir(), "d/y": file("2"), "w": dir(), "w/z": file("3")}.grow(t, v)
	o := overlaid(t, u, u, v, v)
	x := &both{o: o}
	x.wantText(t, "d d/x d/y")
	for _, a := range []act{drop("d/x"), drop("d/y"), drop("d"), put("d", dir()), put("w", dir()), put("w/new", file("4")), write("w/new", 1, "5")} {
		if e := a.on(o); e != api.OK {
			t.Errorf("%s answers %v", a.text(), e)
		}
	}
	x.wantText(t, "d w w/new")
	if got, want := told(t, v), (sheet{"d": dir(), "d/y": file("2"), "w": dir(), "w/z": file("3")}).text(); got != want {
		t.Errorf("the other tree has\n%s", got)
	}
}
