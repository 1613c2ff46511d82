package snap_test

import (
	"fmt"
	"slices"
	"strings"
	"testing"

	"mantle/api"
	"mantle/snap"
)

// with is a list, in order, to which more come; what stands at their paths goes.
func with(l list, more ...api.Item) list {
	for _, x := range more {
		l = append(without(l, x.Path), x)
	}
	return inOrder(l)
}

// without is a list out of which some paths are taken.
func without(l list, paths ...string) list {
	return slices.DeleteFunc(slices.Clone(l), func(x api.Item) bool { return slices.Contains(paths, x.Path) })
}

// P25.4: three like lists, and two of which neither side has anything.
func TestP254Like(t *testing.T) {
	for _, a := range trees() {
		wantBoth(t, a, a, a, a)
		wantBoth(t, a, nil, nil, nil)
		wantBoth(t, nil, a, a, a)
	}
}

// P25.4: what changed on one side alone, be it come, gone or another.
func TestP254OneSide(t *testing.T) {
	base := list{dir("d"), file("d/a", "x"), dir("e"), link("l", "x")}
	for _, a := range []list{
		with(base, file("d/a", "y")), with(base, file("d/a", "")), with(base, link("d/a", "x")), with(base, dir("d/a")),
		without(base, "d/a"), without(base, "d", "d/a"), without(base, "e"), without(base, "l"), nil,
		with(base, file("b", "")), with(base, file("d/b", "x")), with(base, file("d/!", "x")), with(base, file("d!", "x")),
		with(base, dir("e/f"), link("e/f/l", "x")), with(without(base, "d/a"), file("d", "x")), with(base, file("e", "")),
		with(base, dir("l"), file("l/a", "x")), with(without(base, "d/a", "e"), file("d/c", "x"), file("f", "x")),
	} {
		wantBoth(t, base, a, base, a)
	}
}

// P25.4: each side has changed something else.
func TestP254EitherSide(t *testing.T) {
	base := list{dir("d"), file("d/a", "x"), file("d/b", "x"), dir("e"), file("f", "x")}
	a := with(without(base, "f"), file("d/a", "y"), file("e/1", ""), file("g", "1"))
	b := with(without(base, "d/b"), file("c", "x"), file("e/2", ""), dir("h"), file("h/i", ""))
	want := list{file("c", "x"), dir("d"), file("d/a", "y"), dir("e"), file("e/1", ""), file("e/2", ""), file("g", "1"), dir("h"), file("h/i", "")}
	wantBoth(t, base, a, b, want)
}

// states are all that may stand at a path, nothing among it.
func states(path string) []list {
	return []list{nil, {file(path, "")}, {file(path, "x")}, {file(path, "y")}, {link(path, "x")}, {link(path, "y")}, {dir(path)}}
}

// P25.4: at one path, each state of the three: alike on both sides, changed on one, or a clash.
func TestP254OnePath(t *testing.T) {
	for i, base := range states("m") {
		for j, a := range states("m") {
			for k, b := range states("m") {
				want, clash := base, []string{"m"}
				switch {
				case j == k:
					want, clash = a, nil
				case j == i:
					want, clash = b, nil
				case k == i:
					want, clash = a, nil
				}
				wantBoth(t, base, a, b, want, clash...)
				around := func(l list) list { return with(l, file("a", "1"), dir("z")) }
				wantBoth(t, around(base), around(a), around(b), around(want), clash...)
			}
		}
	}
}

// P25.4: a directory that is gone on one side, while the other one put something into it.
func TestP254IntoGone(t *testing.T) {
	d, x, e, y := dir("d"), file("d/x", "1"), dir("d/e"), file("d/e/y", "2")
	wantBoth(t, list{d}, list{d, x}, nil, nil, "d/x")
	wantBoth(t, list{d}, list{d, e, y}, nil, nil, "d/e", "d/e/y")
	wantBoth(t, list{d}, list{d, e, y, x}, nil, nil, "d/e", "d/e/y", "d/x")
	wantBoth(t, list{d, e}, list{d, e, y}, nil, nil, "d/e/y")
	wantBoth(t, list{d, e}, list{d, e, y}, list{d}, list{d}, "d/e/y")
	wantBoth(t, list{d, x}, list{d, e, y, x}, nil, nil, "d/e", "d/e/y")
	wantBoth(t, list{d}, list{d, x, file("e", "")}, list{dir("c")}, list{dir("c"), file("e", "")}, "d/x")
	deepDirs, c := deep(63)
	all := append(slices.Clone(deepDirs), file(c+"/c", "x"))
	var lost []string
	for _, x := range all[1:] {
		lost = append(lost, x.Path)
	}
	wantBoth(t, all[:1], all, nil, nil, lost...)
}

// P25.4: a directory that became a file or a link on one side, while the other one put something into it.
func TestP254IntoFile(t *testing.T) {
	d, x, e, y := dir("d"), file("d/x", "1"), dir("d/e"), file("d/e/y", "2")
	for _, f := range (list{file("d", ""), file("d", "f"), link("d", "f")}) {
		wantBoth(t, list{d}, list{d, x}, list{f}, list{f}, "d/x")
		wantBoth(t, list{d}, list{d, e, y, x}, list{f}, list{f}, "d/e", "d/e/y", "d/x")
		wantBoth(t, list{d, x}, list{d, e, y, x}, list{f}, list{f}, "d/e", "d/e/y")
		wantBoth(t, list{f}, list{d, x}, nil, list{f}, "d", "d/x")
		wantBoth(t, list{f}, list{d, e, y}, list{file("d", "other")}, list{f}, "d", "d/e", "d/e/y")
		wantBoth(t, list{f}, list{d, x}, list{d, e}, list{d, e, x})
	}
}

// P25.4: a clash inside a directory that is gone: base's stands nowhere, and the clash is told once.
func TestP254Once(t *testing.T) {
	d, x, y := dir("d"), file("d/x", "1"), file("d/x", "2")
	wantBoth(t, list{d, x}, list{d, y}, nil, nil, "d/x")
	wantBoth(t, list{d, x}, list{d, y}, list{d}, list{d, x}, "d/x")
	wantBoth(t, list{d, x}, list{d, y}, list{link("d", "1")}, list{link("d", "1")}, "d/x")
	wantBoth(t, list{d, x, file("d/y", "")}, list{d, y, file("d/y", "1")}, nil, nil, "d/x", "d/y")
}

// P25.4: clashes are in order, whether nothing could be agreed there or nothing could stand there.
func TestP254ClashesInOrder(t *testing.T) {
	base := list{file("a", "1"), dir("d"), dir("m"), file("z", "1")}
	a := list{file("a", "2"), dir("d"), file("d!", "1"), file("d.x", "2"), file("d/x", "1"), dir("m"), file("m/a", "1"), file("m/b", ""), file("z", "2")}
	b := list{file("a", "3"), file("d!", "2"), file("d.x", "3"), dir("m"), file("m/a", "2"), dir("m/b"), dir("z"), file("z/z", "")}
	want := list{file("a", "1"), dir("m"), file("z", "1")}
	wantBoth(t, base, a, b, want, "a", "d!", "d.x", "d/x", "m/a", "m/b", "z", "z/z")
}

// P25.4: what stands at paths with a sign below the stroke is not below the directory.
func TestP254Signs(t *testing.T) {
	d, in := dir("a"), file("a/c", "1")
	signs := list{file("a!", "1"), dir("a.b"), file("a.b/c", ""), link("a0", "1"), file("aa", "")}
	wantBoth(t, list{d}, with(signs, d, in), nil, signs, "a/c")
	wantBoth(t, with(signs, d), with(signs, d, in), signs, signs, "a/c")
	wantBoth(t, with(signs, d, in), list{d, in}, signs, nil)
}

// P25.4: of three errors the first one is told.
func TestP254Errors(t *testing.T) {
	good := list{dir("d"), file("d/a", "x")}
	var small []noTree
	for _, x := range noTrees() {
		for i := range 3 {
			l := [][]api.Item{good, good, nil}
			l[i] = x.l
			wantBothRefused(t, l[0], l[1], l[2], x.e)
		}
		if len(x.l) < 5 && len(x.l[0].Data) < 5000 {
			small = append(small, x)
		}
	}
	for _, x := range small {
		for _, y := range small {
			wantBothRefused(t, x.l, y.l, good, x.e)
			wantBothRefused(t, x.l, good, y.l, x.e)
			wantBothRefused(t, good, x.l, y.l, x.e)
			wantBothRefused(t, x.l, y.l, x.l, x.e)
		}
	}
}

func wantBothRefused(t *testing.T, base, a, b list, want api.Errno) {
	t.Helper()
	if _, _, e := both(t, base, a, b); e != want {
		t.Fatalf("on paper Both answers %v, want %v", e, want)
	}
}

// P25.4: what both sides make together may be more than a tree may have; the chapter names no error of that.
func TestP254MoreThanATree(t *testing.T) {
	var a, b, want list
	for i := range 4096 {
		a, b = append(a, file(fmt.Sprintf("f%04d", i), "1")), append(b, file(fmt.Sprintf("f%04d!", i), "2"))
		want = append(want, a[i], b[i])
	}
	l, clash, e := snap.Both(nil, a, b)
	if e != api.OK || len(clash) > 0 {
		t.Errorf("Both answers %.200q, %v", clash, e)
	}
	wantItems(t, "Both", l, want)
	heavy := strings.Repeat("h", api.MaxData)
	wantBoth(t, nil, list{file("a", heavy)}, list{file("b", heavy)}, list{file("a", heavy), file("b", heavy)})
}

// P25.4: large trees, of which much is lost.
func TestP254Large(t *testing.T) {
	base := list{dir("d"), dir("e")}
	a, b := slices.Clone(base), list{dir("d"), link("e", "x")}
	var lost []string
	for i := range 1000 {
		x, y := file(fmt.Sprintf("d/%04d", i), "x"), file(fmt.Sprintf("e/%04d", i), "y")
		a, lost = append(a, x, y), append(lost, y.Path)
	}
	a = inOrder(a)
	want := with(slices.DeleteFunc(slices.Clone(a), func(x api.Item) bool { return strings.HasPrefix(x.Path, "e") }), link("e", "x"))
	wantBoth(t, base, a, b, want, lost...)
}

// P25.4: any three trees of which two come of the first one, or of none.
func TestP254Any(t *testing.T) {
	told := map[string]int{}
	for seed := range chance(3000) {
		c := seed
		base := c.list(12)
		a, b := c.on(base, 6), c.on(base, 6)
		if c.below(10) == 0 {
			b = c.list(12)
		}
		l, clash, _ := both(t, base, a, b)
		switch {
		case len(clash) == 0:
			told["no clash"]++
		case slices.ContainsFunc(clash, func(p string) bool { return place(l, p) < 0 && place(base, p) < 0 && place(a, p) < 0 }):
			told["lost of b's"]++
		default:
			told["clash"]++
		}
		if t.Failed() {
			t.Fatalf("seed %d", seed)
		}
	}
	for _, k := range []string{"no clash", "clash", "lost of b's"} {
		if told[k] < 100 {
			t.Errorf("%d: %s", told[k], k)
		}
	}
}

// P25.4: any lists, trees of items or not.
func TestP254AnyLists(t *testing.T) {
	told := map[api.Errno]int{}
	for seed := range chance(3000) {
		c := seed
		base := c.list(6)
		_, _, e := both(t, c.spoilt(base), c.spoilt(c.on(base, 3)), c.spoilt(c.on(base, 3)))
		told[e]++
		if t.Failed() {
			t.Fatalf("seed %d", seed)
		}
	}
	for _, e := range []api.Errno{api.OK, api.ErrArg, api.ErrName, api.ErrThere, api.ErrNone, api.ErrDir} {
		if told[e] < 20 {
			t.Errorf("%d of them were answered %v", told[e], e)
		}
	}
}
