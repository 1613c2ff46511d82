package snap_test

import (
	"fmt"
	"slices"
	"strings"
	"testing"

	"mantle/api"
	"mantle/snap"
)

// P25.2: no changes leave each tree as it is.
func TestP252None(t *testing.T) {
	for _, a := range trees() {
		wantApply(t, a, nil, a...)
		wantApply(t, a, []api.Change{}, a...)
	}
}

// P25.2: a list that is no tree of items: its error and -1, whatever the changes are.
func TestP252NoTree(t *testing.T) {
	for _, x := range noTrees() {
		for _, l := range [][]api.Change{nil, {made(file("q", ""))}, {gone(file("q", ""))}, {{Kind: 9}}, {gone(x.l[0])}} {
			if is, e, at := snap.Apply(x.l, l); is != nil || e != x.e || at != -1 {
				t.Errorf("Apply(%s; %s) answers %v, %d, want %v, -1", text(x.l), textChanges(l), e, at, x.e)
			}
		}
	}
}

// P25.2: each kind of change, of each kind of item.
func TestP252Kinds(t *testing.T) {
	a, z := file("a", "1"), dir("z")
	for _, x := range (list{file("m", ""), file("m", "x"), link("m", "x"), dir("m")}) {
		wantApply(t, nil, []api.Change{made(x)}, x)
		wantApply(t, list{x}, []api.Change{gone(x)})
		wantApply(t, list{a, z}, []api.Change{made(x)}, a, x, z)
		wantApply(t, list{a, x, z}, []api.Change{gone(x)}, a, z)
		for _, y := range (list{file("m", ""), file("m", "y"), link("m", "x"), dir("m")}) {
			wantApply(t, list{a, x, z}, []api.Change{wrote(x, y)}, a, y, z)
		}
	}
	wantApply(t, list{z}, []api.Change{made(file("z/a", "")), made(dir("z!")), made(a)}, a, z, dir("z!"), file("z/a", ""))
}

// P25.2: several changes of one path.
func TestP252OnePath(t *testing.T) {
	x, y, z := file("m", "x"), link("m", "y"), dir("m")
	wantApply(t, nil, []api.Change{made(x), wrote(x, y), wrote(y, z), gone(z), made(y)}, y)
	wantApply(t, list{x}, []api.Change{wrote(x, y), wrote(y, x), wrote(x, x), gone(x), made(x), gone(x)})
	wantNoFit(t, nil, 1, made(x), made(x))
	wantNoFit(t, nil, 1, made(x), made(y))
	wantNoFit(t, list{x}, 1, gone(x), gone(x))
	wantNoFit(t, list{x}, 1, gone(x), wrote(x, y))
	wantNoFit(t, list{x}, 1, wrote(x, y), wrote(x, y))
	wantNoFit(t, list{x}, 1, wrote(x, y), gone(x))
	wantNoFit(t, list{x}, 2, wrote(x, y), wrote(y, z), made(z))
}

// P25.2: a kind that is none of the three.
func TestP252OtherKinds(t *testing.T) {
	x := file("m", "x")
	for k := -128; k < 128; k++ {
		if k == api.EvMade || k == api.EvWrote || k == api.EvGone {
			continue
		}
		for _, c := range []api.Change{{}, {Path: "m"}, made(x), wrote(x, x), gone(x)} {
			c.Kind = int8(k)
			wantNoFit(t, nil, 0, c)
			wantNoFit(t, list{x}, 0, c)
			wantNoFit(t, nil, 1, made(x), c, gone(x))
		}
	}
}

// P25.2: Path must be that of the sides that the kind names, and of no other one.
func TestP252Path(t *testing.T) {
	x, y, other := file("m", "x"), file("m", "y"), file("n", "x")
	for _, p := range []string{"", "m", "n", "m/", "mm", "q"} {
		stray := file(p, "x")
		for i, c := range []api.Change{made(x), gone(x), wrote(x, y)} {
			a := [][]api.Item{{other}, {x, other}, {x, other}}[i]
			was, is, path := c, c, c
			was.Was.Path, is.Is.Path, path.Path = stray.Path, stray.Path, stray.Path
			for j, d := range []api.Change{was, is, path} {
				counts := [][]int{{0, 1, 1}, {1, 0, 1}, {1, 1, 1}}[i][j]
				_, e, at := apply(t, a, []api.Change{d})
				if want := counts == 1 && p != "m"; want != (e == api.ErrPatch) || at != 0 {
					t.Errorf("change %d with %d at %q: %v, %d", i, j, p, e, at)
				}
			}
		}
	}
	stray := func(c api.Change, was, is string) api.Change {
		c.Was.Path, c.Is.Path = was, is
		return c
	}
	wantNoFit(t, list{x, other}, 0, stray(wrote(x, y), "n", "n"))
	wantNoFit(t, list{x, other}, 0, stray(wrote(x, y), "m", "n"))
	wantNoFit(t, list{x, other}, 0, stray(wrote(x, y), "n", "m"))
}

// P25.2: what the kind does not name does not count, whatever stands there.
func TestP252Unnamed(t *testing.T) {
	x := file("m", "x")
	for _, y := range (list{{}, x, file("m", "y"), dir("m"), link("q", "x"), {Path: "//", Kind: -7, Data: []byte("z")}}) {
		wantApply(t, nil, []api.Change{{Kind: api.EvMade, Path: "m", Was: y, Is: x}}, x)
		wantApply(t, list{x}, []api.Change{{Kind: api.EvGone, Path: "m", Was: x, Is: y}})
	}
}

// P25.2: what stands there must be alike with Was, by kind and by bytes.
func TestP252Unlike(t *testing.T) {
	l := list{file("m", ""), file("m", "x"), file("m", "xy"), file("m", "y"), link("m", "x"), link("m", "xy"), dir("m"), {Path: "m", Kind: 3}, {Path: "m", Kind: -1}}
	for i, now := range l[:7] {
		for j, was := range l {
			for _, c := range []api.Change{gone(was), wrote(was, file("m", "z"))} {
				if _, e, at := apply(t, list{file("a", "1"), now}, []api.Change{c}); (e == api.OK) != (i == j) || at != 0 {
					t.Errorf("%s over %s: %v, %d", itemText(was), itemText(now), e, at)
				}
			}
		}
	}
}

// P25.2: made where something stands, be it the same; gone and wrote where nothing does.
func TestP252Stands(t *testing.T) {
	x := file("m", "x")
	for _, y := range (list{x, file("m", ""), dir("m"), link("m", "x")}) {
		wantNoFit(t, list{x}, 0, made(y))
		wantNoFit(t, nil, 0, gone(y))
		wantNoFit(t, list{file("mm", "x")}, 0, gone(y))
		wantNoFit(t, nil, 0, wrote(y, y))
		wantNoFit(t, list{file("l", "x")}, 0, wrote(y, x))
	}
	wantNoFit(t, nil, 0, gone(api.Item{}))
	wantNoFit(t, list{x}, 0, api.Change{Kind: api.EvWrote})
}

// P25.2: the place is that of the first change that does not fit, though more of them do not.
func TestP252Place(t *testing.T) {
	for n := range 20 {
		var l []api.Change
		for i := range n {
			l = append(l, made(file(fmt.Sprint(i), "")))
		}
		bad := gone(file("none", ""))
		wantNoFit(t, nil, n, append(l, bad)...)
		wantNoFit(t, nil, n, append(l, bad, bad, api.Change{Kind: 7})...)
		wantNoFit(t, nil, n, append(l, bad, made(file("a//b", "")))...)
	}
}

// between are rows of changes that leave trees that are none between one another, and one in the end.
func between() []struct {
	a, is list
	l     []api.Change
} {
	d, a, f := dir("d"), file("d/a", "x"), file("d", "x")
	full, white := api.Item{Path: "d", Kind: api.NodeDir, Data: []byte("x")}, api.Item{Path: "w", Kind: api.NodeWhite}
	heavy, empty := file("h", strings.Repeat("h", api.MaxData+1)), link("l", "")
	long := file(strings.Repeat("p", 4097), "")
	return []struct {
		a, is list
		l     []api.Change
	}{
		{list{d, a}, nil, []api.Change{gone(d), gone(a)}},
		{nil, list{d, a}, []api.Change{made(a), made(d)}},
		{list{d, a}, list{f}, []api.Change{wrote(d, f), gone(a)}},
		{list{f}, list{d, a}, []api.Change{made(a), wrote(f, d)}},
		{list{d, a}, list{d, a}, []api.Change{gone(d), made(f), wrote(f, d)}},
		{nil, list{d}, []api.Change{made(full), wrote(full, d)}},
		{nil, nil, []api.Change{made(white), gone(white)}},
		{list{file("w", "")}, list{dir("w")}, []api.Change{wrote(file("w", ""), white), wrote(white, dir("w"))}},
		{nil, nil, []api.Change{made(file("", "x")), gone(file("", "x"))}},
		{nil, list{d}, []api.Change{made(file("a//b", "")), made(d), gone(file("a//b", ""))}},
		{nil, list{file("h", "")}, []api.Change{made(heavy), wrote(heavy, file("h", ""))}},
		{nil, nil, []api.Change{made(long), gone(long)}},
		{nil, list{link("l", "x")}, []api.Change{made(empty), wrote(empty, link("l", "x"))}},
		{many(4096), append(many(4096)[1:], file("z", "")), []api.Change{made(file("z", "")), gone(file("f0000", "x"))}},
	}
}

// P25.2: between the changes it need be no tree.
func TestP252Between(t *testing.T) {
	for _, x := range between() {
		wantApply(t, x.a, x.l, x.is...)
	}
}

// P25.2: in the end it must be one: else the place is the one behind the last change.
func TestP252NoTreeInTheEnd(t *testing.T) {
	for _, x := range between() {
		for n := 1; n < len(x.l); n++ {
			if _, e, _ := paperApply(x.a, x.l[:n]); e != api.OK {
				wantNoFit(t, x.a, n, x.l[:n]...)
			}
		}
	}
	d, a, y := dir("d"), file("d/a", "x"), file("y", "")
	tall, c := deep(64)
	long, p := far()
	for _, x := range []struct {
		a list
		l []api.Change
	}{
		{list{d, a}, []api.Change{gone(d)}},
		{list{d, dir("d/e"), file("d/e/f", "")}, []api.Change{gone(dir("d/e"))}},
		{list{d, a}, []api.Change{wrote(d, link("d", "x"))}},
		{nil, []api.Change{made(a)}},
		{list{file("d", "")}, []api.Change{made(a)}},
		{list{link("d", "x")}, []api.Change{made(a)}},
		{nil, []api.Change{made(api.Item{Path: "w", Kind: api.NodeWhite})}},
		{nil, []api.Change{made(api.Item{Path: "w", Kind: api.NodeMount})}},
		{nil, []api.Change{made(api.Item{Path: "w", Kind: -1})}},
		{nil, []api.Change{made(api.Item{Path: "d", Kind: api.NodeDir, Data: []byte{0}})}},
		{list{d}, []api.Change{wrote(d, api.Item{Path: "d", Kind: api.NodeDir, Data: []byte{0}})}},
		{nil, []api.Change{made(file("h", strings.Repeat("h", api.MaxData+1)))}},
		{list{file("g", "g")}, []api.Change{made(file("h", strings.Repeat("h", api.MaxData)))}},
		{tall, []api.Change{made(file(c+"/c", ""))}},
		{long, []api.Change{made(file(p+"/pp", ""))}},
		{many(4096), []api.Change{made(y)}},
		{nil, []api.Change{made(file("", ""))}},
		{nil, []api.Change{made(file(".", ""))}},
		{nil, []api.Change{made(link("l", ""))}},
		{nil, []api.Change{made(link("l", strings.Repeat("l", 4097)))}},
	} {
		wantNoFit(t, x.a, 1, x.l...)
		if len(x.a) < 100 {
			wantNoFit(t, x.a, 2, append(x.l, made(y))...)
			wantNoFit(t, x.a, 4, append([]api.Change{made(y), wrote(y, y), gone(y)}, x.l...)...)
		}
	}
}

// P25.2: any changes: those that lead somewhere, with some that are lost, come twice, stand elsewhere, or are others.
func TestP252Any(t *testing.T) {
	told := map[string]int{}
	for seed := range chance(4000) {
		c := seed
		a := c.list(10)
		b := c.on(a, 6)
		l, _ := paperDiff(a, b)
		for range c.below(4) {
			i := c.below(len(l) + 1)
			switch k := c.below(5); {
			case k == 0 || len(l) == 0 || i == len(l):
				l = slices.Insert(l, i, c.loose(pick(&c, a, b)))
			case k == 1:
				l = slices.Delete(l, i, i+1)
			case k == 2:
				l = slices.Insert(l, c.below(len(l)+1), l[i])
			case k == 3:
				j := c.below(len(l))
				l[i], l[j] = l[j], l[i]
			default:
				l = append(l, paperUndo(l[i:])...)
			}
		}
		_, e, at := apply(t, a, l)
		switch {
		case e == api.OK:
			told["made"]++
		case at == len(l):
			told["no tree"]++
		case at > 0:
			told["later"]++
		default:
			told["at once"]++
		}
		if t.Failed() {
			t.Fatalf("seed %d", seed)
		}
	}
	for _, k := range []string{"made", "no tree", "later", "at once"} {
		if told[k] < 100 {
			t.Errorf("%d: %s", told[k], k)
		}
	}
}

// P25.2: many changes; what the last ones leave is all that counts.
func TestP252Many(t *testing.T) {
	var l []api.Change
	for i := range 20000 {
		l = append(l, made(file(fmt.Sprint("n", i), "x")))
	}
	if is, e, at := snap.Apply(nil, l); is != nil || e != api.ErrPatch || at != 20000 {
		t.Errorf("20000 files: %v, %d", e, at)
	}
	l = append(l, snap.Undo(l)...)
	is, e, at := snap.Apply(list{dir("d")}, l)
	if e != api.OK || at != 0 {
		t.Errorf("20000 files that go again: %v, %d", e, at)
	}
	wantItems(t, "20000 files that go again", is, list{dir("d")})
}
