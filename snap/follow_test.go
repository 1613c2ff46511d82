package snap_test

import (
	"slices"
	"sync"
	"testing"

	"mantle/api"
	"mantle/snap"
	"mantle/tree"
)

// wantThereAndBack holds P25.5 of two trees, by the calls alone.
func wantThereAndBack(t *testing.T, a, b list) {
	t.Helper()
	l, e := snap.Diff(a, b)
	if e != api.OK {
		t.Fatalf("Diff answers %v", e)
	}
	is, e, at := snap.Apply(a, l)
	if e != api.OK || at != 0 {
		t.Fatalf("Apply(a, Diff(a, b)) answers %v, %d", e, at)
	}
	wantItems(t, "Apply(a, Diff(a, b))", is, b)
	was, e, at := snap.Apply(b, snap.Undo(l))
	if e != api.OK || at != 0 {
		t.Fatalf("Apply(b, Undo(Diff(a, b))) answers %v, %d", e, at)
	}
	wantItems(t, "Apply(b, Undo(Diff(a, b)))", was, a)
	wantChanges(t, "Undo(Undo(l))", snap.Undo(snap.Undo(l)), l)
	for _, x := range [][]api.Item{a, b} {
		if l, e := snap.Diff(x, x); len(l) > 0 || e != api.OK {
			t.Fatalf("Diff(a, a) answers %s, %v", textChanges(l), e)
		}
	}
}

// P25.5: of each of the large trees and each other one.
func TestP255Large(t *testing.T) {
	for _, a := range trees() {
		for _, b := range trees() {
			wantThereAndBack(t, a, b)
		}
	}
}

// P25.5: of any two trees.
func TestP255Any(t *testing.T) {
	for seed := range chance(1500) {
		c := seed
		a := c.list(25)
		for _, b := range []list{c.list(25), c.on(a, 12)} {
			wantThereAndBack(t, a, b)
		}
		if t.Failed() {
			t.Fatalf("seed %d", seed)
		}
	}
}

// P25.5: along a row of trees: the changes one behind the other, and all the way back.
func TestP255Row(t *testing.T) {
	for seed := range chance(300) {
		c := seed
		first := c.list(15)
		now, way := first, []api.Change(nil)
		for range 1 + c.below(6) {
			next := c.on(now, 6)
			l, _ := snap.Diff(now, next)
			now, way = next, append(way, l...)
		}
		is, e, _ := snap.Apply(first, way)
		wantItems(t, "the last tree", is, now)
		back, f, _ := snap.Apply(now, snap.Undo(way))
		wantItems(t, "the first tree", back, first)
		wantChanges(t, "Undo(Undo(l))", snap.Undo(snap.Undo(way)), way)
		if e != api.OK || f != api.OK || t.Failed() {
			t.Fatalf("seed %d: %v, %v", seed, e, f)
		}
	}
}

// P25.5: Undo(Undo(l)) is l, of any changes.
func TestP255UndoTwice(t *testing.T) {
	for seed := range chance(500) {
		c := seed
		var l []api.Change
		for range c.below(12) {
			l = append(l, c.loose(c.list(4)))
		}
		wantChanges(t, "Undo(Undo(l))", snap.Undo(snap.Undo(l)), l)
		if t.Failed() {
			t.Fatalf("seed %d", seed)
		}
	}
}

// P25.6: of any trees, by the calls alone.
func TestP256Any(t *testing.T) {
	clean, clashes := 0, 0
	for seed := range chance(2000) {
		c := seed
		base := c.list(20)
		a, b := c.on(base, 5), c.on(base, 5)
		wantOneSide(t, base, a)
		wantOneSide(t, c.list(20), a)
		l, clash, e := snap.Both(base, a, b)
		m, turned, f := snap.Both(base, b, a)
		if e != api.OK || f != api.OK || !slices.Equal(clash, turned) {
			t.Fatalf("seed %d: Both answers %.200q, %v, turned about %.200q, %v", seed, clash, e, turned, f)
		}
		wantItems(t, "Both(base, b, a)", m, l)
		wantTree(t, l)
		if !slices.IsSortedFunc(clash, func(p, q string) int {
			if ahead(p, q) {
				return -1
			}
			return 1
		}) {
			t.Errorf("clashes are %q", clash)
		}
		wantOfEither(t, base, a, b, l, clash)
		if len(clash) > 0 {
			clashes++
		} else {
			clean++
		}
		if t.Failed() {
			t.Fatalf("seed %d", seed)
		}
	}
	if clean < 300 || clashes < 300 {
		t.Errorf("%d without a clash, %d with some", clean, clashes)
	}
}

// wantOneSide holds the first half of P25.6.
func wantOneSide(t *testing.T, base, a list) {
	t.Helper()
	for i, x := range [][2]list{{a, base}, {base, a}, {a, a}} {
		l, clash, e := snap.Both(base, x[0], x[1])
		if e != api.OK || len(clash) > 0 {
			t.Fatalf("%d: Both answers %.200q, %v", i, clash, e)
		}
		wantItems(t, "Both", l, a)
	}
}

// wantTree holds that a list is a tree of items, by the calls of package tree.
func wantTree(t *testing.T, l list) {
	t.Helper()
	n, e, _ := tree.Make(l)
	if e != api.OK {
		t.Fatalf("Make(%s) answers %v", text(l), e)
	}
	m, _ := tree.Items(n)
	wantItems(t, "in order", l, m)
}

// wantOfEither holds that each path that is no clash has what a or b has there.
func wantOfEither(t *testing.T, base, a, b, l list, clash []string) {
	t.Helper()
	for _, p := range pathsOf(base, a, b, l) {
		if is := at(l, p); !slices.Contains(clash, p) && !is.like(at(a, p)) && !is.like(at(b, p)) {
			t.Fatalf("Both(%s; %s; %s) has at %q what neither side has: %s", text(base), text(a), text(b), p, text(l))
		}
	}
}

// P25.6: of the large trees.
func TestP256Large(t *testing.T) {
	l := trees()
	for i, base := range l {
		for _, a := range l {
			wantOneSide(t, base, a)
		}
		a, b := l[(i+1)%len(l)], l[(i+4)%len(l)]
		is, clash, e := snap.Both(base, a, b)
		turned, clash2, f := snap.Both(base, b, a)
		if e != api.OK || f != api.OK || !slices.Equal(clash, clash2) {
			t.Errorf("%d: %v, %v", i, e, f)
		}
		wantItems(t, "turned about", turned, is)
	}
}

// What one answer shows is not what was written into another one.
func TestAnswersAreNew(t *testing.T) {
	base, a, b := list{dir("d"), file("d/a", "x")}, list{dir("d"), file("d/a", "y")}, list{dir("d"), file("d/a", "x"), link("l", "x")}
	for range 3 {
		l, _ := snap.Diff(base, a)
		wantChanges(t, "Diff", l, []api.Change{wrote(base[1], a[1])})
		is, _, _ := snap.Apply(base, l)
		wantItems(t, "Apply", is, a)
		u := snap.Undo(l)
		wantChanges(t, "Undo", u, []api.Change{wrote(a[1], base[1])})
		m, _, _ := snap.Both(base, a, b)
		wantItems(t, "Both", m, list{a[0], a[1], b[2]})
		_, clash, _ := snap.Both(base, a, base[:1])
		if !slices.Equal(clash, []string{"d/a"}) {
			t.Errorf("the clashes are %q", clash)
		}
		wantOwn(t, slices.Concat(allChanges(l), all(is), allChanges(u), all(m)))
		clear(clash[:cap(clash)])
	}
}

// R2: how many goroutines call with the same lists changes no answer.
func TestManyAtOnce(t *testing.T) {
	c := chance(11)
	base := c.list(60)
	a, b := c.on(base, 20), c.on(base, 20)
	l, _ := snap.Diff(base, a)
	one, clash, _ := snap.Both(base, a, b)
	var w sync.WaitGroup
	for range 8 {
		w.Go(func() {
			for range 20 {
				m, _ := snap.Diff(base, a)
				is, _, _ := snap.Apply(base, l)
				back, _, _ := snap.Apply(a, snap.Undo(m))
				both, other, _ := snap.Both(base, a, b)
				if !slices.EqualFunc(l, m, sameChange) || !slices.EqualFunc(is, a, sameItem) || !slices.EqualFunc(back, base, sameItem) || !slices.EqualFunc(both, one, sameItem) || !slices.Equal(clash, other) {
					t.Error("at once the answers are others")
				}
			}
		})
	}
	w.Wait()
}
