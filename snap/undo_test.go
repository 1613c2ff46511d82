package snap_test

import (
	"testing"

	"mantle/api"
)

// wantUndo is an Undo of which the test tells the answer.
func wantUndo(t *testing.T, l []api.Change, want ...api.Change) {
	t.Helper()
	wantChanges(t, "Undo on paper", undo(t, l), want)
}

// P25.3: no changes.
func TestP253None(t *testing.T) {
	wantUndo(t, nil)
	wantUndo(t, []api.Change{})
}

// P25.3: each kind, alone and in a row.
func TestP253Kinds(t *testing.T) {
	x, y, d := file("m", "x"), link("m", "y"), dir("d")
	wantUndo(t, []api.Change{made(x)}, gone(x))
	wantUndo(t, []api.Change{gone(x)}, made(x))
	wantUndo(t, []api.Change{wrote(x, y)}, wrote(y, x))
	wantUndo(t, []api.Change{wrote(x, x)}, wrote(x, x))
	wantUndo(t, []api.Change{made(d), wrote(x, y), gone(y)}, made(y), wrote(y, x), gone(d))
}

// P25.3: what a kind does not name is turned as well, and Path stays.
func TestP253Unnamed(t *testing.T) {
	x, y := file("a", "x"), dir("b")
	kinds := map[int8]int8{api.EvMade: api.EvGone, api.EvGone: api.EvMade, api.EvWrote: api.EvWrote}
	for k, turned := range kinds {
		wantUndo(t, []api.Change{{Kind: k, Path: "c", Was: x, Is: y}}, api.Change{Kind: turned, Path: "c", Was: y, Is: x})
	}
}

// P25.3: other kinds stay as they are, at their new place.
func TestP253OtherKinds(t *testing.T) {
	x, y := file("a", "x"), dir("b")
	for k := -128; k < 128; k++ {
		if k == api.EvMade || k == api.EvWrote || k == api.EvGone {
			continue
		}
		c := api.Change{Kind: int8(k), Path: "c", Was: x, Is: y}
		wantUndo(t, []api.Change{c}, c)
		wantUndo(t, []api.Change{made(x), c, gone(y)}, made(y), c, gone(x))
	}
}

// P25.3: Undo's own changes, and any.
func TestP253Any(t *testing.T) {
	for seed := range chance(500) {
		c := seed
		var l []api.Change
		for range c.below(12) {
			l = append(l, c.loose(c.list(4)))
		}
		wantUndo(t, undo(t, l), l...)
		if t.Failed() {
			t.Fatalf("seed %d", seed)
		}
	}
}
