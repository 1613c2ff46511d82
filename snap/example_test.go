package snap_test

import (
	"fmt"
	"slices"
	"testing"

	"mantle/api"
	"mantle/snap"
)

func Example() {
	base := []api.Item{{Path: "d", Kind: api.NodeDir}, {Path: "d/a", Data: []byte("x")}}
	mine := []api.Item{{Path: "d", Kind: api.NodeDir}, {Path: "d/a", Data: []byte("y")}}
	theirs := append(slices.Clone(base), api.Item{Path: "e", Kind: api.NodeLink, Data: []byte("d/a")})
	show := func(l []api.Item) {
		for _, x := range l {
			fmt.Printf("%s %d %q, ", x.Path, x.Kind, x.Data)
		}
	}
	l, e := snap.Diff(base, mine)
	for _, c := range l {
		fmt.Printf("%d %s: %s to %s, %v\n", c.Kind, c.Path, c.Was.Data, c.Is.Data, e)
	}
	to, e, at := snap.Apply(theirs, l)
	show(to)
	fmt.Println(e, at)
	back, e, at := snap.Apply(to, snap.Undo(l))
	show(back)
	fmt.Println(e, at)
	fmt.Println(snap.Apply(to, l)) // it was changed already
	one, clash, e := snap.Both(base, mine, theirs)
	show(one)
	fmt.Println(clash, e)
	one, clash, e = snap.Both(base, mine, base[:1])
	show(one)
	fmt.Println(clash, e)
	// Output:
	// 1 d/a: x to y, error 0
	// d 1 "", d/a 0 "y", e 2 "d/a", error 0 0
	// d 1 "", d/a 0 "x", e 2 "d/a", error 0 0
	// [] error 250 0
	// d 1 "", d/a 0 "y", e 2 "d/a", [] error 0
	// d 1 "", d/a 0 "x", [d/a] error 0
}

// The chapter's table of examples, row by row.
func TestExamples(t *testing.T) {
	d, x, y := dir("d"), file("d/a", "x"), file("d/a", "y")
	wantDiff(t, list{d}, list{d, x}, made(x))
	wantDiff(t, list{d, x}, list{d, y}, wrote(x, y))
	wantRefused(t, list{x}, list{d}, api.ErrNone)
	wantApply(t, list{d}, []api.Change{made(x)}, d, x)
	wantNoFit(t, list{d}, 0, gone(dir("e")))
	wantNoFit(t, list{d, x}, 1, gone(d))
	wantBoth(t, list{d, x}, list{d, y}, list{d}, list{d, x}, "d/a")
	wantBoth(t, list{d}, list{d, x}, nil, nil, "d/a")
}

type list = []api.Item

// wantDiff is a Diff of which the test tells the answer.
func wantDiff(t *testing.T, a, b list, want ...api.Change) {
	t.Helper()
	l, e := diff(t, a, b)
	if e != api.OK {
		t.Fatalf("on paper Diff answers %v", e)
	}
	wantChanges(t, "Diff on paper", l, want)
}

// wantRefused is a Diff that is refused.
func wantRefused(t *testing.T, a, b list, want api.Errno) {
	t.Helper()
	if _, e := diff(t, a, b); e != want {
		t.Fatalf("on paper Diff answers %v, want %v", e, want)
	}
}

// wantApply is an Apply of which the test tells the answer.
func wantApply(t *testing.T, a list, l []api.Change, want ...api.Item) {
	t.Helper()
	is, e, at := apply(t, a, l)
	if e != api.OK || at != 0 {
		t.Fatalf("on paper Apply answers %v, %d", e, at)
	}
	wantItems(t, "Apply on paper", is, want)
}

// wantNoFit is an Apply that is refused, at that place.
func wantNoFit(t *testing.T, a list, want int, l ...api.Change) {
	t.Helper()
	if _, e, at := apply(t, a, l); e != api.ErrPatch || at != want {
		t.Fatalf("on paper Apply answers %v, %d, want %d", e, at, want)
	}
}

// wantBoth is a Both of which the test tells the answer, either way round.
func wantBoth(t *testing.T, base, a, b, want list, clash ...string) {
	t.Helper()
	for _, x := range [][2]list{{a, b}, {b, a}} {
		l, c, e := both(t, base, x[0], x[1])
		if e != api.OK || !slices.Equal(c, clash) {
			t.Fatalf("on paper Both answers %.200q, %v, want %.200q", c, e, clash)
		}
		wantItems(t, "Both on paper", l, want)
	}
}
