package snap_test

import (
	"fmt"
	"slices"
	"strings"
	"testing"

	"mantle/api"
	"mantle/snap"
)

// roomy are bytes with something in the room behind their end.
func roomy(b []byte) []byte {
	out := append(slices.Clone(b), "room"...)
	return out[:len(b)]
}

func roomyItem(x api.Item) api.Item {
	x.Data = roomy(x.Data)
	return x
}

// roomyList is a list with something in the room behind its end.
func roomyList(l []api.Item) []api.Item {
	out := make([]api.Item, 0, len(l)+1)
	for _, x := range l {
		out = append(out, roomyItem(x))
	}
	return append(out, file("room", "room"))[:len(l)]
}

// roomyChanges is the same of changes.
func roomyChanges(l []api.Change) []api.Change {
	out := make([]api.Change, 0, len(l)+1)
	for _, c := range l {
		c.Was, c.Is = roomyItem(c.Was), roomyItem(c.Is)
		out = append(out, c)
	}
	return append(out, made(file("room", "room")))[:len(l)]
}

// all is a list with all of its room, as changes.
func all(l []api.Item) (out []api.Change) {
	for _, x := range l[:cap(l)] {
		x.Data = x.Data[:cap(x.Data)]
		out = append(out, api.Change{Is: x})
	}
	return out
}

// allChanges is the same of changes.
func allChanges(l []api.Change) (out []api.Change) {
	for _, c := range l[:cap(l)] {
		c.Was.Data, c.Is.Data = c.Was.Data[:cap(c.Was.Data)], c.Is.Data[:cap(c.Is.Data)]
		out = append(out, c)
	}
	return out
}

// given is what is handed in to a call, with its room.
type given struct {
	items   [][]api.Item
	changes []api.Change
}

// whole is all that is given, and what it was, in memory of its own.
func (g *given) whole() (l []api.Change) {
	for _, x := range g.items {
		l = append(l, all(x)...)
	}
	return append(l, allChanges(g.changes)...)
}

// hand makes what is given anew, with something in all room.
func hand(changes []api.Change, lists ...[]api.Item) (*given, []api.Change) {
	g := &given{changes: roomyChanges(changes)}
	for _, l := range lists {
		g.items = append(g.items, roomyList(l))
	}
	was := g.whole()
	for i := range was {
		was[i].Was.Data, was[i].Is.Data = slices.Clone(was[i].Was.Data), slices.Clone(was[i].Is.Data)
	}
	return g, was
}

// spoil writes over all that was given.
func (g *given) spoil() {
	for _, c := range g.whole() {
		scribble(c.Was.Data)
		scribble(c.Is.Data)
	}
	for _, l := range g.items {
		clear(l[:cap(l)])
	}
	clear(g.changes[:cap(g.changes)])
}

func scribble(b []byte) {
	for i := range b {
		b[i] ^= 0x55
	}
}

func sameItem(x, y api.Item) bool {
	return x.Path == y.Path && x.Kind == y.Kind && string(x.Data) == string(y.Data)
}

func sameChange(c, d api.Change) bool {
	return c.Kind == d.Kind && c.Path == d.Path && sameItem(c.Was, d.Was) && sameItem(c.Is, d.Is)
}

// wantItems holds a list against another one.
func wantItems(t *testing.T, what string, l, want []api.Item) {
	t.Helper()
	if !slices.EqualFunc(l, want, sameItem) {
		t.Fatalf("%s: %s, want %s", what, text(l), text(want))
	}
}

// wantChanges is the same of changes.
func wantChanges(t *testing.T, what string, l, want []api.Change) {
	t.Helper()
	if !slices.EqualFunc(l, want, sameChange) {
		t.Fatalf("%s: %s, want %s", what, textChanges(l), textChanges(want))
	}
}

// wantOwn holds that no bytes of an answer share memory: each is filled, to the end of its room, and must stay so.
func wantOwn(t *testing.T, l []api.Change) {
	t.Helper()
	var parts [][]byte
	for _, c := range l {
		parts = append(parts, c.Was.Data[:cap(c.Was.Data)], c.Is.Data[:cap(c.Is.Data)])
	}
	sign := func(i, k int) byte { return byte(i >> (8 * (k % 2))) }
	for i, b := range parts {
		for k := range b {
			b[k] = sign(i, k)
		}
	}
	for i, b := range parts {
		for k := range b {
			if b[k] != sign(i, k) {
				t.Fatalf("bytes %d of the answer share memory with others", i)
			}
		}
	}
}

// diff is Diff, held against the paper.
func diff(t *testing.T, a, b []api.Item) ([]api.Change, api.Errno) {
	t.Helper()
	want, wantE := paperDiff(a, b)
	g, was := hand(nil, a, b)
	l, e := snap.Diff(g.items[0], g.items[1])
	if e != wantE {
		t.Fatalf("Diff(%s; %s) answers %v, want %v", text(a), text(b), e, wantE)
	}
	wantChanges(t, "Diff", l, want)
	wantChanges(t, "what Diff was given", g.whole(), was)
	g.spoil()
	wantChanges(t, "Diff, when what it was given is another", l, want)
	wantOwn(t, allChanges(l))
	return want, e
}

// apply is Apply, held against the paper.
func apply(t *testing.T, a []api.Item, l []api.Change) ([]api.Item, api.Errno, int) {
	t.Helper()
	want, wantE, wantAt := paperApply(a, l)
	g, was := hand(l, a)
	is, e, at := snap.Apply(g.items[0], g.changes)
	if e != wantE || at != wantAt {
		t.Fatalf("Apply(%s; %s) answers %v, %d, want %v, %d", text(a), textChanges(l), e, at, wantE, wantAt)
	}
	wantItems(t, "Apply", is, want)
	wantChanges(t, "what Apply was given", g.whole(), was)
	g.spoil()
	wantItems(t, "Apply, when what it was given is another", is, want)
	wantOwn(t, all(is))
	return want, e, at
}

// undo is Undo, held against the paper.
func undo(t *testing.T, l []api.Change) []api.Change {
	t.Helper()
	want := paperUndo(l)
	g, was := hand(l)
	out := snap.Undo(g.changes)
	wantChanges(t, "Undo", out, want)
	wantChanges(t, "what Undo was given", g.whole(), was)
	g.spoil()
	wantChanges(t, "Undo, when what it was given is another", out, want)
	wantOwn(t, allChanges(out))
	return want
}

// both is Both, held against the paper.
func both(t *testing.T, base, a, b []api.Item) ([]api.Item, []string, api.Errno) {
	t.Helper()
	want, wantClash, wantE := paperBoth(base, a, b)
	g, was := hand(nil, base, a, b)
	l, clash, e := snap.Both(g.items[0], g.items[1], g.items[2])
	if e != wantE || !slices.Equal(clash, wantClash) {
		t.Fatalf("Both(%s; %s; %s) answers %.200q, %v, want %.200q, %v", text(base), text(a), text(b), clash, e, wantClash, wantE)
	}
	wantItems(t, "Both", l, want)
	wantChanges(t, "what Both was given", g.whole(), was)
	g.spoil()
	wantItems(t, "Both, when what it was given is another", l, want)
	wantOwn(t, all(l))
	return want, wantClash, e
}

// text is a list as a failed test tells it.
func text(l []api.Item) string {
	var b strings.Builder
	for i, x := range l {
		if i == 30 {
			fmt.Fprintf(&b, ".. (%d)", len(l))
			break
		}
		fmt.Fprintf(&b, "%s ", itemText(x))
	}
	return "[" + strings.TrimSpace(b.String()) + "]"
}

func itemText(x api.Item) string { return fmt.Sprintf("%.80q/%d/%.20q", x.Path, x.Kind, x.Data) }

func textChanges(l []api.Change) string {
	var b strings.Builder
	for i, c := range l {
		if i == 30 {
			fmt.Fprintf(&b, ".. (%d)", len(l))
			break
		}
		fmt.Fprintf(&b, "%d %.80q %s -> %s; ", c.Kind, c.Path, itemText(c.Was), itemText(c.Is))
	}
	return "{" + b.String() + "}"
}
