package tree_test

import (
	"fmt"
	"strings"
	"testing"

	"mantle/api"
	"mantle/node"
	"mantle/tree"
)

// wantSame holds what Same answers, both ways round.
func wantSame(t *testing.T, what string, a, b *node.Node, want bool) {
	t.Helper()
	if tree.Same(a, b) != want || tree.Same(b, a) != want {
		t.Errorf("%s: Same answers %v and %v, want %v", what, tree.Same(a, b), tree.Same(b, a), want)
	}
}

func wantCount(t *testing.T, n *node.Node, nodes int, bytes int64, e api.Errno) {
	t.Helper()
	if x, b, got := tree.Count(n); x != nodes || b != bytes || got != e {
		t.Errorf("Count answers %d, %d, %v, want %d, %d, %v", x, b, got, nodes, bytes, e)
	}
}

// P19.4: how many nodes, and how many bytes of files: those of links are none.
func TestP194Count(t *testing.T) {
	wantCount(t, made(t), 0, 0, api.OK)
	wantCount(t, made(t, dir("d"), file("d/a", "xy"), link("l", "d/a")), 3, 2, api.OK)
	wantCount(t, made(t, link("l", "abcdef")), 1, 0, api.OK)
	wantCount(t, made(t, file("a", "abc"), file("b", ""), dir("d"), dir("d/e"), file("d/e/f", "abcd")), 5, 7, api.OK)
	wantCount(t, made(t, many(4096)...), 4096, 0, api.OK)
	top := dirSheet()
	for i, m := range leaves(t) {
		top.hold(t, fmt.Sprint(i), m)
	}
	wantCount(t, top.node, 4, 3, api.OK)
	top.hold(t, "again", top.holds[0])
	wantCount(t, top.node, 5, 6, api.OK)
	h, _ := top.holds[0].node.Open()
	h.Do(api.Op{Do: api.DoCut, At: 1000})
	wantCount(t, top.node, 5, 2000, api.OK)
	h.Do(api.Op{Do: api.DoCut, At: 2097152})
	wantCount(t, top.node, 5, 4194304, api.OK)
	h.Do(api.Op{Do: api.DoCut, At: 2097153})
	wantCount(t, top.node, 0, 0, api.ErrLong)
}

// P19.4: Count has the errors of Items.
func TestP194CountErrors(t *testing.T) {
	wantCount(t, nil, 0, 0, api.ErrNil)
	for _, m := range leaves(t) {
		wantCount(t, m.node, 0, 0, api.ErrDir)
	}
	top := dirSheet()
	top.hold(t, "a", fileSheet(t, "abc"))
	top.hold(t, "b", brokenSheet(3, api.ErrSum))
	wantCount(t, top.node, 0, 0, api.ErrSum)
	full := dirSheet()
	full.hold(t, "d", dirSheet()).fill(t, 4096)
	wantCount(t, full.node, 0, 0, api.ErrFull)
	far := dirSheet()
	far.hold(t, "a", fileSheet(t, "abc"))
	far.chain(t, 64, strings.Repeat("n", 64))
	wantCount(t, far.node, 0, 0, api.ErrLong)
}

// P19.4: trees that are the same, though their nodes are others.
func TestP194Same(t *testing.T) {
	l := []api.Item{dir("d"), file("d/a", "xy"), link("l", "d/a"), dir("e")}
	a := made(t, l...)
	wantSame(t, "itself", a, a, true)
	wantSame(t, "another one", a, made(t, l...), true)
	wantSame(t, "in another order", a, made(t, l[2], l[3], l[0], l[1]), true)
	wantSame(t, "empty ones", made(t), node.Dir(), true)
	holes := made(t, file("f", ""))
	f, _ := holes.Get("f")
	h, _ := f.Open()
	h.Do(api.Op{Do: api.DoCut, At: 3})
	wantSame(t, "a hole and noughts", holes, made(t, file("f", "\x00\x00\x00")), true)
	h.Do(api.Op{Do: api.DoCut, At: 2})
	wantSame(t, "fewer noughts", holes, made(t, file("f", "\x00\x00\x00")), false)
}

// P19.4: one difference is enough, wherever it stands.
func TestP194NotSame(t *testing.T) {
	l := []api.Item{dir("d"), file("d/a", "xy"), link("l", "d/a"), dir("e"), file("f", "")}
	a := made(t, l...)
	for i := range l {
		if l[i].Path != "d" {
			wantSame(t, "one less", a, made(t, append(cloned(l[:i]), l[i+1:]...)...), false)
		}
		wantSame(t, "one more", a, made(t, append(cloned(l), dir(fmt.Sprint("x", i)))...), false)
	}
	for i, changed := range map[int][]api.Item{
		1: {file("d/b", "xy"), file("d/a", "xz"), file("d/a", "x"), file("d/a", "xyz"), file("d/a", ""), file("a", "xy"), link("d/a", "xy"), dir("d/a")},
		2: {link("m", "d/a"), link("l", "d/b"), link("l", "d/"), file("l", "d/a"), dir("l")},
		3: {dir("E"), file("e", ""), link("e", "x")},
		4: {dir("f"), link("f", "f"), file("f", "\x00"), file("g", "")},
	} {
		for _, x := range changed {
			m := cloned(l)
			m[i] = x
			wantSame(t, text(m[i:i+1]), a, made(t, m...), false)
		}
	}
}

// Same tells kinds that have no bytes apart, too.
func TestP194SameKinds(t *testing.T) {
	kinds := func() []*sheet {
		return []*sheet{dirSheet(), whiteSheet(), mountSheet(t, dirSheet()), fileSheet(t, ""), fileSheet(t, "x"), linkSheet(t, "x"), linkSheet(t, "y")}
	}
	for i, x := range kinds() {
		for j, y := range kinds() {
			a, b := dirSheet(), dirSheet()
			a.hold(t, "n", x)
			b.hold(t, "n", y)
			wantSame(t, fmt.Sprint(i, j), a.node, b.node, i == j)
			a.node.Drop("n")
		}
	}
	full := dirSheet()
	full.hold(t, "x", whiteSheet())
	a, b := dirSheet(), dirSheet()
	a.hold(t, "m", mountSheet(t, full))
	b.hold(t, "m", mountSheet(t, dirSheet()))
	wantSame(t, "mounts, whatever is under them", a.node, b.node, true)
}

// P19.4: what has no items is the same as nothing, itself too.
func TestP194SameOfErrors(t *testing.T) {
	bad := dirSheet()
	bad.hold(t, "b", brokenSheet(3, api.ErrSum))
	full := dirSheet()
	full.hold(t, "d", dirSheet()).fill(t, 4096)
	l := []*node.Node{nil, bad.node, full.node}
	for _, m := range leaves(t) {
		l = append(l, m.node)
	}
	for i, a := range l {
		for j, b := range l {
			wantSame(t, fmt.Sprint(i, j), a, b, false)
		}
		wantSame(t, fmt.Sprint(i, " and an empty one"), a, node.Dir(), false)
	}
}
