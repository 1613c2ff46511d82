package tree_test

import (
	"fmt"
	"slices"
	"strings"
	"testing"

	"mantle/api"
	"mantle/node"
	"mantle/tree"
)

// name is one of a few, so that they meet; some sort around a stroke.
func (c *chance) name() string {
	l := []string{"a", "b", "a.", "a-", "a0", "ab", "a.b", "c", "\xff", "~", "!", "-"}
	return l[c.below(len(l))]
}

// list is a tree of items in any order in which a directory is ahead of what is in it.
func (c *chance) list(most int) []api.Item {
	var l []api.Item
	dirs, met := []string{""}, map[string]bool{}
	for range c.below(most + 1) {
		path := c.name()
		if d := dirs[c.below(len(dirs))]; d != "" {
			path = d + "/" + path
		}
		if met[path] {
			continue
		}
		met[path] = true
		switch c.below(4) {
		case 0:
			l = append(l, file(path, strings.Repeat("b", c.below(9))))
		case 1:
			l = append(l, link(path, strings.Repeat("l", c.below(9)+1)))
		default:
			l = append(l, dir(path))
			dirs = append(dirs, path)
		}
	}
	return l
}

// shuffled is a list in another order in which a directory is ahead of what is in it.
func (c *chance) shuffled(l []api.Item) []api.Item {
	left, out := slices.Clone(l), []api.Item(nil)
	for len(left) > 0 {
		i := c.below(len(left))
		parent := parentOf(left[i].Path)
		if slices.ContainsFunc(left, func(x api.Item) bool { return x.Path == parent }) {
			continue
		}
		out = append(out, left[i])
		left = slices.Delete(left, i, i+1)
	}
	return out
}

// P19.5: there and back, and in any order.
func TestP195ThereAndBack(t *testing.T) {
	for seed := range chance(400) {
		c := seed
		l := c.list(60)
		n := made(t, l...)
		back := items(t, n)
		wantList(t, "there and back", back, inOrder(l))
		wantSame(t, "Make of Items", n, made(t, back...), true)
		for range 4 {
			m := c.shuffled(l)
			wantMade(t, m...)
			wantSame(t, "in another order", n, made(t, m...), true)
		}
		wantCount(t, n, len(l), bytesOf(l), api.OK)
		if t.Failed() {
			t.Fatalf("seed %d", seed)
		}
	}
}

// bytesOf is how many bytes the files of a list have.
func bytesOf(l []api.Item) (n int64) {
	for _, x := range l {
		if x.Kind == api.NodeFile {
			n += int64(len(x.Data))
		}
	}
	return n
}

// P19.5: trees that are as large as can be: many nodes, long paths, many bytes.
func TestP195Large(t *testing.T) {
	c := chance(7)
	heavy := []api.Item{dir("d")}
	for i := range 8 {
		heavy = append(heavy, file(fmt.Sprint("d/", i), strings.Repeat(fmt.Sprint(i), 524288)))
	}
	far, path := deep(63, 64)
	far = append(far, file(path+"/f", "x"))
	tall, path := deep(63, 1)
	tall = append(tall, link(path+"/l", "x"))
	for _, l := range [][]api.Item{many(4096), heavy, far, tall} {
		n := made(t, l...)
		wantList(t, "there and back", items(t, n), inOrder(l))
		wantSame(t, "Make of Items", n, made(t, items(t, n)...), true)
		if len(l) < 100 {
			wantSame(t, "in another order", n, made(t, c.shuffled(l)...), true)
		}
	}
}

// P19.5: of any list at all Make answers what the paper does; what it takes comes back.
func TestP195AnyList(t *testing.T) {
	told := map[api.Errno]int{}
	for seed := range chance(3000) {
		c := seed
		l := c.list(12)
		for range c.below(3) {
			x := api.Item{Path: c.name(), Kind: int8(c.below(5) - 1), Data: make([]byte, c.below(2))}
			if len(l) > 0 && c.below(3) == 0 {
				x.Path = l[c.below(len(l))].Path + "/" + x.Path
			}
			for range c.below(3) {
				x.Path += []string{"/", "/a", "/.", "/b", "\x00"}[c.below(5)]
			}
			l = slices.Insert(l, c.below(len(l)+1), x)
		}
		if c.below(3) == 0 && len(l) > 1 {
			i, j := c.below(len(l)), c.below(len(l))
			l[i], l[j] = l[j], l[i]
		}
		told[wantMake(t, l)]++
		if n, e, _ := tree.Make(l); e == api.OK {
			wantList(t, "there and back", items(t, n), inOrder(l))
		}
		if t.Failed() {
			t.Fatalf("seed %d", seed)
		}
	}
	for _, e := range []api.Errno{api.OK, api.ErrArg, api.ErrName, api.ErrThere, api.ErrNone, api.ErrDir} {
		if told[e] < 20 {
			t.Errorf("%d lists were answered %v", told[e], e)
		}
	}
}

// grown is a tree by chance, on paper too, with mounts and whites.
func (c *chance) grown(t *testing.T, most int) *sheet {
	t.Helper()
	top := dirSheet()
	dirs := []*sheet{top}
	for range c.below(most) {
		d, name := dirs[c.below(len(dirs))], c.name()
		if d.at(name) != nil || d.depthIn([]*sheet{top}) > 60 {
			continue
		}
		switch k := c.below(9); {
		case k < 4:
			d.hold(t, name, leaves(t)[k])
		case k == 4:
			d.hold(t, name, fileSheet(t, strings.Repeat("x", c.below(9))))
		default:
			dirs = append(dirs, d.hold(t, name, dirSheet()))
		}
	}
	return top
}

// places are all directories of a tree, with their paths.
func places(top *sheet) (l []*sheet, paths []string) {
	top.through("", func(path string, m *sheet) {
		if m.kind == api.NodeDir {
			l, paths = append(l, m), append(paths, path)
		}
	})
	return l, paths
}

// below is the path of a name in a directory.
func below(path, name string) string {
	if path == "" {
		return name
	}
	return path + "/" + name
}

// P19.6: behind a Move Items are those of before with another beginning; and Move back leaves the tree as it was.
func TestP196MoveAndBack(t *testing.T) {
	told := map[api.Errno]int{}
	for seed := range chance(300) {
		c := seed
		top := c.grown(t, 60)
		for range 30 {
			l, paths := places(top)
			i, j := c.below(len(l)), c.below(len(l))
			from, to, name, as := l[i], l[j], c.name(), c.name()
			if len(from.names) > 0 {
				name = from.names[c.below(len(from.names))]
			}
			before := items(t, top.node)
			e := move(t, []*sheet{top}, from, name, to, as)
			told[e]++
			want := before
			if e == api.OK {
				want = renamed(before, below(paths[i], name), below(paths[j], as))
			}
			wantList(t, "behind the Move", items(t, top.node), want)
			if e == api.OK && c.below(2) == 0 {
				move(t, []*sheet{top}, to, as, from, name)
				wantList(t, "behind Move and Move back", items(t, top.node), before)
			}
			top.wantStands(t)
			if t.Failed() {
				t.Fatalf("seed %d: %q in %q to %q in %q: %v", seed, name, paths[i], as, paths[j], e)
			}
		}
	}
	for _, e := range []api.Errno{api.OK, api.ErrThere, api.ErrNone, api.ErrLoop} {
		if told[e] < 50 {
			t.Errorf("%d Moves were answered %v", told[e], e)
		}
	}
}

// renamed is a list in which what is at or below a path stands at or below another one.
func renamed(l []api.Item, was, is string) []api.Item {
	l = slices.Clone(l)
	for i, x := range l {
		if x.Path == was || strings.HasPrefix(x.Path, was+"/") {
			l[i].Path = is + x.Path[len(was):]
		}
	}
	return inOrder(l)
}

// P19.6: Move and Move back, held against a tree that was left alone.
func TestP196Back(t *testing.T) {
	l := []api.Item{dir("a"), dir("a/b"), file("a/b/f", "1"), dir("c"), link("c/l", "2"), file("a.b", "3")}
	alone, n := made(t, l...), made(t, l...)
	a, _ := n.Get("a")
	c, _ := n.Get("c")
	for i, x := range []struct {
		from *node.Node
		name string
		to   *node.Node
		as   string
	}{{n, "a", c, "x"}, {a, "b", n, "b"}, {n, "a.b", a, "a.b"}, {c, "l", c, "m"}, {n, "c", a, "c"}} {
		if e := tree.Move(x.from, x.name, x.to, x.as); e != api.OK {
			t.Errorf("Move %d answers %v", i, e)
		}
		wantSame(t, fmt.Sprint("behind Move ", i), alone, n, false)
		if e := tree.Move(x.to, x.as, x.from, x.name); e != api.OK {
			t.Errorf("Move %d back answers %v", i, e)
		}
		wantSame(t, fmt.Sprint("behind Move back ", i), alone, n, true)
	}
}

// P19.6: a name that only begins like the one that moves stays where it is.
func TestP196LikeNames(t *testing.T) {
	n := made(t, dir("a"), file("a/x", "1"), dir("aa"), file("aa/x", "2"), file("a.b", "3"), dir("b"), dir("b/a"), file("b/a/x", "4"))
	b, _ := n.Get("b")
	if e := tree.Move(n, "a", b, "z"); e != api.OK {
		t.Fatal(e)
	}
	wantList(t, "behind the Move", items(t, n), []api.Item{file("a.b", "3"), dir("aa"), file("aa/x", "2"), dir("b"), dir("b/a"), file("b/a/x", "4"), dir("b/z"), file("b/z/x", "1")})
}

// P19.6: a handle that was opened ahead of a Move reads on, and writes; the tree tells what it wrote.
func TestP196HandleReadsOn(t *testing.T) {
	n := made(t, dir("d"), dir("d/e"), file("d/e/f", "abc"), dir("g"))
	d, _ := n.Get("d")
	e, _ := d.Get("e")
	g, _ := n.Get("g")
	f, _ := e.Get("f")
	h, _ := f.Open()
	now := "abc"
	for i, x := range []struct {
		from *node.Node
		name string
		to   *node.Node
		as   string
		e    api.Errno
	}{{e, "f", g, "f2", api.OK}, {g, "f2", e, "f", api.OK}, {n, "d", g, "d", api.OK}, {g, "d", e, "x", api.ErrLoop}, {d, "e", n, "e", api.OK}, {e, "f", n, "last", api.OK}} {
		if e := tree.Move(x.from, x.name, x.to, x.as); e != x.e {
			t.Errorf("Move %d answers %v", i, e)
		}
		if told := h.Do(api.Op{Do: api.DoRead, N: 99}); told.E != api.OK || string(told.Data) != now {
			t.Errorf("behind Move %d it reads %q, %v, want %q", i, told.Data, told.E, now)
		}
		if again, e := f.Open(); again != h || e != api.OK {
			t.Errorf("Open behind Move %d answers another handle, %v", i, e)
		}
		now = fmt.Sprintf("%05d", i)
		h.Do(api.Op{Do: api.DoWrite, B: []byte(now)})
	}
	wantList(t, "in the end", items(t, n), []api.Item{dir("e"), dir("g"), dir("g/d"), file("last", now)})
}

// P19.7: any mixture of Moves, over several trees: none ever has a directory below itself, and Items ends.
func TestP197AnyMixture(t *testing.T) {
	told := map[api.Errno]int{}
	for seed := range chance(120) {
		c := seed
		tops := []*sheet{c.grown(t, 40), c.grown(t, 40), dirSheet()}
		for range 80 {
			a, _ := places(tops[c.below(3)])
			b, _ := places(tops[c.below(3)])
			from, to, name := a[c.below(len(a))], b[c.below(len(b))], c.name()
			if len(from.names) > 0 && c.below(8) > 0 {
				name = from.names[c.below(len(from.names))]
			}
			as := fmt.Sprint(c.below(40))
			if c.below(9) == 0 {
				as = badNames()[c.below(len(badNames()))]
			}
			told[move(t, tops, from, name, to, as)]++
			for _, top := range tops {
				top.wantItems(t)
				top.wantOnce(t)
			}
			if t.Failed() {
				t.Fatalf("seed %d", seed)
			}
		}
	}
	for _, e := range []api.Errno{api.OK, api.ErrNone, api.ErrName, api.ErrThere, api.ErrLoop} {
		if told[e] < 20 {
			t.Errorf("%d Moves were answered %v", told[e], e)
		}
	}
}

// wantOnce holds that each directory is met once, and none below itself, by node's own calls.
func (s *sheet) wantOnce(t *testing.T) {
	t.Helper()
	met := map[*node.Node]bool{}
	var down func(n *node.Node)
	down = func(n *node.Node) {
		if met[n] {
			t.Fatal("a directory is met twice")
		}
		met[n] = true
		l, _ := n.List()
		for _, x := range l {
			if m, _ := n.Get(x.Name); m.Kind() == api.NodeDir {
				down(m)
			}
		}
	}
	down(s.node)
}

// P19.7: deep trees of long chains that come and go: nothing gets deeper than MaxDepth.
func TestP197Deep(t *testing.T) {
	told := map[api.Errno]int{}
	for seed := range chance(60) {
		c := seed
		top := dirSheet()
		for i := range 6 {
			top.hold(t, fmt.Sprint("t", i), dirSheet()).chain(t, 20+c.below(30), "c")
		}
		for i := range 80 {
			l, _ := places(top)
			from, to := l[c.below(len(l))], l[c.below(len(l))]
			if len(from.names) == 0 {
				continue
			}
			told[move(t, []*sheet{top}, from, from.names[c.below(len(from.names))], to, fmt.Sprint("x", i))]++
		}
		top.wantItems(t)
		top.wantStands(t)
		if high := top.highest(); high > 64 {
			t.Errorf("the tree is %d high", high)
		}
		if t.Failed() {
			t.Fatalf("seed %d", seed)
		}
	}
	for _, e := range []api.Errno{api.OK, api.ErrLoop, api.ErrLong} {
		if told[e] < 20 {
			t.Errorf("%d Moves were answered %v", told[e], e)
		}
	}
}
