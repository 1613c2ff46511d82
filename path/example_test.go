package path_test

import (
	"fmt"
	"testing"

	"mantle/api"
	"mantle/node"
	"mantle/path"
	"mantle/tree"
)

func Example() {
	root, _, _ := tree.Make([]api.Item{
		{Path: "a", Kind: api.NodeDir},
		{Path: "a/f", Data: []byte("xy")},
		{Path: "a/l", Kind: api.NodeLink, Data: []byte("f")},
		{Path: "top", Kind: api.NodeLink, Data: []byte("/a/..")},
	})
	fmt.Println(path.Check("..."), path.Check(".."))
	fmt.Println(path.Clean("/a//b/./../c"))
	n, e := path.Walk(root, "top/a/l", true)
	fmt.Println(n.Kind() == api.NodeFile, e)
	n, e = path.Walk(root, "top/a/l", false)
	fmt.Println(n.Kind() == api.NodeLink, e)
	fmt.Println(path.Real(root, "top/a/l"))
	dir, name, e := path.Place(root, "top/a/new")
	a, _ := root.Get("a")
	fmt.Println(dir == a, name, e)
	_, e = path.Walk(root, "a/f/..", true)
	fmt.Println(e)
	// Output:
	// error 0 error 190
	// a/c error 0
	// true error 0
	// true error 0
	// a/f error 0
	// true new error 0
	// error 193
}

// The chapter's table of examples, row by row.
func TestExamples(t *testing.T) {
	root := dirSheet()
	a := root.dir(t, "a")
	f := a.file(t, "f")
	l := a.link(t, "l", "f")
	m := a.link(t, "m", "/a")
	r := root.link(t, "r", "r")
	for p, want := range map[string]string{"/a//b/./../c": "a/c", "../..": ""} {
		if s, e := path.Clean(p); s != want || e != api.OK {
			t.Errorf("Clean(%q) answers %q, %v", p, s, e)
		}
	}
	if s, e := path.Clean("a/\x00"); s != "" || e != api.ErrName {
		t.Errorf("Clean of no name answers %q, %v", s, e)
	}
	leads(t, root, "a/l", f, l, "a/f")
	same(t, root, "a/m/f", f, "a/f")
	same(t, root, "a/m/../a", a, "a")
	leads(t, root, "a/m/l", f, l, "a/f")
	leads(t, root, "a/m", a, m, "a")
	same(t, root, "", root, "")
	fails(t, root, "r", api.ErrLoop)
	if n, e := path.Walk(root.node, "r", false); n != r.node || e != api.OK {
		t.Errorf("Walk(r) without follow answers %v, %v", n != nil, e)
	}
	failsBoth(t, root, "a/f/x", api.ErrDir)
	same(t, root, "a/f/.", f, "a/f")
	failsBoth(t, root, "a/f/..", api.ErrDir)
	failsBoth(t, root, "b", api.ErrNone)
	placed(t, root, "a/new", a, "new")
	placed(t, root, "a/m/new", a, "new")
	notPlaced(t, root, "a/f/x", api.ErrDir)
	notPlaced(t, root, "a/..", api.ErrName)
	notPlaced(t, root, "/", api.ErrName)
}

// DOC.md's example 8: a walk along a link ends at the very node.
func TestExampleOfTheWhole(t *testing.T) {
	root, _, _ := tree.Make([]api.Item{{Path: "d", Kind: api.NodeDir}, {Path: "d/a", Data: []byte("x")}, {Path: "l", Kind: api.NodeLink, Data: []byte("d/a")}})
	d, _ := root.Get("d")
	a, _ := d.Get("a")
	if n, e := path.Walk(root, "l", true); n != a || e != api.OK {
		t.Errorf("Walk answers %v, %v", n != nil, e)
	}
}

// P8: paths, lists and nodes tell the same tree: each item stands at its path, and its path is its own Real, where no link lies.
func TestListsAndPaths(t *testing.T) {
	for seed := range chance(200) {
		c := seed
		root := c.tree(t, 60)
		l, e := tree.Items(root.node)
		if e != api.OK {
			t.Fatal(e)
		}
		for _, x := range l {
			dir, name, e := path.Place(root.node, x.Path)
			var n *node.Node
			if e == api.OK {
				n, e = dir.Get(name)
			}
			if e != api.OK || n.Kind() != x.Kind {
				t.Errorf("seed %d: at %q stands a node of kind %d, %v, want %d", seed, x.Path, n.Kind(), e, x.Kind)
			}
			if x.Kind == api.NodeFile || x.Kind == api.NodeDir || x.Kind == api.NodeMount {
				if s, e := path.Real(root.node, x.Path); s != x.Path || e != api.OK {
					t.Errorf("seed %d: Real(%q) answers %q, %v", seed, x.Path, s, e)
				}
			}
		}
	}
}
