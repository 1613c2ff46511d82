package tree_test

import (
	"fmt"
	"testing"

	"mantle/api"
	"mantle/tree"
)

func Example() {
	root, e, _ := tree.Make([]api.Item{
		{Path: "d", Kind: api.NodeDir},
		{Path: "d/a", Data: []byte("xy")},
		{Path: "l", Kind: api.NodeLink, Data: []byte("d/a")},
	})
	fmt.Println(e)
	fmt.Println(tree.Count(root))
	d, _ := root.Get("d")
	fmt.Println(tree.Move(root, "d", d, "x")) // below itself
	fmt.Println(tree.Move(d, "a", root, "b"))
	l, _ := tree.Items(root)
	for _, x := range l {
		fmt.Printf("%s %d %q\n", x.Path, x.Kind, x.Data)
	}
	_, e, place := tree.Make([]api.Item{{Path: "a"}, {Path: "a/b"}})
	fmt.Println(e, place)
	// Output:
	// error 0
	// 3 2 error 0
	// error 200
	// error 0
	// b 0 "xy"
	// d 1 ""
	// l 2 "d/a"
	// error 193 1
}

// The chapter's table of examples, row by row.
func TestExamples(t *testing.T) {
	three := []api.Item{dir("d"), file("d/a", "xy"), link("l", "d/a")}
	n := made(t, three...)
	wantList(t, "the first tree", items(t, n), three)
	wantPlace(t, []api.Item{file("d/a", "")}, api.ErrNone, 0)
	wantPlace(t, []api.Item{file("a", ""), file("a/b", "")}, api.ErrDir, 1)
	wantPlace(t, []api.Item{dir("a"), dir("a")}, api.ErrThere, 1)
	wantPlace(t, []api.Item{{Path: "a", Kind: api.NodeDir, Data: []byte("x")}}, api.ErrArg, 0)
	wantPlace(t, []api.Item{file("", "")}, api.ErrName, 0)
	wantPlace(t, []api.Item{file("a//b", "")}, api.ErrName, 0)
	wantList(t, "a.b, a, a/c", items(t, made(t, file("a.b", ""), dir("a"), file("a/c", ""))), []api.Item{dir("a"), file("a.b", ""), file("a/c", "")})
	d, _ := n.Get("d")
	if e := tree.Move(n, "d", d, "x"); e != api.ErrLoop {
		t.Errorf("Move below itself answers %v", e)
	}
	a, _ := d.Get("a")
	if l, e := tree.Items(nil); l != nil || e != api.ErrNil {
		t.Errorf("Items(nil) answers %v, %v", l, e)
	}
	if l, e := tree.Items(a); l != nil || e != api.ErrDir {
		t.Errorf("Items of a file's node answers %v, %v", l, e)
	}
	wantCount(t, n, 3, 2, api.OK)
}
