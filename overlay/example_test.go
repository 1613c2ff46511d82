package overlay_test

import (
	"fmt"
	"testing"

	"mantle/api"
	"mantle/node"
	"mantle/overlay"
	"mantle/tree"
)

func Example() {
	lower, _, _ := tree.Make([]api.Item{
		{Path: "a", Data: []byte("1")},
		{Path: "d", Kind: api.NodeDir},
		{Path: "d/x", Data: []byte("2")},
	})
	upper := node.Dir()
	o, e := overlay.New(upper, []*node.Node{lower})
	show := func() {
		l, e := o.Items()
		for _, i := range l {
			fmt.Printf("%s %d %q, ", i.Path, i.Kind, i.Data)
		}
		fmt.Println(e)
	}
	show()
	fmt.Println(e, o.Write("d/x", 1, []byte("!")))
	show()
	fmt.Println(o.Drop("d"), o.Drop("d/x"), o.Drop("d"))
	show()
	fmt.Println(o.Put(api.Item{Path: "d", Kind: api.NodeDir}))
	fmt.Println(o.List("d"))
	fmt.Println(tree.Items(lower))
	fmt.Println(tree.Items(upper))
	// Output:
	// a 0 "1", d 1 "", d/x 0 "2", error 0
	// error 0 error 0
	// a 0 "1", d 1 "", d/x 0 "2!", error 0
	// error 194 error 0 error 0
	// a 0 "1", error 0
	// error 0
	// [] error 0
	// [{a 0 [49]} {d 1 []} {d/x 0 [50]}] error 0
	// [{d 1 []} {d/x 4 []}] error 0
}

// The chapter's table of examples, row by row.
func TestExamples(t *testing.T) {
	x := bothOf(t, sheet{}, sheet{"a": file("1"), "d": dir(), "d/x": file("2")})
	x.wantText(t, "a d d/x")
	x.want(t, write("d/x", 1, "!"), api.OK)
	if i, e := x.o.Get("d/x"); string(i.Data) != "2!" || e != api.OK {
		t.Errorf("d/x is %q, %v", i.Data, e)
	}
	if l, e := tree.Items(x.lower[0]); len(l) != 3 || string(l[2].Data) != "2" || e != api.OK {
		t.Errorf("the lower d/x is %v, %v", l, e)
	}
	x.want(t, drop("d"), api.ErrEmpty)
	x.wants(t, drop("d/x"), drop("d"))
	x.wantText(t, "a")
	x.want(t, put("d", dir()), api.OK)
	if l, e := x.o.List("d"); len(l) != 0 || e != api.OK {
		t.Errorf("List(d) answers %v, %v", l, e)
	}
	x.want(t, put("a", dir()), api.ErrThere)
	x.want(t, put("a/b", file("")), api.ErrDir)
	x.want(t, put("q/b", file("")), api.ErrNone)
	x.want(t, put("", file("")), api.ErrName)
	x.wants(t, put("a", file("3")), drop("a"))
	if _, e := x.o.Get("a"); e != api.ErrNone {
		t.Errorf("Get(a) answers %v", e)
	}
}

// wantText holds the paths of Items.
func (x *both) wantText(t *testing.T, want string) {
	t.Helper()
	l, e := x.o.Items()
	got := ""
	for i, y := range l {
		if i > 0 {
			got += " "
		}
		got += y.Path
	}
	if got != want || e != api.OK {
		t.Errorf("Items are %q, %v, want %q", got, e, want)
	}
}

// Example 9 of the whole.
func TestExampleOfTheWhole(t *testing.T) {
	x := bothOf(t, sheet{}, sheet{"d": dir(), "d/x": file("2")})
	x.wants(t, drop("d/x"), drop("d"))
	x.wantText(t, "")
	if l, e := tree.Items(x.lower[0]); len(l) != 2 || e != api.OK {
		t.Errorf("the tree below has %v, %v", l, e)
	}
}
