package node_test

import (
	"fmt"
	"testing"

	"mantle/api"
	"mantle/memory"
	"mantle/node"
)

func Example() {
	h, _ := memory.New([]byte("abc"), 15)
	root, d := node.Dir(), node.Dir()
	link, _ := node.Link("d/a")
	fmt.Println(root.Add("d", d), d.Add("a", node.File(h)), root.Add("l", link))
	fmt.Println(d.Add("up", root)) // no directory lies below itself
	up, _ := node.Mount(root)
	fmt.Println(d.Add("up", up)) // but a mount of it may stand there
	fmt.Println(root.List())
	fmt.Println(d.List())
	fmt.Println(root.Drop("d"))
	taken, e := root.Take("d")
	fmt.Println(taken == d, e, root.Add("again", taken))
	// Output:
	// error 0 error 0 error 0
	// error 200
	// error 0
	// [{d 1 2} {l 2 3}] error 0
	// [{a 0 3} {up 3 0}] error 0
	// error 194
	// true error 0 error 0
}

// wantErr holds an error of the chapter's table.
func wantErr(t *testing.T, what string, e, want api.Errno) {
	t.Helper()
	if e != want {
		t.Errorf("%s answers %v, want %v", what, e, want)
	}
}

// The chapter's table of examples, row by row.
func TestExamples(t *testing.T) {
	h := newFile(t, "abc")
	f, d, e := node.File(h), node.Dir(), node.Dir()
	wantErr(t, "d.Add(a, File(h))", d.Add("a", f), api.OK)
	wantErr(t, "d.Add(a, Dir())", d.Add("a", node.Dir()), api.ErrThere)
	wantErr(t, "d.Add(.., Dir())", d.Add("..", node.Dir()), api.ErrName)
	wantErr(t, "d.Add(b, nil)", d.Add("b", nil), api.ErrNil)
	wantErr(t, "d.Add(e, e)", d.Add("e", e), api.OK)
	wantErr(t, "e.Add(x, d)", e.Add("x", d), api.ErrLoop)
	wantErr(t, "e.Add(x, e)", e.Add("x", e), api.ErrLoop)
	wantErr(t, "Dir().Add(f, e)", node.Dir().Add("f", e), api.ErrThere)
	wantErr(t, "e.Add(h, the file of a)", e.Add("h", f), api.OK)
	wantErr(t, "d.Drop(e)", d.Drop("e"), api.ErrEmpty)
	wantErr(t, "d.Drop(z)", d.Drop("z"), api.ErrNone)
	it, x := d.Take("e")
	wantErr(t, "d.Take(e)", x, api.OK)
	if g, x := it.Get("h"); it != e || g != f || x != api.OK {
		t.Errorf("what was taken is %p, with its h %p, %v", it, g, x)
	}
	wantErr(t, "d.Add(e, it)", d.Add("e", it), api.OK)
	if l, x := d.List(); x != api.OK || fmt.Sprint(l) != "[{a 0 3} {e 1 1}]" {
		t.Errorf("d.List() answers %v, %v", l, x)
	}
	_, x = d.Open()
	wantErr(t, "d.Open()", x, api.ErrDir)
	_, x = d.Leads()
	wantErr(t, "d.Leads()", x, api.ErrDir)
	wantErr(t, "the file's Add", f.Add("x", e), api.ErrDir)
}

// The rows of what is made of nothing, and of mounts.
func TestExamplesOfMounts(t *testing.T) {
	d := node.Dir()
	f := node.File(newFile(t, "abc"))
	if n := node.File(nil); n != nil {
		t.Errorf("File(nil) answers %v", n)
	}
	_, e := node.Link("")
	wantErr(t, "Link of none", e, api.ErrName)
	_, e = node.Mount(nil)
	wantErr(t, "Mount(nil)", e, api.ErrNil)
	_, e = node.Mount(f)
	wantErr(t, "Mount(a file)", e, api.ErrDir)
	m, e := node.Mount(d)
	wantErr(t, "Mount(d)", e, api.OK)
	wantErr(t, "d.Add(a, a file)", d.Add("a", f), api.OK)
	wantErr(t, "d.Add(m, m)", d.Add("m", m), api.OK)
	_, e = m.Get("a")
	wantErr(t, "m.Get(a)", e, api.ErrDir)
	if u, e := m.Under(); u != d || e != api.OK {
		t.Errorf("m.Under() answers %p, %v", u, e)
	}
	if k := (*node.Node)(nil).Kind(); k != -1 {
		t.Errorf("Kind of nil is %d", k)
	}
}
