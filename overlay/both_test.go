package overlay_test

import (
	"fmt"
	"maps"
	"slices"
	"strings"
	"testing"

	"mantle/api"
	"mantle/face"
	"mantle/memory"
	"mantle/node"
	"mantle/overlay"
)

// spy is a file that can only be read, or not even that.
type spy struct {
	data  string
	fails api.Errno
}

func (f *spy) Size() int64 { return int64(len(f.data)) }

func (f *spy) ReadAt(at int64, n int) ([]byte, api.Errno) {
	if f.fails != api.OK {
		return nil, f.fails
	}
	return []byte(f.data[at : int(at)+n]), api.OK
}

// newFile is a file of memory that can all.
func newFile(t *testing.T, s string) *face.Handle {
	t.Helper()
	h, e := memory.New([]byte(s), 15)
	if e != api.OK {
		t.Fatal(e)
	}
	return h
}

// node is a new node of a thing; a mount is one of a directory that holds something.
func (x thing) node(t *testing.T) *node.Node {
	t.Helper()
	n, e := node.White(), api.OK
	switch {
	case x.kind == api.NodeFile && (x.only || x.fails != api.OK):
		n = node.File(face.Make(&spy{x.data, x.fails}, nil, nil, nil, nil))
	case x.kind == api.NodeFile:
		n = node.File(newFile(t, x.data))
	case x.kind == api.NodeDir:
		n = node.Dir()
	case x.kind == api.NodeLink:
		n, e = node.Link(x.data)
	case x.kind == api.NodeMount:
		under := node.Dir()
		under.Add("a", node.White())
		under.Add("b", node.Dir())
		n, e = node.Mount(under)
	}
	if e != api.OK {
		t.Fatal(e)
	}
	return n
}

// grow lays all of a sheet into an empty directory.
func (s sheet) grow(t *testing.T, root *node.Node) {
	t.Helper()
	at := map[string]*node.Node{"": root}
	for _, p := range slices.Sorted(maps.Keys(s)) {
		at[p] = s[p].node(t)
		if e := at[parentOf(p)].Add(p[strings.LastIndexByte(p, '/')+1:], at[p]); e != api.OK {
			t.Fatalf("Add of %.90q: %v", p, e)
		}
	}
}

// told is a tree as a sheet's text, by node's own calls.
func told(t *testing.T, root *node.Node) string {
	t.Helper()
	s := sheet{}
	var through func(d *node.Node, p string)
	through = func(d *node.Node, p string) {
		l, e := d.List()
		if e != api.OK {
			t.Fatal(e)
		}
		for _, x := range l {
			n, _ := d.Get(x.Name)
			q := joined(p, x.Name)
			it := thing{kind: n.Kind()}
			switch it.kind {
			case api.NodeFile:
				h, _ := n.Open()
				b, e := memory.All(h)
				it.data, it.fails = string(b), e
				if e != api.OK {
					it.data = strings.Repeat("?", int(x.Size))
				}
			case api.NodeLink:
				it.data, _ = n.Leads()
			case api.NodeDir:
				through(n, q)
			}
			s[q] = it
		}
	}
	through(root, "")
	return s.text()
}

// both is an overlay, and the same on paper.
type both struct {
	o     *overlay.Overlay
	upper *node.Node
	lower []*node.Node
	paper *paper
}

// bothOf stands over new trees.
func bothOf(t *testing.T, upper sheet, lower ...sheet) *both {
	t.Helper()
	return bothIn(t, 0, upper, lower...)
}

// bothIn has the upper tree's root so deep in another tree.
func bothIn(t *testing.T, deep int, upper sheet, lower ...sheet) *both {
	t.Helper()
	x := &both{upper: node.Dir(), paper: paperOf(upper, lower...)}
	x.paper.deep = deep
	upper.grow(t, x.upper)
	top := x.upper
	for range deep {
		over := node.Dir()
		if e := over.Add("c", top); e != api.OK {
			t.Fatal(e)
		}
		top = over
	}
	for _, s := range lower {
		n := node.Dir()
		s.grow(t, n)
		x.lower = append(x.lower, n)
	}
	x.o = overlaid(t, x.upper, x.lower...)
	return x
}

// overlaid is an overlay that New must make.
func overlaid(t *testing.T, upper *node.Node, lower ...*node.Node) *overlay.Overlay {
	t.Helper()
	o, e := overlay.New(upper, lower)
	if o == nil || e != api.OK {
		t.Fatalf("New answers %v, %v", o != nil, e)
	}
	return o
}

// act is a call that changes something.
type act struct {
	do   int
	item api.Item // its Path is that of every call
	at   int64
	b    []byte
}

const (
	doPut = iota
	doWrite
	doDrop
)

func put(p string, x thing) act {
	return act{do: doPut, item: api.Item{Path: p, Kind: x.kind, Data: []byte(x.data)}}
}

func write(p string, at int64, s string) act {
	return act{do: doWrite, item: api.Item{Path: p}, at: at, b: []byte(s)}
}

func drop(p string) act { return act{do: doDrop, item: api.Item{Path: p}} }

func (a act) on(o *overlay.Overlay) api.Errno {
	switch a.do {
	case doPut:
		return o.Put(a.item)
	case doWrite:
		return o.Write(a.item.Path, a.at, a.b)
	}
	return o.Drop(a.item.Path)
}

func (a act) onPaper(m *paper) api.Errno {
	switch a.do {
	case doPut:
		return m.put(a.item)
	case doWrite:
		return m.write(a.item.Path, a.at, a.b)
	}
	return m.drop(a.item.Path)
}

// text is an act as a failed test tells it.
func (a act) text() string {
	name := []string{"Put", "Write", "Drop"}[a.do]
	return fmt.Sprintf("%s(%.90q (%d bytes), kind %d, %d bytes %.30q; at %d, %d bytes %.30q)", name, a.item.Path, len(a.item.Path), a.item.Kind, len(a.item.Data), a.item.Data, a.at, len(a.b), a.b)
}

// do does it to both, and holds that they answer the same, which it tells.
func (x *both) do(t *testing.T, a act) api.Errno {
	t.Helper()
	want := a.onPaper(x.paper)
	if e := a.on(x.o); e != want {
		t.Fatalf("%s answers %v, want %v, over %s", a.text(), e, want, x.text())
	}
	return want
}

// want is an act of which the test tells the answer; behind it all is held.
func (x *both) want(t *testing.T, a act, want api.Errno) {
	t.Helper()
	if e := x.do(t, a); e != want {
		t.Fatalf("%s answers %v on paper, want %v", a.text(), e, want)
	}
	x.wantSame(t)
}

// wants are acts that must be OK.
func (x *both) wants(t *testing.T, l ...act) {
	t.Helper()
	for _, a := range l {
		x.want(t, a, api.OK)
	}
}

// text is all layers, for messages.
func (x *both) text() string {
	var b strings.Builder
	for i, s := range x.paper.layers {
		fmt.Fprintf(&b, "\nlayer %d:\n%s", i, short(s.text()))
	}
	return b.String()
}

// wantSame holds all that an overlay tells, and what each of the trees has, against the paper.
func (x *both) wantSame(t *testing.T) {
	t.Helper()
	x.wantItems(t)
	x.wantTrees(t)
	x.wantTold(t, "")
	for _, p := range x.paper.paths() {
		x.wantTold(t, p)
	}
}

// wantAround is wantSame, but of the paths one alone, and its parent.
func (x *both) wantAround(t *testing.T, p string) {
	t.Helper()
	x.wantItems(t)
	x.wantTrees(t)
	x.wantTold(t, p)
	x.wantTold(t, parentOf(p))
}

// wantTold holds Get and List of a path.
func (x *both) wantTold(t *testing.T, p string) {
	t.Helper()
	i, e := x.o.Get(p)
	if j, want := x.paper.get(p); e != want || !sameItem(i, j) {
		t.Fatalf("Get(%.90q) answers %.90q %d %.90q %v, want %.90q %d %.90q %v, over %s", p, i.Path, i.Kind, i.Data, e, j.Path, j.Kind, j.Data, want, x.text())
	}
	l, e := x.o.List(p)
	if m, want := x.paper.list(p); e != want || !slices.Equal(l, m) {
		t.Fatalf("List(%.90q) answers %s %v, want %s %v, over %s", p, short(fmt.Sprint(l)), e, short(fmt.Sprint(m)), want, x.text())
	}
}

// wantItems holds Items, those of another overlay over the same trees too.
func (x *both) wantItems(t *testing.T) {
	t.Helper()
	m, want := x.paper.items()
	for _, o := range []*overlay.Overlay{x.o, overlaid(t, x.upper, x.lower...)} {
		if l, e := o.Items(); e != want || !slices.EqualFunc(l, m, sameItem) {
			t.Fatalf("Items answers %s %v, want %s %v, over %s", itemsText(l), e, itemsText(m), want, x.text())
		}
	}
}

// wantTrees holds what the layers have, without the overlay.
func (x *both) wantTrees(t *testing.T) {
	t.Helper()
	for i, n := range append([]*node.Node{x.upper}, x.lower...) {
		if got, want := told(t, n), x.paper.layers[i].text(); got != want {
			t.Fatalf("layer %d has\n%s\nwant\n%s", i, short(got), short(want))
		}
	}
}

func sameItem(a, b api.Item) bool {
	return a.Path == b.Path && a.Kind == b.Kind && string(a.Data) == string(b.Data)
}

func itemsText(l []api.Item) string {
	var b strings.Builder
	for _, i := range l {
		fmt.Fprintf(&b, "%.90q %d %.30q, ", i.Path, i.Kind, i.Data)
	}
	return short(b.String())
}

// chance tells numbers that are the same at each run.
type chance uint64

func (c *chance) below(n int) int {
	*c = *c*6364136223846793005 + 1442695040888963407
	return int(uint64(*c) >> 33 % uint64(n))
}

// pick is one of a list.
func pick[T any](c *chance, l []T) T { return l[c.below(len(l))] }

// many puts so many things into a sheet, by names that begin so.
func (s sheet) many(n int, begin string, x thing) sheet {
	for i := range n {
		s[fmt.Sprint(begin, i)] = x
	}
	return s
}
