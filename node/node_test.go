package node_test

import (
	"strings"
	"testing"

	"mantle/api"
	"mantle/face"
	"mantle/memory"
	"mantle/node"
)

// P18.1, P18.2: files over handles that can all sorts of things; each has the very handle.
func TestP181File(t *testing.T) {
	if n := node.File(nil); n != nil {
		t.Errorf("File(nil) answers %v", n)
	}
	for can := range uint8(16) {
		h, e := memory.New([]byte("abc"), can)
		if e != api.OK {
			t.Fatal(e)
		}
		n := node.File(h)
		if n == nil {
			t.Fatal("File answers nil")
		}
		wantNode(t, n, api.NodeFile, h, "", nil)
		if o, e := n.Open(); e != api.OK || o.Can() != can || o.File() != h.File() {
			t.Errorf("a file that can %d is opened as one that can %d, %v", can, o.Can(), e)
		}
	}
}

// Two files over one handle are two nodes, and what is written through one is read through the other.
func TestP181FilesOfOneHandle(t *testing.T) {
	h := newFile(t, "abc")
	a, b := node.File(h), node.File(h)
	if a == b {
		t.Error("two files are one node")
	}
	one, e := a.Open()
	two, f := b.Open()
	if e != api.OK || f != api.OK || one != h || two != h {
		t.Fatal(e, f)
	}
	one.Do(api.Op{Do: api.DoWrite, At: 1, B: []byte("XYZ")})
	if told := two.Do(api.Op{Do: api.DoRead, N: 9}); string(told.Data) != "aXYZ" {
		t.Errorf("it reads %q", told.Data)
	}
}

// P18.1: each directory is empty, and one of its own.
func TestP181Dir(t *testing.T) {
	a, b := node.Dir(), node.Dir()
	for _, n := range []*node.Node{a, b} {
		wantNode(t, n, api.NodeDir, nil, "", nil)
		if l, e := n.List(); len(l) != 0 || e != api.OK {
			t.Errorf("a new directory has %v, %v", l, e)
		}
	}
	if a == b {
		t.Fatal("two directories are one node")
	}
	if e := a.Add("x", node.White()); e != api.OK {
		t.Fatal(e)
	}
	if _, e := b.Get("x"); e != api.ErrNone {
		t.Errorf("what was added to one is in the other: %v", e)
	}
}

// P18.1: links lead wherever they are told to, be it a path or not.
func TestP181Link(t *testing.T) {
	for _, to := range []string{
		"a", "a/b", "/", "//", ".", "..", "../../..", "/a//b/", " ", "\x00", "a\x00b", "\xff\xfe", "é", "not/there",
		strings.Repeat("n", 65), strings.Repeat("a/", 2048), strings.Repeat("x", 4095), strings.Repeat("x", 4096), strings.Repeat("\x00", 4096), strings.Repeat("/", 4096),
	} {
		n, e := node.Link(to)
		if e != api.OK || n == nil {
			t.Errorf("Link(%.50q) of %d bytes answers %v, %v", to, len(to), n, e)
			continue
		}
		wantNode(t, n, api.NodeLink, nil, to, nil)
	}
}

func TestP181LinkRefused(t *testing.T) {
	for to, want := range map[string]api.Errno{
		"": api.ErrName, strings.Repeat("x", 4097): api.ErrLong, strings.Repeat("/", 4097): api.ErrLong, strings.Repeat("é", 2049): api.ErrLong, strings.Repeat("x", 1<<20): api.ErrLong,
	} {
		if n, e := node.Link(to); n != nil || e != want {
			t.Errorf("Link of %d bytes answers %v, %v, want %v", len(to), n, e, want)
		}
	}
}

// The bytes count, not the letters.
func TestP181LinkCountsBytes(t *testing.T) {
	if _, e := node.Link(strings.Repeat("é", 2048)); e != api.OK {
		t.Errorf("4096 bytes, 2048 letters: %v", e)
	}
	if _, e := node.Link("x" + strings.Repeat("é", 2048)); e != api.ErrLong {
		t.Errorf("4097 bytes, 2049 letters: %v", e)
	}
}

// P18.1: a mount of a directory, of a mount, of that again: under all of them lies the directory itself.
func TestP181Mount(t *testing.T) {
	d := node.Dir()
	n := d
	seen := []*node.Node{d}
	for range 100 {
		m, e := node.Mount(n)
		if e != api.OK || m == nil {
			t.Fatalf("Mount answers %v, %v", m, e)
		}
		for _, x := range seen {
			if x == m {
				t.Fatal("a mount is a node that there was")
			}
		}
		wantNode(t, m, api.NodeMount, nil, "", d)
		n, seen = m, append(seen, m)
	}
	wantNode(t, d, api.NodeDir, nil, "", nil)
}

// A mount of a directory that stands somewhere, and that is changed since: it is the very directory.
func TestP181MountIsTheDirectory(t *testing.T) {
	w := newWorld(t)
	top, d := w.dir(), w.dir()
	m := w.mount(d)
	w.added(top, "d", d)
	w.added(top, "m", m)
	w.added(d, "in", w.file("abc"))
	again := w.mount(m)
	u, e := w.nodes[again].Under()
	if e != api.OK {
		t.Fatal(e)
	}
	if _, e := u.Get("in"); e != api.OK {
		t.Errorf("what was added to the directory is not under its mount: %v", e)
	}
	w.take(top, "d")
	w.wantAll()
	more := w.white()
	if e := u.Add("more", w.nodes[more]); e != w.paper.add(d, "more", more) {
		t.Fatal(e)
	}
	w.wantAll()
}

func TestP181MountRefused(t *testing.T) {
	if m, e := node.Mount(nil); m != nil || e != api.ErrNil {
		t.Errorf("Mount(nil) answers %v, %v", m, e)
	}
	l, _ := node.Link("some/where")
	for _, n := range []*node.Node{node.File(newFile(t, "abc")), l, node.White()} {
		if m, e := node.Mount(n); m != nil || e != api.ErrDir {
			t.Errorf("Mount of kind %d answers %v, %v", n.Kind(), m, e)
		}
	}
}

func TestP181White(t *testing.T) {
	a, b := node.White(), node.White()
	wantNode(t, a, api.NodeWhite, nil, "", nil)
	wantNode(t, b, api.NodeWhite, nil, "", nil)
	if a == b {
		t.Error("two whites are one node")
	}
}

// P18.2: the kinds' numbers, as package api has them.
func TestP182Kinds(t *testing.T) {
	l, _ := node.Link("l")
	m, _ := node.Mount(node.Dir())
	for i, n := range []*node.Node{node.File(newFile(t, "")), node.Dir(), l, m, node.White()} {
		if k := n.Kind(); k != int8(i) {
			t.Errorf("Kind tells %d, want %d", k, i)
		}
	}
}

// R1: all calls of a nil node.
func TestNilNode(t *testing.T) {
	var n *node.Node
	if k := n.Kind(); k != -1 {
		t.Errorf("Kind tells %d", k)
	}
	if h, e := n.Open(); h != nil || e != api.ErrNil {
		t.Errorf("Open answers %v, %v", h, e)
	}
	if to, e := n.Leads(); to != "" || e != api.ErrNil {
		t.Errorf("Leads answers %q, %v", to, e)
	}
	if u, e := n.Under(); u != nil || e != api.ErrNil {
		t.Errorf("Under answers %v, %v", u, e)
	}
	for _, m := range []*node.Node{nil, node.Dir(), node.White()} {
		for _, name := range []string{"", "a", "..", strings.Repeat("n", 65)} {
			if e := n.Add(name, m); e != api.ErrNil {
				t.Errorf("Add answers %v", e)
			}
		}
	}
	for _, name := range []string{"", "a", "..", strings.Repeat("n", 65)} {
		if e := n.Drop(name); e != api.ErrNil {
			t.Errorf("Drop answers %v", e)
		}
		if m, e := n.Take(name); m != nil || e != api.ErrNil {
			t.Errorf("Take answers %v, %v", m, e)
		}
		if m, e := n.Get(name); m != nil || e != api.ErrNil {
			t.Errorf("Get answers %v, %v", m, e)
		}
	}
	if l, e := n.List(); len(l) != 0 || e != api.ErrNil {
		t.Errorf("List answers %v, %v", l, e)
	}
}

// All calls of directories refuse what is none; a mount too, whatever lies under it.
func TestNoDirectory(t *testing.T) {
	w := newWorld(t)
	l := w.leaves()
	m := w.white()
	for _, n := range append(l, w.mount(l[2])) {
		for _, name := range []string{"held", "a", "", "..", strings.Repeat("n", 65)} {
			w.wantAdd(n, name, m, api.ErrDir)
			w.wantAdd(n, name, n, api.ErrDir)
			w.wantAdd(n, name, -1, api.ErrNil)
			if e := w.drop(n, name); e != api.ErrDir {
				t.Errorf("Drop is %v on paper", e)
			}
			if _, e := w.take(n, name); e != api.ErrDir {
				t.Errorf("Take is %v on paper", e)
			}
		}
		w.wantOne(n)
	}
	w.wantAll()
}

// A node asks nothing of its file, until List asks for its Size; and it needs no more than a file's own two calls.
func TestFileIsLeftAlone(t *testing.T) {
	s := &spy{}
	h := face.Make(s, nil, nil, nil, nil)
	n, d := node.File(h), node.Dir()
	n.Kind()
	n.Open()
	n.Leads()
	n.Under()
	node.Mount(n)
	d.Add("a", n)
	d.Add("b", n)
	d.Get("a")
	n.List()
	d.Drop("a")
	d.Take("b")
	if s.asked != 0 {
		t.Errorf("its file was called %d times", s.asked)
	}
}
