package node_test

import (
	"fmt"
	"math"
	"slices"
	"strings"
	"testing"

	"mantle/api"
	"mantle/face"
	"mantle/node"
)

// spy is a file that counts its calls, and does first what it is told to.
type spy struct {
	size  int64
	asked int
	first func()
}

func (s *spy) Size() int64 {
	s.asked++
	if s.first != nil {
		s.first()
	}
	return s.size
}

func (s *spy) ReadAt(int64, int) ([]byte, api.Errno) {
	s.asked++
	return nil, api.OK
}

// P18.4: a node of each kind, at first and when they have changed.
func TestP184List(t *testing.T) {
	w := newWorld(t)
	d, e, f, under := w.dir(), w.dir(), w.file("abc"), w.dir()
	w.added(under, "x", w.white())
	w.added(d, "white", w.white())
	w.added(d, "file", f)
	w.added(d, "dir", e)
	w.added(d, "link", w.link("some/where"))
	w.added(d, "mount", w.mount(under))
	want := func(s string) {
		t.Helper()
		if l, e := w.nodes[d].List(); e != api.OK || fmt.Sprint(l) != s {
			t.Errorf("List answers %v, %v, want %v", l, e, s)
		}
		w.wantAll()
	}
	want("[{dir 1 0} {file 0 3} {link 2 10} {mount 3 0} {white 4 0}]")
	w.paper[f].file.Do(api.Op{Do: api.DoWrite, At: 10, B: []byte("xyz")})
	w.added(e, "one", f)
	w.added(e, "two", w.dir())
	w.added(under, "y", w.dir())
	want("[{dir 1 2} {file 0 13} {link 2 10} {mount 3 0} {white 4 0}]")
	w.paper[f].file.Do(api.Op{Do: api.DoCut, At: 1})
	w.drop(e, "one")
	w.take(d, "link")
	want("[{dir 1 1} {file 0 1} {mount 3 0} {white 4 0}]")
}

// The size is that of the names in a directory, not of all that lies below.
func TestP184ListSizeOfDirectory(t *testing.T) {
	w := newWorld(t)
	top, d := w.dir(), w.dir()
	w.added(top, "d", d)
	for i := range 5 {
		e := w.added(d, fmt.Sprint(i), w.dir())
		for j := range 7 {
			w.added(e, fmt.Sprint(j), w.file("abc"))
		}
	}
	if l, e := w.nodes[top].List(); e != api.OK || !slices.Equal(l, []api.Entry{{Name: "d", Kind: api.NodeDir, Size: 5}}) {
		t.Errorf("List answers %v, %v", l, e)
	}
	w.wantAll()
}

// Links' bytes count, not their letters.
func TestP184ListSizeOfLink(t *testing.T) {
	w := newWorld(t)
	d := w.dir()
	for i, to := range []string{"a", "é", "\xff\x00", strings.Repeat("é", 2048), strings.Repeat("/", 4096)} {
		w.added(d, fmt.Sprint(i), w.link(to))
	}
	if l, e := w.nodes[d].List(); e != api.OK || fmt.Sprint(l) != "[{0 2 1} {1 2 2} {2 2 2} {3 2 4096} {4 2 4096}]" {
		t.Errorf("List answers %v, %v", l, e)
	}
	w.wantAll()
}

// A file's Size is told as the file tells it.
func TestP184ListSizeOfFile(t *testing.T) {
	d := node.Dir()
	var want []api.Entry
	for i, size := range []int64{0, 1, 3, api.MaxText, api.MaxSize, 1 << 40, math.MaxInt64, -1} {
		name := fmt.Sprint("f", i)
		if e := d.Add(name, node.File(face.Make(&spy{size: size}, nil, nil, nil, nil))); e != api.OK {
			t.Fatal(e)
		}
		want = append(want, api.Entry{Name: name, Size: size})
	}
	if l, e := d.List(); e != api.OK || !slices.Equal(l, want) {
		t.Errorf("List answers %v, %v, want %v", l, e, want)
	}
}

// One file under many names, one of them in another directory, is told at all of them as long as it is.
func TestP184ListOfOneFile(t *testing.T) {
	w := newWorld(t)
	d, e, f := w.dir(), w.dir(), w.file("abc")
	for _, name := range []string{"b", "a", "c"} {
		w.added(d, name, f)
	}
	w.added(e, "x", f)
	w.paper[f].file.Do(api.Op{Do: api.DoCut, At: 1000})
	for _, n := range []int{d, e} {
		l, _ := w.nodes[n].List()
		for _, x := range l {
			if x.Size != 1000 {
				t.Errorf("%v", x)
			}
		}
	}
	w.wantAll()
}

// P18.4: rising names, byte by byte, in whatever order they came.
func TestP184ListOrder(t *testing.T) {
	var names []string
	for b := 1; b < 256; b++ {
		for _, name := range []string{string([]byte{byte(b)}), string([]byte{'m', byte(b)}), string([]byte{byte(b), 'm'})} {
			if isName(name) && !slices.Contains(names, name) {
				names = append(names, name)
			}
		}
	}
	names = append(names, "a.b", "a-b", "a b", "A", "Z", "ab", "aB", "abc", "10", "9", "09", "é", "e\u0301", "\u65e5\u672c", "\U0001F600", "\uFFFD", "\xff\xff", "...", "..a", ".a", strings.Repeat("a", 63), strings.Repeat("a", 64), strings.Repeat("\xff", 64))
	slices.Sort(names)
	names = slices.Compact(names)
	c := chance(7)
	for range 6 {
		w := newWorld(t)
		d, n := w.dir(), w.white()
		for i := range names {
			j := i + c.below(len(names)-i)
			names[i], names[j] = names[j], names[i]
			w.added(d, names[i], n)
		}
		w.list(d)
		l, _ := w.nodes[d].List()
		if len(l) != len(names) {
			t.Fatalf("%d entries of %d names", len(l), len(names))
		}
		for i := 1; i < len(l); i++ {
			if !ahead(l[i-1].Name, l[i].Name) {
				t.Errorf("%q is ahead of %q", l[i-1].Name, l[i].Name)
			}
		}
	}
}

// R3: a list is new memory each time, its spare room too.
func TestP184ListIsNew(t *testing.T) {
	w := newWorld(t)
	d := w.dir()
	for many := range 20 {
		for range 2 {
			l, e := w.nodes[d].List()
			if e != api.OK || len(l) != many {
				t.Fatal(l, e)
			}
			l = l[:cap(l)]
			for i := range l {
				l[i] = api.Entry{Name: "mine", Kind: 77, Size: 99}
			}
			_ = append(l, api.Entry{Name: "more"})
			w.wantAll()
		}
		w.added(d, fmt.Sprint("n", many), w.white())
	}
	a, _ := w.nodes[d].List()
	b, _ := w.nodes[d].List()
	if &a[0] == &b[0] {
		t.Error("two lists share memory")
	}
}

// A list of an earlier time stays what it was.
func TestP184ListStays(t *testing.T) {
	w := newWorld(t)
	d, f := w.dir(), w.file("abc")
	w.added(d, "a", f)
	w.added(d, "e", w.dir())
	l, _ := w.nodes[d].List()
	w.paper[f].file.Do(api.Op{Do: api.DoCut, At: 9})
	w.added(d, "b", w.white())
	w.drop(d, "e")
	if fmt.Sprint(l) != "[{a 0 3} {e 1 0}]" {
		t.Errorf("it is %v now", l)
	}
	w.wantAll()
}

// Files are asked for their Sizes by rising names, each time.
func TestP184ListAsksInOrder(t *testing.T) {
	d := node.Dir()
	var asked, want []string
	for i := range 200 {
		name := fmt.Sprintf("%03d", i*37%200)
		want = append(want, fmt.Sprintf("%03d", i))
		d.Add(name, node.File(face.Make(&spy{first: func() { asked = append(asked, name) }}, nil, nil, nil, nil)))
	}
	for range 5 {
		asked = nil
		if d.List(); !slices.Equal(asked, want) {
			t.Fatalf("asked were %v", asked)
		}
	}
}

// A file whose Size itself changes the directory: told is what was there at the call, and the changes hold.
func TestP184ListOfChangingFiles(t *testing.T) {
	for range 20 {
		d := node.Dir()
		s := &spy{size: 5}
		d.Add("b", node.File(face.Make(s, nil, nil, nil, nil)))
		e := node.Dir()
		d.Add("a", node.White())
		d.Add("e", e)
		s.first = func() {
			d.Take("a")
			d.Take("e")
			for i := range 50 {
				d.Add(fmt.Sprint("c", i), node.White())
			}
		}
		l, x := d.List()
		if x != api.OK || fmt.Sprint(l) != "[{a 4 0} {b 0 5} {e 1 0}]" {
			t.Fatalf("List answers %v, %v", l, x)
		}
		s.first = nil
		if l, x := d.List(); x != api.OK || len(l) != 51 {
			t.Fatalf("List has %d entries behind it, %v", len(l), x)
		}
		if x := node.Dir().Add("e", e); x != api.OK {
			t.Fatal(x)
		}
	}
}
