package tree_test

import (
	"fmt"
	"slices"
	"strings"
	"sync"
	"testing"

	"mantle/api"
	"mantle/face"
	"mantle/memory"
	"mantle/node"
	"mantle/tree"
)

// wantItems holds what Items and Count answer against the paper.
func (s *sheet) wantItems(t *testing.T) api.Errno {
	t.Helper()
	want, wantE := s.paperItems()
	l, e := tree.Items(s.node)
	if e != wantE || e != api.OK && l != nil {
		t.Errorf("Items answers %d items, %v, want %v", len(l), e, wantE)
	}
	wantList(t, "Items", l, want)
	bytes := int64(0)
	for _, x := range want {
		if x.Kind == api.NodeFile {
			bytes += int64(len(x.Data))
		}
	}
	if n, b, e := tree.Count(s.node); n != len(want) || b != bytes || e != wantE {
		t.Errorf("Count answers %d, %d, %v, want %d, %d, %v", n, b, e, len(want), bytes, wantE)
	}
	return wantE
}

// wantTold is a tree of which the test tells the answer: that is held against the paper's, too.
func (s *sheet) wantTold(t *testing.T, want api.Errno) {
	t.Helper()
	if e := s.wantItems(t); e != want {
		t.Errorf("on paper Items answers %v, want %v", e, want)
	}
}

// P19.2: nil, and what is no directory.
func TestP192NoDirectory(t *testing.T) {
	if l, e := tree.Items(nil); l != nil || e != api.ErrNil {
		t.Errorf("Items of nil answers %v, %v", l, e)
	}
	for _, m := range leaves(t) {
		m.wantTold(t, api.ErrDir)
	}
	brokenSheet(5, api.ErrSum).wantTold(t, api.ErrDir)
}

// P19.2: an empty directory, of whatever making.
func TestP192Empty(t *testing.T) {
	d := dirSheet()
	d.wantTold(t, api.OK)
	d.hold(t, "a", whiteSheet())
	d.node.Drop("a")
	d.drop("a")
	d.wantTold(t, api.OK)
	if l, e := tree.Items(made(t)); len(l) != 0 || e != api.OK {
		t.Errorf("Items of none answers %v, %v", l, e)
	}
}

// P19.2: each kind, at several depths; what is under a mount stands not below it.
func TestP192Kinds(t *testing.T) {
	top := dirSheet()
	for i, d := range top.chain(t, 4, "d") {
		for j, m := range leaves(t) {
			d.hold(t, fmt.Sprint(i, j), m)
		}
		d.hold(t, "e", dirSheet())
		d.hold(t, "up", mountSheet(t, top))
		d.hold(t, "none", fileSheet(t, ""))
	}
	top.wantTold(t, api.OK)
	top.at("d").wantTold(t, api.OK)
	l := items(t, top.node)
	if len(l) != 5*7+4 || l[0].Path != "0 0" || string(l[0].Data) != "abc" {
		t.Errorf("%d items: %s", len(l), text(l))
	}
	for _, x := range l {
		if want := map[int8]int{api.NodeFile: 3, api.NodeLink: 10}[x.Kind]; len(x.Data) != want && !strings.HasSuffix(x.Path, "none") {
			t.Errorf("%q of kind %d has %d bytes", x.Path, x.Kind, len(x.Data))
		}
	}
}

// P19.2: paths rise byte by byte: what comes ahead of a stroke stands between a directory and what is in it.
func TestP192Order(t *testing.T) {
	n := made(t, file("a.b", ""), dir("a"), file("a/c", ""))
	wantList(t, "Items", items(t, n), []api.Item{dir("a"), file("a.b", ""), file("a/c", "")})
	top := dirSheet()
	for _, name := range []string{"b", "a", "a0", "a.", "a.b", "a-", "a ", "a\x01", "a\xff", "aa", "A", "é", "a!", "ab", "\x01", "\xff", "0", "..."} {
		d := top.hold(t, name, dirSheet())
		for _, m := range []string{"c", "\x01", "\xff", "-", ".c", "a"} {
			d.hold(t, m, dirSheet()).hold(t, "x", whiteSheet())
		}
	}
	top.wantTold(t, api.OK)
	l := items(t, top.node)
	for i := range l[1:] {
		if !ahead(l[i].Path, l[i+1].Path) {
			t.Errorf("%q stands ahead of %q", l[i].Path, l[i+1].Path)
		}
	}
}

// P19.2: bytes are those of now; one file under many names is told at each of them.
func TestP192Now(t *testing.T) {
	top := dirSheet()
	f := fileSheet(t, "abc")
	for _, name := range []string{"x", "a", "m"} {
		top.hold(t, name, f)
	}
	top.hold(t, "d", dirSheet()).hold(t, "f", f)
	top.wantTold(t, api.OK)
	h, _ := f.node.Open()
	h.Do(api.Op{Do: api.DoWrite, At: 5, B: []byte("xyz")})
	f.data = []byte("abc\x00\x00xyz")
	top.wantTold(t, api.OK)
	h.Do(api.Op{Do: api.DoCut, At: 1})
	f.data = []byte("a")
	top.wantTold(t, api.OK)
	h.Do(api.Op{Do: api.DoCut, At: 0})
	f.data = nil
	top.wantTold(t, api.OK)
	if e := top.node.Drop("m"); e != api.OK {
		t.Fatal(e)
	}
	top.drop("m")
	top.wantTold(t, api.OK)
}

// P19.2: files of more than one read.
func TestP192LongFiles(t *testing.T) {
	top := dirSheet()
	for _, n := range []int{65535, 65536, 65537, 200000} {
		b := make([]byte, n)
		for i := range b {
			b[i] = byte(i*7 + i>>8)
		}
		top.hold(t, fmt.Sprint(n), fileSheet(t, string(b)))
	}
	top.wantTold(t, api.OK)
}

// R3: what is written into an answer, with the room behind its ends, is seen by none: not by its other lists, nor later.
func TestP192NewMemory(t *testing.T) {
	top := dirSheet()
	for i, m := range append(leaves(t), leaves(t)...) {
		top.hold(t, fmt.Sprint(i), m)
	}
	f := fileSheet(t, "same")
	top.hold(t, "x", f)
	top.hold(t, "y", f)
	top.hold(t, "z", linkSheet(t, strings.Repeat("z", 40)))
	want, _ := top.paperItems()
	l := items(t, top.node)
	for i := range l {
		wantList(t, "those that are left", l[i:], want[i:])
		b := l[i].Data[:cap(l[i].Data)]
		for j := range b {
			b[j] = '!'
		}
	}
	l = l[:cap(l)]
	clear(l)
	top.wantTold(t, api.OK)
}

// P19.2: 4096 nodes, and more, in one directory, in many and deep down.
func TestP192Nodes(t *testing.T) {
	flat := dirSheet()
	flat.fill(t, 4096)
	flat.wantTold(t, api.OK)
	above := dirSheet()
	above.hold(t, "d", flat)
	above.wantTold(t, api.ErrFull)
	flat.wantTold(t, api.OK)
	for _, n := range []int{4095, 4096, 4097, 9000} {
		top := dirSheet()
		d := top.hold(t, "0", dirSheet())
		for i := 1; i < n; i++ {
			if i%100 == 0 {
				d = top.hold(t, fmt.Sprint(i/100), dirSheet())
			} else {
				d.hold(t, fmt.Sprint(i%100), whiteSheet())
			}
		}
		top.wantTold(t, map[bool]api.Errno{false: api.OK, true: api.ErrFull}[n > 4096])
	}
}

// P19.2: a path of 4096 bytes, and one more, of each kind of node.
func TestP192PathBytes(t *testing.T) {
	for _, m := range append(leaves(t), dirSheet(), brokenSheet(0, api.ErrSum)) {
		for _, name := range []string{"a", "ab", strings.Repeat("n", 64)} {
			top := dirSheet()
			last := top.chain(t, 63, strings.Repeat("n", 64))[63]
			last.hold(t, name, m)
			top.wantTold(t, map[bool]api.Errno{false: api.OK, true: api.ErrLong}[len(name) > 1])
			top.holds[0].wantTold(t, api.OK)
			last.node.Drop(name)
		}
	}
}

// P19.2: the bytes of files that are together MaxData, and one more; those of links count for nothing.
func TestP192Bytes(t *testing.T) {
	for _, more := range []int{0, 1, 2} {
		for _, second := range []int{0, 1, 65536, 4000000} {
			top := dirSheet()
			top.hold(t, "b", fileSheet(t, strings.Repeat("x", 4194304-second)))
			top.hold(t, "l", linkSheet(t, strings.Repeat("x", 4096)))
			top.hold(t, "d", dirSheet()).hold(t, "c", fileSheet(t, strings.Repeat("y", second)))
			top.hold(t, "a", fileSheet(t, strings.Repeat("z", more)))
			top.wantTold(t, map[bool]api.Errno{false: api.OK, true: api.ErrLong}[more > 0])
		}
	}
	twice := dirSheet()
	f := fileSheet(t, strings.Repeat("x", 2097152))
	twice.hold(t, "a", f)
	twice.hold(t, "b", f)
	twice.wantTold(t, api.OK)
	twice.hold(t, "c", fileSheet(t, ""))
	twice.wantTold(t, api.OK)
	twice.hold(t, "d", fileSheet(t, "x"))
	twice.wantTold(t, api.ErrLong)
}

// A file whose Size is above MaxData is refused by memory.All, however few bytes it holds.
func TestP192LongFile(t *testing.T) {
	h, _ := memory.New([]byte("abc"), 15)
	top := node.Dir()
	top.Add("f", node.File(h))
	for size, want := range map[int64]api.Errno{4194304: api.OK, 4194305: api.ErrLong, api.MaxSize: api.ErrLong} {
		h.Do(api.Op{Do: api.DoCut, At: size})
		l, e := tree.Items(top)
		if e != want || len(l) > 0 != (e == api.OK) {
			t.Errorf("cut to %d: %d items, %v", size, len(l), e)
		}
		if n, b, e := tree.Count(top); e != want || e == api.OK && (n != 1 || b != size) || e != api.OK && (n != 0 || b != 0) {
			t.Errorf("cut to %d: Count answers %d, %d, %v", size, n, b, e)
		}
	}
}

// P19.2: the error of a file's read, whichever it is, at each place.
func TestP192Broken(t *testing.T) {
	for _, e := range []api.Errno{api.ErrSum, api.ErrGone, api.ErrFull, api.ErrLoop, -7} {
		for place := range 7 {
			top := dirSheet()
			for i := range 7 {
				m := leaves(t)[i%4]
				if i == place {
					m = brokenSheet(3, e)
				}
				top.hold(t, fmt.Sprint(i), dirSheet()).hold(t, "x", m)
			}
			top.wantTold(t, e)
			top.holds[place].wantTold(t, e)
			top.holds[(place+1)%7].wantTold(t, api.OK)
		}
	}
	top := dirSheet()
	top.hold(t, "empty", brokenSheet(0, api.ErrSum)) // nothing is read of it
	under := dirSheet()
	under.hold(t, "x", brokenSheet(3, api.ErrSum))
	top.hold(t, "mount", mountSheet(t, under))
	top.wantTold(t, api.OK)
}

// P19.2: the first that is met as the tree is gone through, which is not the first by its path: a/c is met ahead of a.b.
func TestP192FirstMet(t *testing.T) {
	top := dirSheet()
	a := top.hold(t, "a", dirSheet())
	top.hold(t, "a.b", brokenSheet(1, api.ErrGone))
	a.hold(t, "c", brokenSheet(1, api.ErrSum))
	top.wantTold(t, api.ErrSum)
	a.hold(t, "b", dirSheet()).hold(t, "z", brokenSheet(1, api.ErrLock))
	top.wantTold(t, api.ErrLock)
	top.hold(t, "Z", fileSheet(t, strings.Repeat("x", 4194305-1)))
	top.wantTold(t, api.ErrLong) // the broken file has a byte too many besides
	top.hold(t, "A", brokenSheet(1, api.ErrQuota))
	top.wantTold(t, api.ErrQuota)
}

// P19.2: what is met first, of errors of all sorts that stand in two places.
func TestP192TwoErrors(t *testing.T) {
	long := func(d *sheet) { d.hold(t, "long", fileSheet(t, strings.Repeat("x", 4194304))) }
	sum := func(d *sheet) { d.hold(t, "sum", brokenSheet(1, api.ErrSum)) }
	gone := func(d *sheet) { d.hold(t, "gone", brokenSheet(1, api.ErrGone)) }
	far := func(d *sheet) {
		d.chain(t, 62, strings.Repeat("n", 64))[62].hold(t, strings.Repeat("n", 64), brokenSheet(1, api.ErrLock))
	}
	full := func(d *sheet) { d.fill(t, 4090) }
	l := []func(*sheet){long, sum, gone, far, full}
	for i := range l {
		for j := range l {
			top := dirSheet()
			l[i](top.hold(t, "aa", dirSheet()))
			l[j](top.hold(t, "bb", dirSheet()))
			top.hold(t, "c", fileSheet(t, "x"))
			for k := range 5 {
				top.hold(t, fmt.Sprint("d", k), whiteSheet())
			}
			if e := top.wantItems(t); e == api.OK {
				t.Errorf("%d and %d are no error", i, j)
			}
		}
	}
}

// P19.2, R5: several errors at one node: how many, the path, the bytes, the read.
func TestP192OrderAtANode(t *testing.T) {
	for set := range 8 {
		full, far, heavy := set&1 != 0, set&2 != 0, set&4 != 0
		top := dirSheet()
		if heavy {
			top.hold(t, "0", fileSheet(t, strings.Repeat("x", 4194304)))
		} else {
			top.hold(t, "0", fileSheet(t, strings.Repeat("x", 4194303)))
		}
		last := top.hold(t, "zz", dirSheet()).chain(t, 62, strings.Repeat("n", 64))[62]
		if full { // the last one is the 4097th: 65 others are no whites
			top.hold(t, "1", dirSheet()).fill(t, 4096-65)
		}
		name := "a"
		if far {
			name = strings.Repeat("n", 64)
		}
		last.hold(t, name, brokenSheet(1, api.ErrSum))
		want := api.ErrSum
		if heavy || far {
			want = api.ErrLong
		}
		if full {
			want = api.ErrFull
		}
		top.wantTold(t, want)
	}
}

// meddler is a file that does something at each call of its own.
type meddler struct {
	do func()
}

func (f *meddler) Size() int64 {
	f.do()
	return 3
}

func (f *meddler) ReadAt(_ int64, n int) ([]byte, api.Errno) {
	f.do()
	return []byte("abc")[:n], api.OK
}

// R1: a file that changes the tree while it is gone through makes no call fall or go on for ever.
func TestP192Meddled(t *testing.T) {
	for _, name := range []string{"a", "b", "c", "d"} {
		top := made(t, file("a", "1"), dir("c"), file("c/x", "2"), file("d", "3"))
		kept := node.Dir()
		calls := 0
		h := face.Make(&meddler{func() {
			if m, e := top.Take(name); e == api.OK {
				kept.Add(name, m)
			}
			calls++
			if c, e := top.Get("c"); e == api.OK {
				c.Add(fmt.Sprint(calls), node.Dir())
			}
		}}, nil, nil, nil, nil)
		top.Add("b", node.File(h))
		tree.Items(top)
		tree.Count(top)
		tree.Same(top, top)
		tree.Move(top, "c", kept, "new")
		if _, e := tree.Items(kept); e != api.OK {
			t.Errorf("Items answers %v", e)
		}
	}
}

// What a file has taken away ahead of being met is not told; all that is left is.
func TestP192TakenMeanwhile(t *testing.T) {
	for _, gone := range []string{"a", "c", "d", "e"} {
		top := made(t, file("a", "1"), dir("c"), file("c/x", "2"), file("d", "3"), dir("e"))
		h := face.Make(&meddler{func() { top.Take(gone) }}, nil, nil, nil, nil)
		top.Add("b", node.File(h))
		var want []api.Item
		for _, x := range []api.Item{file("a", "1"), file("b", "abc"), dir("c"), file("c/x", "2"), file("d", "3"), dir("e")} {
			if x.Path[:1] != gone {
				want = append(want, x)
			}
		}
		wantList(t, "Items", items(t, top), want)
	}
}

// A file that tells fewer bytes than its Size has those: they count, and are told.
func TestP192Fewer(t *testing.T) {
	top := dirSheet()
	top.hold(t, "a", fileSheet(t, strings.Repeat("x", 4194301)))
	h := face.Make(&lessThanSize{}, nil, nil, nil, nil)
	top.hold(t, "b", &sheet{node: node.File(h), data: []byte("abc")})
	top.wantTold(t, api.OK)
	top.hold(t, "c", fileSheet(t, "x"))
	top.wantTold(t, api.ErrLong)
}

// lessThanSize has three bytes, and tells that it has many.
type lessThanSize struct{}

func (lessThanSize) Size() int64 { return 4000 }

func (lessThanSize) ReadAt(at int64, n int) ([]byte, api.Errno) {
	return []byte("abc")[min(at, 3):], api.OK
}

// R2: trees that several goroutines ask at a time answer as for one.
func TestP192ManyAskAtATime(t *testing.T) {
	top := dirSheet()
	for _, d := range top.chain(t, 5, "d") {
		for i, m := range leaves(t) {
			d.hold(t, fmt.Sprint(i), m)
		}
	}
	want, _ := top.paperItems()
	var all sync.WaitGroup
	for range 8 {
		all.Go(func() {
			for range 50 {
				l, e := tree.Items(top.node)
				if e != api.OK || !same(l, want) || !tree.Same(top.node, top.node) {
					t.Errorf("Items answers %v, %s", e, text(l))
				}
			}
		})
	}
	all.Wait()
}

// R2: the same list makes the same tree each time, though directories keep their nodes in maps.
func TestP192Again(t *testing.T) {
	l := many(300)
	want := inOrder(l)
	for range 30 {
		n := made(t, l...)
		wantList(t, "Items", items(t, n), want)
		wantList(t, "Items again", items(t, n), want)
	}
	if !slices.IsSortedFunc(want, func(a, b api.Item) int { return strings.Compare(a.Path, b.Path) }) {
		t.Error("the paper is not in order")
	}
}
