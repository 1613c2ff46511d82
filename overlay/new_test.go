package overlay_test

import (
	"slices"
	"strings"
	"testing"

	"mantle/api"
	"mantle/node"
	"mantle/overlay"
)

// wantNew holds what New answers.
func wantNew(t *testing.T, upper *node.Node, lower []*node.Node, want api.Errno) {
	t.Helper()
	was := slices.Clone(lower)
	o, e := overlay.New(upper, lower)
	if e != want || (o != nil) != (want == api.OK) {
		t.Errorf("New of %d and a list of %d answers %v, %v, want %v", upper.Kind(), len(lower), o != nil, e, want)
	}
	if !slices.Equal(lower, was) {
		t.Error("New changed the list")
	}
}

// others are one node of each kind that is no directory.
func others(t *testing.T) []*node.Node {
	t.Helper()
	return []*node.Node{file("abc").node(t), broken(3, api.ErrSum).node(t), link("a").node(t), mount().node(t), white().node(t)}
}

// P24.1: what New takes, and what it does not.
func TestP241New(t *testing.T) {
	d, e, f := node.Dir(), node.Dir(), node.Dir()
	f.Add("in", node.Dir())
	for _, l := range [][]*node.Node{nil, {}, {e}, {e, f}, {f, e, node.Dir()}, {d}, {e, e}, {d, d, e}} {
		wantNew(t, d, l, api.OK)
		wantNew(t, nil, l, api.ErrNil)
	}
	for i := range 3 {
		l := []*node.Node{e, f, node.Dir()}
		l[i] = nil
		wantNew(t, d, l, api.ErrNil)
		for _, n := range others(t) {
			l[i] = n
			wantNew(t, d, l, api.ErrDir)
		}
	}
	for _, n := range others(t) {
		wantNew(t, n, nil, api.ErrDir)
		wantNew(t, n, []*node.Node{e}, api.ErrDir)
	}
}

// A directory that stands in another one may be a layer, too.
func TestP241Inner(t *testing.T) {
	d := node.Dir()
	sheet{"a": dir(), "a/b": dir(), "c": dir()}.grow(t, d)
	a, _ := d.Get("a")
	b, _ := a.Get("b")
	c, _ := d.Get("c")
	wantNew(t, b, []*node.Node{c}, api.OK)
	wantNew(t, c, []*node.Node{b, a}, api.OK)
}

// dirs are so many new ones.
func dirs(n int) (l []*node.Node) {
	for range n {
		l = append(l, node.Dir())
	}
	return l
}

// P24.1: MaxStack lower ones, and more.
func TestP241Many(t *testing.T) {
	for n := range 33 {
		wantNew(t, node.Dir(), dirs(n), api.OK)
	}
	for _, n := range []int{33, 34, 64, 65, 1000} {
		wantNew(t, node.Dir(), dirs(n), api.ErrLong)
	}
}

// Of several errors the first one of the chapter is told, wherever in the list it lies.
func TestP241Order(t *testing.T) {
	for _, n := range others(t) {
		for _, at := range []int{0, 1, 31, 32, 33} {
			l := dirs(34)
			l[at] = n
			wantNew(t, node.Dir(), l, api.ErrDir)
			wantNew(t, n, l, api.ErrDir)
			wantNew(t, nil, l, api.ErrNil)
			l[33-at%34] = nil
			wantNew(t, node.Dir(), l, api.ErrNil)
			wantNew(t, n, l, api.ErrNil)
			wantNew(t, n, []*node.Node{n, nil}, api.ErrNil)
			wantNew(t, n, []*node.Node{nil, n}, api.ErrNil)
		}
		wantNew(t, n, dirs(33), api.ErrDir)
	}
	wantNew(t, nil, dirs(33), api.ErrNil)
}

// All 33 layers count, in their order.
func TestP241Order33(t *testing.T) {
	var lower []sheet
	for i := range 32 {
		lower = append(lower, sheet{"f" + strings.Repeat("i", i): file("own"), "g": file(strings.Repeat("x", i))})
	}
	x := bothOf(t, sheet{}, lower...)
	x.wantSame(t)
	if l, e := x.o.Items(); len(l) != 33 || e != api.OK {
		t.Errorf("%d items, %v", len(l), e)
	}
	x.wants(t, write("f"+strings.Repeat("i", 31), 0, "O"), drop("g"))
}

// P24.1: the list that was handed in is not kept, nor is the room behind its end touched.
func TestP241NotKept(t *testing.T) {
	x := bothOf(t, sheet{"u": file("u")}, sheet{"a": file("1")}, sheet{"b": file("2")})
	behind := node.Dir()
	l := append(make([]*node.Node, 0, 9), x.lower...)
	l[:3][2] = behind
	x.o = overlaid(t, x.upper, l...)
	o, e := overlay.New(x.upper, l)
	if e != api.OK {
		t.Fatal(e)
	}
	x.o = o
	other := node.Dir()
	sheet{"other": file("3")}.grow(t, other)
	for i := range l {
		l[i] = other
	}
	x.wantSame(t)
	l[0], l[1] = nil, node.White()
	x.wantSame(t)
	x.wants(t, put("c", file("4")), drop("a"))
	if l[:3][2] != behind {
		t.Error("New wrote behind the end of the list")
	}
}

// P24.1: it keeps nothing but the trees: what is done to them is seen at once.
func TestP241KeepsNothing(t *testing.T) {
	x := bothOf(t, sheet{}, sheet{"a": file("1"), "d": dir()}, sheet{"d": dir(), "d/x": file("2")})
	x.wantSame(t)
	d, _ := x.lower[0].Get("d")
	d.Add("y", file("new").node(t))
	x.paper.layers[1]["d/y"] = file("new")
	x.wantSame(t)
	d.Add("x", node.White())
	x.paper.layers[1]["d/x"] = white()
	x.wantSame(t)
	x.upper.Add("a", node.Dir())
	x.paper.layers[0]["a"] = dir()
	x.wantSame(t)
	x.lower[0].Take("d")
	x.lower[0].Add("d", link("a").node(t))
	delete(x.paper.layers[1], "d/x")
	delete(x.paper.layers[1], "d/y")
	x.paper.layers[1]["d"] = link("a")
	x.wantSame(t)
}

// R1: each call of no overlay.
func TestNil(t *testing.T) {
	var o *overlay.Overlay
	for _, p := range []string{"", "a", "a/b", "/", "..", strings.Repeat("a", 5000)} {
		i, e := o.Get(p)
		l, f := o.List(p)
		if e != api.ErrNil || f != api.ErrNil || !sameItem(i, api.Item{}) || len(l) != 0 {
			t.Errorf("Get and List of %q answer %v %v, %v %v", p, i, e, l, f)
		}
		for kind := range int8(6) {
			for _, e := range []api.Errno{o.Put(api.Item{Path: p, Kind: kind - 1}), o.Write(p, -1, nil), o.Drop(p)} {
				if e != api.ErrNil {
					t.Errorf("a change at %q answers %v", p, e)
				}
			}
		}
	}
	if l, e := o.Items(); len(l) != 0 || e != api.ErrNil {
		t.Errorf("Items answers %v, %v", l, e)
	}
}

// noPaths are none, where d/f is a file.
func noPaths() []string {
	long := strings.Repeat(strings.Repeat("n", 63)+"/", 64)
	l := []string{
		"/", "//", ".", "..", "\x00", "/d", "d/", "d//f", "//d", "d/f/", "/d/f", "./d", "d/.", "d/./f", "../d", "d/..", "d/../d", "d/f/..", "d\x00", "d/\x00/f", "d/f\x00",
		strings.Repeat("n", 65), "d/" + strings.Repeat("n", 65), strings.Repeat("n", 65) + "/f", strings.Repeat("n", 4096), strings.Repeat("n", 4097),
		long, long + "nn", long[:4095] + "nnn", strings.Repeat("a/", 2048) + "a", strings.Repeat("a/", 9000) + "a",
	}
	return l
}

// P24.2 to P24.4: what is no path is told so by each call.
func TestNoPath(t *testing.T) {
	x := bothOf(t, sheet{"d": dir(), "d/f": file("1")}, sheet{"d": dir(), "d/g": file("2"), "n": dir()})
	for _, p := range noPaths() {
		if isPath(p) {
			t.Errorf("%.90q is a path on paper", p)
		}
		x.wantTold(t, p)
		for _, a := range []act{put(p, file("x")), put(p, dir()), put(p, link("x")), put(p, link("")), write(p, 0, "x"), write(p, -1, "x"), drop(p)} {
			if e := x.do(t, a); e != api.ErrName {
				t.Errorf("%s answers %v on paper", a.text(), e)
			}
		}
	}
	x.wantSame(t)
}

// goodPaths are paths, though one might think otherwise.
func goodPaths() []string {
	long := strings.Repeat("n", 63) + "/"
	return []string{
		"...", "..a", ".a", "a.", " ", "\\", "\xff", "a\n", "d/...", "d/\xff\xfe", strings.Repeat("n", 64), "d/" + strings.Repeat("é", 32),
		strings.Repeat(long, 63) + strings.Repeat("n", 64), strings.Repeat(long, 63) + "n", strings.Repeat("a/", 2047) + "aa", strings.Repeat("a/", 2047) + "a",
	}
}

// What is a path and leads nowhere: ErrNone.
func TestPath(t *testing.T) {
	x := bothOf(t, sheet{}, sheet{"d": dir()})
	for _, p := range goodPaths() {
		if !isPath(p) {
			t.Errorf("%.90q is no path on paper", p)
		}
		x.wantTold(t, p)
		for _, a := range []act{write(p, 0, "x"), drop(p)} {
			if e := x.do(t, a); e != api.ErrNone {
				t.Errorf("%s answers %v on paper", a.text(), e)
			}
		}
		if e := x.do(t, put(p, file("x"))); depthOf(p) > 2 && e != api.ErrNone || depthOf(p) <= 2 && e != api.OK {
			t.Errorf("Put of %.90q answers %v on paper", p, e)
		}
		x.wantTold(t, p)
	}
	x.wantSame(t)
}

// The longest path that there is leads to something.
func TestLongestPath(t *testing.T) {
	s, p := sheet{}, strings.Repeat("n", 63)
	for range 63 {
		s[p] = dir()
		p += "/" + strings.Repeat("n", 63)
	}
	p += "n"
	x := bothOf(t, sheet{}, s)
	if len(p) != 4096 {
		t.Fatal(len(p))
	}
	x.wants(t, put(p, file("abc")), write(p, 3, "d"))
	if i, e := x.o.Get(p); string(i.Data) != "abcd" || e != api.OK {
		t.Errorf("%q, %v", i.Data, e)
	}
	x.want(t, put(p+"n", file("abc")), api.ErrName)
	x.wants(t, drop(p), put(p, dir()))
	x.want(t, put(p, dir()), api.ErrThere)
}
