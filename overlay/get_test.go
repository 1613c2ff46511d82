package overlay_test

import (
	"fmt"
	"math"
	"slices"
	"strings"
	"testing"

	"mantle/api"
	"mantle/face"
	"mantle/node"
)

// kinds are one thing of each kind.
func kinds() []thing { return []thing{file("abc"), dir(), link("d/x"), mount(), white()} }

// P24.2: what stands at a path, in one layer alone.
func TestP242OneLayer(t *testing.T) {
	all := sheet{"f": file("abc"), "e": file(""), "l": link("d/x"), "n": link("f"), "m": mount(), "w": white(), "d": dir(), "d/x": file("2"), "d/d": dir(), "d/d/l": link("/"), "d/m": mount(), "d/w": white(), "h": dir()}
	for _, x := range []*both{bothOf(t, all), bothOf(t, sheet{}, all), bothOf(t, sheet{}, sheet{}, all, sheet{}), bothOf(t, sheet{"d": dir()}, sheet{"d": dir(), "d/d": dir()}, all)} {
		x.wantSame(t)
		for p := range all {
			for _, name := range []string{"", "x", "a", "b", "w", "zz"} {
				x.wantTold(t, joined(p, name))
				x.wantTold(t, joined(joined(p, name), "a"))
			}
		}
		x.wantTold(t, "none")
		x.wantTold(t, "none/none")
	}
}

// The root is a directory, and has no Data.
func TestP242Root(t *testing.T) {
	for _, x := range []*both{bothOf(t, sheet{}), bothOf(t, sheet{}, sheet{}), bothOf(t, sheet{"a": white()}, sheet{"a": dir()})} {
		i, e := x.o.Get("")
		if e != api.OK || i.Path != "" || i.Kind != api.NodeDir || len(i.Data) != 0 {
			t.Errorf("Get of the root answers %v, %v", i, e)
		}
		l, e := x.o.List("")
		if e != api.OK || len(l) != 0 {
			t.Errorf("List of the root answers %v, %v", l, e)
		}
		x.wantSame(t)
	}
}

// P24.2: each kind in one layer over each kind, or nothing, in another one, with one more behind.
func TestP242KindOverKind(t *testing.T) {
	var all []sheet
	for i, x := range append(kinds(), thing{kind: -1}) {
		s := sheet{}
		if x.kind >= 0 {
			s["p"] = x
		}
		if x.kind == api.NodeDir {
			s["p/own"+fmt.Sprint(i)], s["p/same"], s["p/d"], s["p/d/in"] = file("in"), file("same"), dir(), link("q")
		}
		all = append(all, s)
	}
	for _, a := range all {
		for _, b := range all {
			for _, c := range all {
				x := bothOf(t, a, b, c)
				x.wantSame(t)
				for _, p := range []string{"p/a", "p/same/a", "p/d/in/a", "p/d/none", "q"} {
					x.wantTold(t, p)
				}
			}
		}
	}
}

// Words: a directory that some layers have, and others not: those that have none of that name do not end it, and whatever else does.
func TestMerged(t *testing.T) {
	has := func(own string) sheet { return sheet{"d": dir(), "d/e": dir(), "d/e/" + own: file(own)} }
	ends := []sheet{{"d": white()}, {"d": file("x")}, {"d": link("x")}, {"d": mount()}, {"d": dir(), "d/e": white()}, {"d": dir(), "d/e": file("x")}, {"d": dir(), "d/e": mount()}, {"d": dir(), "d/e": link("y")}}
	for _, end := range ends {
		for at := range 4 {
			l := []sheet{has("1"), has("2"), has("3")}
			l = slices.Insert(l, at, end)
			l = slices.Insert(l, 1, sheet{}, sheet{"d": dir()}, sheet{"z": dir()})
			x := bothOf(t, l[0], l[1:]...)
			x.wantSame(t)
			for _, own := range []string{"1", "2", "3"} {
				x.wantTold(t, "d/e/"+own)
			}
		}
	}
}

// What ends a directory ends it there alone: those beside and above go on.
func TestMergedBeside(t *testing.T) {
	x := bothOf(t, sheet{"d": dir(), "d/e": white(), "d/f": dir()}, sheet{"d": dir(), "d/e": dir(), "d/f": dir(), "d/f/x": file("1")}, sheet{"d": dir(), "d/e": dir(), "d/e/y": file("2"), "d/f": dir(), "d/f/z": file("3"), "e": file("4")})
	x.wantSame(t)
	x.wantText(t, "d d/f d/f/x d/f/z e")
}

// Links are not followed, and nothing is below a mount.
func TestP242NoWay(t *testing.T) {
	x := bothOf(t, sheet{"l": link("d"), "m": mount()}, sheet{"d": dir(), "d/x": file("1"), "l": dir(), "l/x": file("2"), "m": dir(), "m/b": dir()})
	for _, p := range []string{"l/x", "m/a", "m/b", "m/b/c"} {
		if _, e := x.o.Get(p); e != api.ErrNone {
			t.Errorf("Get(%s) answers %v", p, e)
		}
		x.wantTold(t, p)
	}
	for _, p := range []string{"l", "m", "d/x"} {
		if _, e := x.o.List(p); e != api.ErrDir {
			t.Errorf("List(%s) answers %v", p, e)
		}
	}
	x.wantSame(t)
}

// P24.2: a file's error is Get's; List asks for no bytes. One that is hidden is not asked.
func TestP242Errors(t *testing.T) {
	for _, e := range []api.Errno{api.ErrSum, api.ErrNone, api.ErrName, api.ErrLong, 77, -3} {
		for _, size := range []int{0, 1, 70000} {
			x := bothOf(t, sheet{"a": broken(size, e)}, sheet{"b": broken(size, e), "d": dir(), "d/c": broken(size, e)}, sheet{"b": file("x"), "a": dir()})
			x.wantSame(t)
			y := bothOf(t, sheet{"a": file("1"), "b": white()}, sheet{"a": broken(size, e), "b": broken(size, e)})
			y.wantSame(t)
			y.wantText(t, "a")
		}
	}
}

// sized is a file of any Size, that tells just the bytes it has.
type sized struct {
	spy
	size int64
}

func (f *sized) Size() int64 { return f.size }

func (f *sized) ReadAt(at int64, n int) ([]byte, api.Errno) {
	if f.fails != api.OK {
		return nil, f.fails
	}
	from := min(int(at), len(f.data))
	return []byte(f.data[from:min(from+n, len(f.data))]), api.OK
}

func sizedNode(size int64, data string, fails api.Errno) *node.Node {
	return node.File(face.Make(&sized{spy{data, fails}, size}, nil, nil, nil, nil))
}

// P24.2: of a file that has other bytes than its Size says, that are told which memory.All tells; List tells its Size.
func TestP242Sizes(t *testing.T) {
	for _, r := range []struct {
		size int64
		data string
		want string
		e    api.Errno
	}{
		{0, "abc", "", 0}, {2, "abc", "ab", 0}, {9, "abc", "abc", 0}, {api.MaxData, "abc", "abc", 0}, {api.MaxData + 1, "abc", "", api.ErrLong}, {math.MaxInt64, "", "", api.ErrLong}, {-5, "abc", "", 0}, {math.MinInt64, "abc", "", 0},
	} {
		x := bothOf(t, sheet{}, sheet{})
		x.lower[0].Add("f", sizedNode(r.size, r.data, api.OK))
		i, e := x.o.Get("f")
		if e != r.e || string(i.Data) != r.want || e != api.OK && i.Path != "" {
			t.Errorf("a file of Size %d and %q is %v, %v, want %q, %v", r.size, r.data, i, e, r.want, r.e)
		}
		if l, e := x.o.List(""); e != api.OK || fmt.Sprint(l) != fmt.Sprintf("[{f 0 %d}]", r.size) {
			t.Errorf("List answers %v, %v", l, e)
		}
	}
}

// P24.2: Get of the greatest file that may be held, and of one byte more.
func TestP242Greatest(t *testing.T) {
	x := bothOf(t, sheet{}, sheet{"a": file(strings.Repeat("abcd", 1<<20))})
	x.wantSame(t)
	y := bothOf(t, sheet{}, sheet{"a": broken(1<<22+1, api.ErrSum)})
	y.wantSame(t)
	if _, e := y.o.Get("a"); e != api.ErrLong {
		t.Errorf("Get of a longer one answers %v", e)
	}
}

// P24.2: List's order is that of bytes, and Kind and Size are those of what stands there.
func TestP242List(t *testing.T) {
	x := bothOf(t,
		sheet{"b": file("12345"), "a.b": link("1234567"), "d": dir(), "d/u": file(""), "d/gone": white(), "~": white(), "both": file("1")},
		sheet{"b": dir(), "B": file("1"), "a": mount(), "d": dir(), "d/gone": file(""), "d/l": link("x"), "d/u": dir(), "~": file("1"), "both": file("123")},
		sheet{"\xff": file("12"), "a\x01": dir(), "d": dir(), "d/w": white(), "d/x": file("1"), "d/y": dir(), "d/y/1": file(""), "d/y/2": white(), "a-": dir(), "aa": dir(), "é": file("")})
	x.wantSame(t)
	l, e := x.o.List("")
	if want := "[{B 0 1} {a 3 0} {a\x01 1 0} {a- 1 0} {a.b 2 7} {aa 1 0} {b 0 5} {both 0 1} {d 1 4} {é 0 0} {\xff 0 2}]"; e != api.OK || fmt.Sprint(l) != want {
		t.Errorf("List answers %q, %v", fmt.Sprint(l), e)
	}
	if l, _ := x.o.List("d"); fmt.Sprint(l) != "[{l 2 1} {u 0 0} {x 0 1} {y 1 1}]" {
		t.Errorf("List(d) answers %v", l)
	}
}

// A directory's Size counts each name once, whatever the layers have of it, and none that is hidden.
func TestP242SizeOfDirectory(t *testing.T) {
	for n := range 5 {
		var l []sheet
		for i := range 5 {
			s := sheet{"d": dir(), "d/same": dir(), "d/same/in": file("1")}.many(n, "d/f", file("x")).many(n, fmt.Sprint("d/own", i), dir())
			if i < n {
				s.many(i+1, "d/f", white())
			}
			l = append(l, s)
		}
		x := bothOf(t, l[0], l[1:]...)
		x.wantSame(t)
	}
}

// List of a directory with as many names as a directory has, out of several layers, and more.
func TestP242Many(t *testing.T) {
	x := bothOf(t, sheet{"d": dir()}, sheet{"d": dir()}.many(4096, "d/a", file("1")), sheet{"d": dir()}.many(4096, "d/b", link("1")), sheet{"d": dir()}.many(4096, "d/a", white()))
	x.wantTold(t, "d")
	if l, e := x.o.List(""); e != api.OK || fmt.Sprint(l) != "[{d 1 8192}]" {
		t.Errorf("List answers %v, %v", l, e)
	}
	x.paper.layers[0]["d/a7"] = white()
	d, _ := x.upper.Get("d")
	d.Add("a7", node.White())
	if l, e := x.o.List(""); e != api.OK || fmt.Sprint(l) != "[{d 1 8191}]" {
		t.Errorf("List answers %v, %v", l, e)
	}
}

// R3: what is handed out is new memory.
func TestNewMemory(t *testing.T) {
	x := bothOf(t, sheet{"f": file("abc"), "l": link("there")}, sheet{"g": file("def"), "d": dir(), "d/h": file("ghi")})
	spoil := func(b []byte) {
		b = b[:cap(b)]
		for i := range b {
			b[i] = '#'
		}
	}
	for range 2 {
		for _, p := range []string{"f", "l", "g", "d", "d/h", ""} {
			i, _ := x.o.Get(p)
			spoil(i.Data)
		}
		l, _ := x.o.Items()
		for i := range l {
			for j := range l[:i] {
				spoil(l[j].Data)
			}
			if want, _ := x.paper.get(l[i].Path); !sameItem(l[i], want) {
				t.Errorf("two lists of one answer share memory: %v", l[i])
			}
		}
		for i := range l {
			spoil(l[i].Data)
		}
		clear(l[:cap(l)])
		m, _ := x.o.List("")
		clear(m[:cap(m)])
		x.wantSame(t)
	}
}
