package snap_test

import (
	"fmt"
	"slices"
	"strings"
	"testing"

	"mantle/api"
)

// deep is a row of directories, one in the other, and the path of the last one.
func deep(n int) (l list, path string) {
	for range n {
		path = strings.TrimPrefix(path+"/c", "/")
		l = append(l, dir(path))
	}
	return l, path
}

// far is a row of directories with names so long that the last path has MaxPath bytes: 63 of 64 bytes and a stroke, and one of 1.
func far() (l list, path string) {
	for i := range 63 {
		if i > 0 {
			path += "/"
		}
		path += strings.Repeat("p", 64)
		l = append(l, dir(path))
	}
	return l, path
}

// many are so many files, in order.
func many(n int) (l list) {
	for i := range n {
		l = append(l, file(fmt.Sprintf("f%04d", i), "x"))
	}
	return l
}

// noTree is a list that is no tree of items, and the error of it.
type noTree struct {
	l list
	e api.Errno
}

// noTrees has each of Make's errors, and lists that are not in order.
func noTrees() []noTree {
	tall, c := deep(64)
	long, p := far()
	heavy := strings.Repeat("h", api.MaxData)
	return []noTree{
		{append(slices.Clone(tall), file(c+"/c", "")), api.ErrLong},
		{append(slices.Clone(long), file(p+"/pp", "")), api.ErrLong},
		{list{file(strings.Repeat("p", 4097), "")}, api.ErrLong},
		{list{{Path: "m", Kind: api.NodeMount}}, api.ErrArg},
		{list{{Path: "w", Kind: api.NodeWhite}}, api.ErrArg},
		{list{{Path: "w", Kind: -1}}, api.ErrArg},
		{list{{Path: "w", Kind: 127}}, api.ErrArg},
		{list{{Path: "d", Kind: api.NodeDir, Data: []byte("x")}}, api.ErrArg},
		{list{file("a", heavy+"x")}, api.ErrLong},
		{list{file("a", heavy), file("b", ""), file("c", "x")}, api.ErrLong},
		{list{file("", "")}, api.ErrName},
		{list{file("a", ""), file("a//b", "")}, api.ErrName},
		{list{file("/a", "")}, api.ErrName},
		{list{dir("a/")}, api.ErrName},
		{list{file(".", "")}, api.ErrName},
		{list{dir("a"), file("a/..", "")}, api.ErrName},
		{list{file("a\x00", "")}, api.ErrName},
		{list{file(strings.Repeat("p", 65), "")}, api.ErrName},
		{list{file("d/a", "")}, api.ErrNone},
		{list{dir("d"), file("d/e/f", "")}, api.ErrNone},
		{list{file("f", ""), file("f/a", "")}, api.ErrDir},
		{list{link("l", "x"), file("l/a", "")}, api.ErrDir},
		{list{dir("a"), dir("a")}, api.ErrThere},
		{list{file("a", "x"), file("a", "x"), file("b", "")}, api.ErrThere},
		{many(4097), api.ErrFull},
		{list{link("l", "")}, api.ErrName},
		{list{link("l", strings.Repeat("l", 4097))}, api.ErrLong},
		{list{file("b", ""), file("a", "")}, api.ErrArg},
		{list{dir("a"), dir("c"), file("c/x", ""), file("a/x", "")}, api.ErrArg},
		{list{dir("a"), file("a/c", ""), file("a.b", "")}, api.ErrArg},
		{list{file("b", ""), file("a", ""), file("c", ""), file("d", "")}, api.ErrArg},
		{list{file("a", ""), file("b", ""), file("d", ""), file("c", "")}, api.ErrArg},
		{list{file("a", ""), file("A", "")}, api.ErrArg},
		{list{file("ab", ""), file("a", "")}, api.ErrArg},
		{list{file("b", ""), file("a", ""), link("c", "")}, api.ErrName},
		{list{file("b", ""), file("a/x", "")}, api.ErrNone},
		{list{file("d/a", ""), dir("d")}, api.ErrNone},
		{list{file("b", ""), file("a", ""), file("b", "")}, api.ErrThere},
	}
}

// trees are some that are as large as can be, and some that are not.
func trees() []list {
	tall, c := deep(63)
	long, p := far()
	return []list{
		nil,
		{},
		{file("a", "")},
		{dir("d"), file("d/a", "x")},
		{file("a", strings.Repeat("h", api.MaxData)), file("b", "")},
		{file("a", strings.Repeat("h", api.MaxData-1)), file("b", "x"), link("l", strings.Repeat("l", 4096))},
		append(tall, link(c+"/c", "x")),
		append(long, file(p+"/"+"p", "x")),
		many(4096),
		{dir("a"), dir("a!"), file("a!/c", ""), link("a.b", "a"), file("a/c", "x"), file("a0", "")},
		{file("\x01", ""), file("A", ""), file("\xff", "")},
	}
}

// P25.1: no items, and like lists.
func TestP251Like(t *testing.T) {
	for _, a := range trees() {
		wantDiff(t, a, a)
		wantDiff(t, a, slices.Clone(a))
	}
	wantDiff(t, nil, list{})
	wantDiff(t, list{{Path: "a"}}, list{{Path: "a", Data: []byte{}}})
}

// P25.1: one side has all.
func TestP251OneSide(t *testing.T) {
	for _, a := range trees() {
		var come, went []api.Change
		for _, x := range a {
			come, went = append(come, made(x)), append(went, gone(x))
		}
		wantDiff(t, nil, a, come...)
		wantDiff(t, a, nil, went...)
	}
}

// P25.1: no path in common, one list ahead of the other, behind it, and in turns.
func TestP251NoneInCommon(t *testing.T) {
	a, b, c, d := file("a", "1"), dir("b"), link("c", "x"), file("d", "")
	wantDiff(t, list{a, b}, list{c, d}, gone(a), gone(b), made(c), made(d))
	wantDiff(t, list{c, d}, list{a, b}, made(a), made(b), gone(c), gone(d))
	wantDiff(t, list{a, c}, list{b, d}, gone(a), made(b), gone(c), made(d))
	wantDiff(t, list{b, d}, list{a, c}, made(a), gone(b), made(c), gone(d))
	wantDiff(t, list{a, d}, list{b, c}, gone(a), made(b), made(c), gone(d))
	wantDiff(t, list{b, c}, list{a, d}, made(a), gone(b), gone(c), made(d))
}

// P25.1: each kind against each other one, of the same bytes; and bytes against others.
func TestP251Unlike(t *testing.T) {
	l := list{file("m", ""), file("m", "x"), file("m", "xx"), file("m", "X"), dir("m"), link("m", "x"), link("m", "xx"), link("m", "y")}
	for i, x := range l {
		for j, y := range l {
			var want []api.Change
			if i != j {
				want = append(want, wrote(x, y))
			}
			wantDiff(t, list{x}, list{y}, want...)
			wantDiff(t, list{file("a", "1"), x, file("z", "1")}, list{file("a", "1"), y, file("z", "1")}, want...)
			first, last := file("a", "1"), file("z", "2")
			wantDiff(t, list{first, x}, list{y, last}, append(append([]api.Change{gone(first)}, want...), made(last))...)
		}
	}
}

// P25.1: bytes that differ at one place alone.
func TestP251OneByte(t *testing.T) {
	for i := range 100 {
		b := []byte(strings.Repeat("x", 100))
		b[i] = 'y'
		x, y := file("a", strings.Repeat("x", 100)), file("a", string(b))
		wantDiff(t, list{x}, list{y}, wrote(x, y))
	}
}

// P25.1: a file that becomes a directory with things in it, and back; links, too.
func TestP251FileAndDirectory(t *testing.T) {
	for _, x := range (list{file("m", ""), file("m", "x"), link("m", "x")}) {
		d, a, b := dir("m"), file("m/a", "x"), dir("m/b")
		wantDiff(t, list{x}, list{d, a, b}, wrote(x, d), made(a), made(b))
		wantDiff(t, list{d, a, b}, list{x}, wrote(d, x), gone(a), gone(b))
	}
}

// P25.1: paths with a sign below the stroke stand between a directory and what is in it.
func TestP251Signs(t *testing.T) {
	d, x, y, z, in := dir("a"), file("a!", "1"), dir("a.b"), file("a0", "1"), file("a/c", "1")
	wantDiff(t, list{d, x, y, in, z}, list{d}, gone(x), gone(y), gone(in), gone(z))
	wantDiff(t, list{d}, list{d, x, y, in, z}, made(x), made(y), made(in), made(z))
	wantDiff(t, list{d, in}, list{d, x, y, z}, made(x), made(y), gone(in), made(z))
	wantDiff(t, list{d, x, y, z}, list{d, in}, gone(x), gone(y), made(in), gone(z))
}

// P25.1: links that lead elsewhere; whether something stands there is not asked.
func TestP251Links(t *testing.T) {
	a, b := link("l", "a"), link("l", "b")
	wantDiff(t, list{a}, list{b}, wrote(a, b))
	wantDiff(t, list{file("a", ""), a}, list{a}, gone(file("a", "")))
}

// P25.1: what is no tree of items, on either side, and on both: the first one's error is told.
func TestP251NoTree(t *testing.T) {
	good := list{dir("d"), file("d/a", "x")}
	l := noTrees()
	for _, x := range l {
		wantRefused(t, x.l, good, x.e)
		wantRefused(t, x.l, nil, x.e)
		wantRefused(t, good, x.l, x.e)
		wantRefused(t, nil, x.l, x.e)
		wantRefused(t, x.l, x.l, x.e)
	}
	for _, x := range l {
		for _, y := range l {
			if len(x.l)+len(y.l) < 10 {
				wantRefused(t, x.l, y.l, x.e)
			}
		}
	}
}

// P25.1: any two trees, of which one comes of the other, or none does.
func TestP251Any(t *testing.T) {
	told := map[int8]int{}
	for seed := range chance(1500) {
		c := seed
		a := c.list(14)
		for _, b := range []list{c.list(14), c.on(a, 8)} {
			l, _ := diff(t, a, b)
			for _, x := range l {
				told[x.Kind]++
			}
		}
		if t.Failed() {
			t.Fatalf("seed %d", seed)
		}
	}
	for k := range int8(3) {
		if told[k] < 1000 {
			t.Errorf("%d changes of kind %d", told[k], k)
		}
	}
}

// P25.1: any lists, trees of items or not.
func TestP251AnyLists(t *testing.T) {
	told := map[api.Errno]int{}
	for seed := range chance(3000) {
		c := seed
		a := c.list(8)
		b := c.spoilt(c.on(a, 4))
		_, e := diff(t, c.spoilt(a), b)
		told[e]++
		if t.Failed() {
			t.Fatalf("seed %d", seed)
		}
	}
	for _, e := range []api.Errno{api.OK, api.ErrArg, api.ErrName, api.ErrThere, api.ErrNone, api.ErrDir} {
		if told[e] < 20 {
			t.Errorf("%d Diffs were answered %v", told[e], e)
		}
	}
}
