package overlay_test

import (
	"fmt"
	"slices"
	"strings"
	"testing"

	"mantle/api"
	"mantle/node"
)

// P24.5: rising paths, byte by byte: a sign below the stroke comes ahead of what is in the directory.
func TestP245Order(t *testing.T) {
	x := bothOf(t,
		sheet{"a": dir(), "a/z": file("1"), "a-b": file("2"), "b": dir()},
		sheet{"a": dir(), "a/b": dir(), "a/b/c": link("x"), "a/b!": mount(), "a.b": dir(), "a.b/c": file("3")},
		sheet{"a": dir(), "a\xff": file("4"), "a0": file("5"), "A": file("6"), "b": dir(), "b/\x01": file("7")})
	x.wantSame(t)
	x.wantText(t, "A a a-b a.b a.b/c a/b a/b! a/b/c a/z a0 a\xff b b/\x01")
}

// P24.5: nothing, and the root is none.
func TestP245None(t *testing.T) {
	for _, x := range []*both{bothOf(t, sheet{}), bothOf(t, sheet{}, sheet{}, sheet{}), bothOf(t, sheet{"a": white(), "b": white()}, sheet{"a": dir(), "a/x": file("1"), "c": white()}, sheet{"b": file("2"), "c": mount()})} {
		x.wantSame(t)
		if l, e := x.o.Items(); len(l) != 0 || e != api.OK {
			t.Errorf("Items of nothing answers %v, %v", l, e)
		}
	}
}

// wantItemsE holds what Items answers, and that the paper says so, too.
func (x *both) wantItemsE(t *testing.T, want api.Errno, many int) {
	t.Helper()
	x.wantItems(t)
	if l, e := x.o.Items(); e != want || len(l) != many {
		t.Errorf("Items answers %d, %v, want %d, %v", len(l), e, many, want)
	}
}

// P24.5: MaxNodes items, and one more: in one layer or in several, in one directory or in many; whites and what is hidden do not count.
func TestP245Full(t *testing.T) {
	x := bothOf(t, sheet{}, sheet{}.many(4096, "a", dir()))
	x.wantItemsE(t, api.OK, 4096)
	x.want1(t, put("b", file("1")))
	x.wantItemsE(t, api.ErrFull, 0)
	x.want1(t, drop("a77"))
	x.wantItemsE(t, api.OK, 4096)

	x = bothOf(t, sheet{"d": dir()}.many(2000, "d/a", link("x")), sheet{"d": dir()}.many(2090, "d/b", file("")).many(2000, "d/a", file("hidden")), sheet{"d": dir(), "a": dir(), "a/b": mount(), "x": white()})
	x.wantItemsE(t, api.OK, 4093)
	for i := range 3 {
		x.want1(t, put(fmt.Sprint("a/more", i), dir()))
	}
	x.wantItemsE(t, api.OK, 4096)
	x.want1(t, put("a/a", dir()))
	x.wantItemsE(t, api.ErrFull, 0)
	x.want1(t, put("d/c", dir()))
	x.wantItemsE(t, api.ErrFull, 0)
}

// want1 is an act that must be OK, of trees too great to hold everything against the paper.
func (x *both) want1(t *testing.T, a act) {
	t.Helper()
	if e := x.do(t, a); e != api.OK {
		t.Fatalf("%s answers %v on paper", a.text(), e)
	}
}

// P24.5: MaxData bytes of files, and one more; links' bytes do not count, nor those that are hidden.
func TestP245Long(t *testing.T) {
	half := strings.Repeat("x", 1<<21)
	x := bothOf(t, sheet{"a": file(half), "l": link("abc"), "e": file("")}, sheet{"a": file(half), "c": file(half), "d": file("hidden")}, sheet{"z": file(half)})
	x.paper.layers[0]["d"], x.paper.layers[0]["z"] = white(), white()
	x.upper.Add("d", node.White())
	x.upper.Add("z", node.White())
	x.wantItemsE(t, api.OK, 4)
	x.want1(t, put("zz", file("1")))
	x.wantItemsE(t, api.ErrLong, 0)
	x.want1(t, put("zz", file("")))
	x.wantItemsE(t, api.OK, 5)
	x.want1(t, write("c", 1<<21, "1"))
	x.wantItemsE(t, api.ErrLong, 0)
	x.want1(t, drop("a"))
	x.wantItemsE(t, api.OK, 4)
}

// P24.5: Get's error of one.
func TestP245Error(t *testing.T) {
	for _, e := range []api.Errno{api.ErrSum, api.ErrFull, api.ErrNone, api.ErrLong, 99} {
		x := bothOf(t, sheet{"a": file("1"), "d": dir()}, sheet{"d": dir(), "d/x": broken(1, e), "b": dir()})
		x.wantItemsE(t, e, 0)
		x.want1(t, put("d/x", file("2")))
		x.wantItemsE(t, api.OK, 4)
	}
	x := bothOf(t, sheet{"a": broken(0, api.ErrSum)}, sheet{"b": broken(1<<22+1, api.ErrSum)})
	x.wantItemsE(t, api.ErrLong, 0)
	x.want1(t, drop("b"))
	x.wantItemsE(t, api.OK, 1)
}

// P24.5: which error is the first one hangs on the order in which they are gone through: a directory ahead of what is in it, names rising. That is not the order of paths.
func TestP245First(t *testing.T) {
	great := strings.Repeat("x", 1<<22)
	faults := []thing{file(great), broken(1, api.ErrSum), broken(1, 77), broken(1<<22+1, 77)}
	places := []string{"a", "a.b", "a/b", "a/b.c", "a/b/c", "b", "0/z", "a.b/c", "aa"}
	for i, p := range places {
		for j, q := range places {
			x := bothOf(t, sheet{}, faulty(p, faults[(i+j)%4]), faulty(q, faults[(i+2*j+1)%4]))
			x.wantItems(t)
		}
	}
	x := bothOf(t, sheet{}, faulty("a/z", broken(1, 1001)), faulty("a.b", broken(1, 1002)))
	x.wantItemsE(t, 1001, 0)
	x = bothOf(t, sheet{}, faulty("a.b/z", broken(1, 1001)), faulty("a/a", broken(1, 1002)))
	x.wantItemsE(t, 1002, 0)
}

// faulty has one thing at a path, and a file that is a byte too much with another great one.
func faulty(p string, x thing) sheet {
	s := sheet{"00": file("1"), p: x}
	for q := parentOf(p); q != ""; q = parentOf(q) {
		s[q] = dir()
	}
	return s
}

// P24.5: ErrFull is told where the node comes that is one too many, ahead of its own error, and behind those of all ahead.
func TestP245FullFirst(t *testing.T) {
	for _, at := range []int{0, 1, 4094, 4095, 4096, 4097} {
		for _, fault := range []thing{broken(1, 77), file(strings.Repeat("x", 1<<22)), broken(1<<22+1, 77)} {
			s, more := sheet{"0": file("1")}, sheet{}
			for i := range 4100 {
				x := file("")
				if i == at {
					x = fault
				}
				if i < 2000 {
					s[fmt.Sprintf("f%04d", i)] = x
				} else {
					more[fmt.Sprintf("f%04d", i)] = x
				}
			}
			x := bothOf(t, s, more)
			x.wantItems(t)
			_, e := x.o.Items()
			if (at < 4095) == (e == api.ErrFull) {
				t.Errorf("the fault is node %d of those behind the first one: %v", at, e)
			}
		}
	}
}

// A node whose path would have more than MaxPath bytes: it is told by List, but no call reaches it, and Items tells what Get tells of that.
func TestP245TooLong(t *testing.T) {
	s, name := sheet{}, strings.Repeat("n", 64)
	p := name
	for range 62 {
		s[p] = dir()
		p += "/" + name
	}
	s[p], s[p+"/x"] = dir(), file("1")
	x := bothOf(t, sheet{}, s)
	x.wantSame(t)
	s[p+"/xx"] = file("2")
	n := x.lower[0]
	for range 63 {
		n, _ = n.Get(name)
	}
	n.Add("xx", file("2").node(t))
	x.wantItemsE(t, api.ErrName, 0)
	x.wantTold(t, p)
	x.wantTold(t, p+"/xx")
	x.wants(t, drop(p+"/x"))
	x.want(t, drop(p), api.ErrEmpty)
}

// R2, R9: Items are those of the call, and go on as they were told.
func TestP245Stays(t *testing.T) {
	x := bothOf(t, sheet{"a": file("1")}, sheet{"b": file("2"), "d": dir()})
	l, _ := x.o.Items()
	was := itemsText(l)
	x.wants(t, write("a", 0, "x"), write("b", 0, "y"), drop("d"), put("c", link("a")))
	if got := itemsText(l); got != was {
		t.Errorf("what Items told is %s now, was %s", got, was)
	}
	m, _ := x.o.Items()
	if slices.EqualFunc(l, m, sameItem) {
		t.Error("Items are as before")
	}
}
