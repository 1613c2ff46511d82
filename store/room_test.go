package store_test

import (
	"fmt"
	"strings"
	"testing"

	"mantle/api"
)

// roomy are numbers of blocks: the least ones, some between, the greatest, and those around which the disk's map is another one.
func roomy() []int {
	return []int{24, 25, 31, 32, 33, 39, 40, 41, 63, 64, 65, 100, 257, 511, 512, 513, 514, 767, 1022, 1023, 1024}
}

// name64 is the i-th of some names that are as long as may be.
func name64(i int) string { return fmt.Sprintf("%064d", i) }

// worst are calls that make a tree of a cost of at most so many blocks, that takes as many bytes as it may in one way.
func worst(blocks int) map[string][]act {
	l := map[string][]act{}
	for i := range (blocks - 24) / 8 {
		l["directories"] = append(l["directories"], dir(name64(i)))
		l["files"] = append(l["files"], file(name64(i)))
	}
	for i := range (blocks - 24) / 9 {
		l["links"] = append(l["links"], link(name64(i), strings.Repeat("t", 32)))
		l["full files"] = append(l["full files"], file(name64(i)), write(name64(i), 0, letters(32)))
		l["short files"] = append(l["short files"], file(name64(i)), write(name64(i), 0, letters(1)))
	}
	for i := range (blocks - 24) / 136 {
		l["long links"] = append(l["long links"], link(name64(i), strings.Repeat("t", api.MaxPath)))
	}
	for i := range min((blocks-24)/8, 62) {
		l["chain"] = append(l["chain"], dir(names(i+1, 64)))
	}
	if most := (blocks - 32) * 32; most > 0 {
		l["one file"] = []act{file(name64(0)), write(name64(0), 0, letters(most))}
		l["one file that is cut"] = []act{file(name64(0)), cut(name64(0), int64(most))}
		l["one file byte by byte"] = []act{file(name64(0)), write(name64(0), 0, letters(most-1)), write(name64(0), int64(most-1), letters(1))}
	}
	return l
}

// No tree is refused that has a cost of as many blocks as the disk has, and it stays.
func TestP225Promised(t *testing.T) {
	for _, n := range roomy() {
		for name, l := range worst(n) {
			x := bothOf(t, n)
			x.do(t, l...)
			if x.paper.cost() > n {
				t.Fatalf("%s: the cost is %d", name, x.paper.cost())
			}
			x.wantTree(t)
			x.wantStays(t)
			for _, a := range l {
				if a.do == doMake && name != "chain" {
					x.do(t, move(a.p, "m"), move("m", a.p))
				}
			}
			x.wantTree(t)
		}
	}
}

// One file as great as may be, on disks of all numbers of blocks.
func TestP225OneFile(t *testing.T) {
	for n := 32; n <= api.MaxBlocks; n++ {
		x := bothOf(t, n)
		x.do(t, file("f"), write("f", 0, letters(32*(n-32))))
		if n%64 == 0 {
			x.wantStays(t)
		}
	}
}

// Where there is no room for one byte more each call is refused that wants one, and all is as it was; what wants none is done, and what is dropped makes room.
func TestP225Refused(t *testing.T) {
	for _, n := range []int{32, 64, 513, 1024} {
		x := bothOf(t, n)
		x.do(t, dir("d"), link("d/l", "l"), file("d/f"))
		x.fill(t, "full")
		told := x.want(t, read("full", 0, api.MaxText))
		for _, a := range []act{
			file("new"), dir("new"), link("new", "t"), dir("d/" + strings.Repeat("n", 64)), link("d/new", strings.Repeat("t", api.MaxPath)),
			write("d/f", 0, []byte("a")), write("full", int64(len(told.text)), []byte("a")), write("full", 0, letters(len(told.text)+1)), write("d/f", 0, letters(api.MaxText)),
			cut("d/f", 1), cut("full", int64(len(told.text)+1)), cut("full", api.MaxText),
			move("d", "dd"), move("d/l", "d/"+strings.Repeat("n", 64)), move("full", "d/full!"),
		} {
			x.wantE(t, api.ErrSpace, a)
			x.wantTree(t)
		}
		x.do(t, move("full", "lluf"), move("d/l", "l"), move("lluf", "d/full"), write("d/full", 0, []byte("abc")), cut("d/full", int64(len(told.text))), write("d/f", 9, nil), write("d/f", api.MaxText+9, nil), move("d", "d"))
		x.wantTree(t)
		x.wantStays(t)
		x.do(t, drop("l"), file("n"), drop("n"), cut("d/full", 0))
		x.do(t, write("d/f", 0, []byte("a")), drop("d/full"), dir("d/new"))
		x.wantTree(t)
		x.wantStays(t)
	}
}

// All errors of a Move, a Write and a Cut come ahead of ErrSpace.
func TestP225Order(t *testing.T) {
	x := bothOf(t, 512)
	for n := range 62 {
		x.do(t, dir(names(n+1, 1)))
	}
	x.do(t, dir("d"), dir("d/e"), dir("d/e/f"), file("f"))
	x.fill(t, "full")
	for _, c := range []struct {
		a    act
		want api.Errno
	}{
		{move("d", names(62, 1)+"/d"), api.ErrLong},
		{move("d", "d/e/longer"), api.ErrLoop},
		{move("f", "d/e"), api.ErrThere},
		{move("f", "f/longer"), api.ErrDir},
		{move("f", "no/longer"), api.ErrNone},
		{move("no", "longer"), api.ErrNone},
		{move("f", "/"), api.ErrDir},
		{move("f", "lo"), api.ErrSpace},
		{write("f", -1, letters(1)), api.ErrArg},
		{write("f", 1, letters(api.MaxText)), api.ErrLong},
		{write("no", 0, letters(1)), api.ErrNone},
		{write("d", 0, letters(1)), api.ErrDir},
		{write("f", 0, letters(api.MaxText)), api.ErrSpace},
		{cut("f", api.MaxText+1), api.ErrLong},
		{cut("no", 1), api.ErrNone},
		{cut("d", 1), api.ErrDir},
		{cut("f", api.MaxText), api.ErrSpace},
		{drop("d"), api.ErrEmpty},
	} {
		x.wantE(t, c.want, c.a)
		x.wantTree(t)
	}
}

// Room does not get less however often a store is filled and emptied, in whatever way.
func TestP225Again(t *testing.T) {
	x := bothOf(t, 128)
	x.fill(t, "f")
	first := len(x.want(t, read("f", 0, api.MaxText)).text)
	for i := range 300 {
		if i%3 > 0 {
			x.do(t, move("f", "g"), cut("g", 0), move("g", "f"))
		}
		x.do(t, drop("f"), dir("d"), link("d/l", "t"), drop("d/l"), drop("d"), file("f"), cut("f", int64(first)))
		x.wantE(t, api.ErrSpace, cut("f", int64(first+1)))
		if i%2 == 0 {
			x.wantStays(t)
		}
	}
	x.wantTree(t)
}

// Trees at random whose cost comes up to the disk's blocks and, call by call, goes beyond; want holds when ErrSpace may come.
func TestP225Any(t *testing.T) {
	c := chance(225)
	for range 300 {
		n := 24 + c.below(80)
		x := bothOf(t, n)
		for range 100 {
			x.want(t, c.act())
		}
		x.wantTree(t)
		x.wantStays(t)
	}
}
