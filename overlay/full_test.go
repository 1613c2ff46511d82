package overlay_test

import (
	"fmt"
	"strings"
	"testing"

	"mantle/api"
)

// chain are so many directories, each in the one ahead, and the path of the last one.
func chain(n int, name string) (sheet, string) {
	s, p := sheet{}, ""
	for range n {
		p = joined(p, name)
		s[p] = dir()
	}
	return s, p
}

// P24.3, P24.4: how deep the upper tree may be: for the new node, for a parent, for what is brought up, for a white.
func TestDeep(t *testing.T) {
	for deep := 56; deep <= 64; deep++ {
		for n := range 7 {
			s, p := chain(n, "d")
			s[joined(p, "f")], s[joined(p, "e")] = file("1"), dir()
			for have := range n + 1 {
				up, _ := chain(min(have, 64-deep), "d")
				for _, a := range []act{put(joined(p, "new"), file("2")), put(joined(p, "new"), dir()), put(joined(p, "f"), link("x")), write(joined(p, "f"), 1, "3"), drop(joined(p, "f")), drop(joined(p, "e"))} {
					x := bothIn(t, deep, up, s)
					e := x.do(t, a)
					x.wantSame(t)
					if want := deep+n+1 > 64; (e == api.ErrLong) != want {
						t.Errorf("%s in a tree %d deep: %v", a.text(), deep, e)
					}
				}
			}
		}
	}
}

// P24.3: a white that would be too deep: the directory does not come, and the white that stood there stays.
func TestDeepWhite(t *testing.T) {
	for deep := 58; deep < 64; deep++ {
		for n := range 64 - deep {
			up, p := chain(n, "d")
			low, _ := chain(n, "d")
			p = joined(p, "w")
			up[p], low[p], low[p+"/x"] = white(), dir(), file("1")
			x := bothIn(t, deep, up, low)
			want := api.OK
			if deep+n+2 > 64 {
				want = api.ErrLong
			}
			x.want(t, put(p, dir()), want)
			if want == api.ErrLong {
				x.wants(t, put(p, file("2")))
			}
		}
	}
}

// P24.3, P24.4: an upper directory that is full, of whites or of anything: what needs one more is refused, and what takes another one's place is not.
func TestFull(t *testing.T) {
	for _, held := range []int{4095, 4096} {
		for _, filler := range []thing{white(), link("x")} {
			for _, p := range []string{"", "d"} {
				up, low := sheet{}, sheet{}
				if p != "" {
					up[p], low[p] = dir(), dir()
				}
				up.many(held-1, joined(p, "fill"), filler)
				up[joined(p, "w")] = white()
				for _, name := range []string{"f", "e", "w"} {
					low[joined(p, name)] = file("1")
				}
				low[joined(p, "g")], low[joined(p, "g/in")] = dir(), file("2")
				x := bothOf(t, up, low)
				for _, a := range []act{
					put(joined(p, "new"), dir()), drop(joined(p, "new")), put(joined(p, "g/in"), file("3")), drop(joined(p, "fill7")), put(joined(p, "fill7"), link("1")),
					write(joined(p, "f"), 0, "x"), write(joined(p, "w"), 0, "x"), put(joined(p, "w"), dir()), drop(joined(p, "w")), drop(joined(p, "e")), put(joined(p, "g/new"), dir()), drop(joined(p, "g/in")), put(joined(p, "f"), link("x")), drop(joined(p, "f")), put(joined(p, "f"), file("y")),
				} {
					x.do(t, a)
					x.wantTrees(t)
					for _, name := range []string{"", "f", "e", "g", "g/in", "w", "new"} {
						if q := joined(p, name); q != p {
							x.wantTold(t, q)
						}
					}
				}
			}
		}
	}
}

// The same by hand: each of the ways in which a full directory refuses.
func TestFullByHand(t *testing.T) {
	x := bothOf(t, sheet{}.many(4096, "w", white()), sheet{"f": file("1"), "d": dir(), "d/e": dir(), "d/e/x": file("2"), "bad": broken(1, 77), "w7": dir(), "w7/y": file("3")})
	for _, a := range []act{put("new", file("")), put("new", dir()), put("f", link("x")), put("d/new", file("")), put("d/e/new", dir()), write("f", 0, "x"), write("f", -1, "x"), write("d/e/x", 0, ""), drop("f"), drop("d/e/x")} {
		if e := x.do(t, a); e != api.ErrFull {
			t.Errorf("%s answers %v on paper", a.text(), e)
		}
		x.wantTrees(t)
	}
	if e := x.do(t, write("bad", 0, "x")); e != 77 {
		t.Errorf("the bytes of a file that is brought up are told of first: %v", e)
	}
	x.wantItemsE(t, 77, 0)
	for _, a := range []act{put("w7", dir()), put("w7/y", file("4")), put("w8", link("x")), drop("w8")} {
		x.want1(t, a)
		x.wantTrees(t)
	}
	if e := x.do(t, drop("bad")); e != api.OK {
		t.Errorf("behind a Drop of one that no lower layer has there is room for a white: %v", e)
	}
	x.wantText(t, "d d/e d/e/x f w7 w7/y")
}

// P24.3: as many whites as a directory holds, and one more: then nothing is changed, and the white that stood there stays.
func TestFullOfWhites(t *testing.T) {
	for _, n := range []int{0, 1, 2} {
		low := []sheet{sheet{"d": dir(), "d/e": dir()}.many(3000, "d/e/a", file("")), sheet{"d": dir(), "d/e": dir()}.many(1095+n, "d/e/b", link("x")), sheet{"d": dir(), "d/e": dir()}.many(2999, "d/e/a", white())}
		for _, up := range []sheet{{"d": dir(), "d/e": white()}, {"d": white()}} {
			x := bothOf(t, up, low...)
			if up["d"].kind == api.NodeWhite {
				x.want1(t, put("d", dir()))
			}
			want := api.OK
			if n > 1 {
				want = api.ErrFull
			}
			if e := x.do(t, put("d/e", dir())); e != want {
				t.Errorf("Put over %d names answers %v on paper", 4095+n, e)
			}
			x.wantTrees(t)
			x.wantItemsE(t, api.OK, map[api.Errno]int{api.OK: 2, api.ErrFull: 1}[want])
			x.want1(t, put("d/more", file("1")))
			x.wantTrees(t)
		}
	}
}

// What stands ahead of a refused step goes again, also where it is the parents' parents.
func TestFullParents(t *testing.T) {
	up, p := chain(1, "d")
	low, q := chain(5, "d")
	up.many(4095, p+"/fill", white())
	low[q+"/x"] = file("1")
	x := bothOf(t, up, low)
	x.want1(t, write(q+"/x", 0, "2"))
	x.wantTrees(t)
	y := bothOf(t, up.many(4096, p+"/fill", white()), low)
	for _, a := range []act{write(q+"/x", 0, "2"), put(q+"/y", dir()), drop(q + "/x")} {
		if e := y.do(t, a); e != api.ErrFull {
			t.Errorf("%s answers %v on paper", a.text(), e)
		}
		y.wantTrees(t)
	}
	z := bothIn(t, 60, sheet{}, low)
	for _, a := range []act{write(q+"/x", 0, "2"), put(q+"/y", dir()), drop(q + "/x"), put(strings.TrimSuffix(q, "/d")+"/y", file("1"))} {
		z.want(t, a, api.ErrLong)
	}
	z.wants(t, put("d/d/d/new", file("1")))
	if got := fmt.Sprint(z.o.List("d/d/d")); got != "[{d 1 1} {new 0 1}] error 0" {
		t.Error(got)
	}
}
