package overlay_test

import (
	"testing"

	"mantle/api"
	"mantle/memory"
)

// P24.4: a Drop of each place, from the same beginning; then what can be put there again, and dropped again.
func TestP244Drop(t *testing.T) {
	for _, p := range spots(mixed(t)) {
		for _, y := range []thing{file("again"), dir(), link("again")} {
			x := mixed(t)
			for _, a := range []act{drop(p), drop(p), put(p, y), put(p+"/in", file("in")), drop(p + "/in"), drop(p), drop(p)} {
				x.do(t, a)
				x.wantAround(t, p)
			}
		}
	}
}

// P24.4: the errors, told by hand.
func TestP244DropErrors(t *testing.T) {
	x := mixed(t)
	for p, e := range map[string]api.Errno{
		"": api.ErrName, "/": api.ErrName, "u/": api.ErrName,
		"none": api.ErrNone, "none/a": api.ErrNone, "u/w": api.ErrNone, "o/w": api.ErrNone, "h/wd": api.ErrNone, "h/wd/x": api.ErrNone, "u/f/a": api.ErrNone, "b/l/a": api.ErrNone, "b/m/a": api.ErrNone, "h/md/x": api.ErrNone,
		"u": api.ErrEmpty, "o": api.ErrEmpty, "b/d": api.ErrEmpty, "u/d": api.ErrEmpty, "o/d": api.ErrEmpty, "o/p": api.ErrEmpty, "o/p/q": api.ErrEmpty,
	} {
		x.want(t, drop(p), e)
	}
}

// P24.4: what the upper tree has behind a Drop: a white where the lower layers have something, and nothing where they have none.
func TestP244Whites(t *testing.T) {
	for _, y := range append(kinds(), thing{kind: -1}) {
		for _, z := range append(kinds(), thing{kind: -1}) {
			for _, deep := range []string{"", "d", "d/e"} {
				up, low := sheet{}, sheet{}
				for q := deep; q != ""; q = parentOf(q) {
					low[q] = dir()
					if y.kind >= 0 {
						up[q] = dir()
					}
				}
				p := joined(deep, "p")
				if y.kind >= 0 {
					up[p] = y
				}
				if z.kind >= 0 {
					low[p] = z
				}
				x := bothOf(t, up, low)
				x.do(t, drop(p))
				x.wantSame(t)
				stood := y.kind >= 0 && y.kind != api.NodeWhite || y.kind < 0 && z.kind >= 0 && z.kind != api.NodeWhite
				if !stood {
					continue
				}
				in := x.upper
				if deep != "" && (y.kind >= 0 || z.kind >= 0 && z.kind != api.NodeWhite) {
					in = held(t, x.upper, deep)
				}
				n, _ := in.Get("p")
				if want := z.kind >= 0 && z.kind != api.NodeWhite; n.Kind() == api.NodeWhite != want || n != nil && !want {
					t.Errorf("behind a Drop of %d over %d the upper tree has %d", y.kind, z.kind, n.Kind())
				}
			}
		}
	}
}

// P24.4: a directory whose entries are all hidden goes with the whites in it, and none of what they hid comes up.
func TestP244DropHidden(t *testing.T) {
	x := bothOf(t,
		sheet{"d": dir(), "d/a": white(), "d/b": white(), "d/none": white(), "u": dir(), "u/w": white()},
		sheet{"d": dir(), "d/a": file("1"), "d/c": white(), "l": dir(), "l/w": white()},
		sheet{"d": dir(), "d/b": dir(), "d/b/x": file("2"), "d/c": file("3"), "l": dir(), "l/w": file("4")})
	x.wants(t, drop("d"), drop("u"), drop("l"))
	x.wantText(t, "")
	if got, want := told(t, x.upper), (sheet{"d": white(), "l": white()}).text(); got != want {
		t.Errorf("the upper tree has\n%s", got)
	}
	x.wants(t, put("d", dir()), put("u", dir()), put("l", dir()))
	x.wantText(t, "d l u")
}

// P24.4: what goes from the upper tree is what it was: an open handle reads on.
func TestP244DropHandle(t *testing.T) {
	x := mixed(t)
	h, e := held(t, x.upper, "b/f").Open()
	x.wants(t, drop("b/f"))
	if b, f := memory.All(h); string(b) != "3" || e != api.OK || f != api.OK {
		t.Errorf("the dropped file is %q, %v, %v", b, e, f)
	}
}

// P24.4: all is dropped, one by one, until nothing is left; and put again.
func TestP244DropAll(t *testing.T) {
	x := mixed(t)
	l, _ := x.o.Items()
	for len(l) > 0 {
		n := 0
		for _, i := range l {
			if x.do(t, drop(i.Path)) == api.OK {
				n++
			}
		}
		x.wantSame(t)
		if n == 0 {
			t.Fatal("nothing more can be dropped")
		}
		l, _ = x.o.Items()
	}
	was, _ := mixed(t).o.Items()
	for _, i := range was {
		if i.Kind == api.NodeMount {
			continue
		}
		x.want(t, act{do: doPut, item: i}, api.OK)
	}
}
