package tree_test

import (
	"fmt"
	"strings"
	"testing"

	"mantle/api"
	"mantle/node"
	"mantle/tree"
)

// garden is a tree with all kinds of nodes: d with e in it, g, and a leaf of each kind in each of them.
func garden(t *testing.T) *sheet {
	t.Helper()
	top := dirSheet()
	d := top.hold(t, "d", dirSheet())
	g := top.hold(t, "g", dirSheet())
	for _, s := range []*sheet{top, d, d.hold(t, "e", dirSheet()), g} {
		for i, m := range leaves(t) {
			s.hold(t, []string{"file", "link", "mount", "white"}[i], m)
		}
	}
	return top
}

// P19.3: nodes of each kind get other names, within one directory and into others, up and down.
func TestP193Moved(t *testing.T) {
	for _, name := range []string{"file", "link", "mount", "white", "e"} {
		top := garden(t)
		tops := []*sheet{top}
		d, g, m := top.at("d"), top.at("g"), top.at("d").at(name)
		wantMove(t, tops, d, name, d, "new", api.OK)
		wantMove(t, tops, d, "new", g, "new", api.OK)
		wantMove(t, tops, g, "new", top, name+"2", api.OK)
		wantMove(t, tops, top, name+"2", top, "zz", api.OK)
		wantMove(t, tops, top, "zz", d, name, api.OK)
		if n, e := d.node.Get(name); n != m.node || e != api.OK {
			t.Errorf("%q is another node, %v", name, e)
		}
		top.wantItems(t)
	}
}

// P19.3: a directory moves with all that is in it, and may then be moved into again.
func TestP193Directory(t *testing.T) {
	top := garden(t)
	tops := []*sheet{top}
	d, g := top.at("d"), top.at("g")
	wantMove(t, tops, top, "d", g, "x", api.OK)
	wantMove(t, tops, d, "e", g, "e", api.OK)
	wantMove(t, tops, top, "file", d, "more", api.OK)
	wantMove(t, tops, g, "x", g.at("e"), "y", api.OK)
	wantMove(t, tops, g, "e", d, "z", api.ErrLoop)
	wantMove(t, tops, top, "g", d, "z", api.ErrLoop)
	top.wantItems(t)
}

// P19.3: from one tree into another that has nothing to do with it.
func TestP193BetweenTrees(t *testing.T) {
	a, b := garden(t), garden(t)
	tops := []*sheet{a, b}
	for _, name := range []string{"file", "d", "mount"} {
		wantMove(t, tops, a, name, b.at("g"), name+"2", api.OK)
		wantMove(t, tops, b, name, a, name, api.OK)
	}
	for _, top := range tops {
		top.wantItems(t)
	}
}

// P19.3: a name to itself changes nothing, whatever it holds and however full its directory is; other spellings are others.
func TestP193Itself(t *testing.T) {
	top := garden(t)
	tops := []*sheet{top}
	for _, name := range top.names {
		wantMove(t, tops, top, name, top, name, api.OK)
	}
	wantMove(t, tops, top.at("d"), "e", top.at("d"), "e", api.OK)
	wantMove(t, tops, top, "q", top, "q", api.ErrNone)
	wantMove(t, tops, top, "", top, "", api.ErrNone)
	wantMove(t, tops, top, "..", top, "..", api.ErrNone)
	wantMove(t, tops, top, "d", top, "D", api.OK)
	wantMove(t, tops, top, "D", top, "d ", api.OK)
	wantMove(t, tops, top, "d ", top.at("d "), "d ", api.ErrLoop)
}

// P19.3: nil, and what is no directory, at either side.
func TestP193NoDirectory(t *testing.T) {
	top := garden(t)
	tops := []*sheet{top}
	sides := []*sheet{nil, top, top.at("file"), top.at("link"), top.at("mount"), top.at("white")}
	for i, from := range sides {
		for j, to := range sides {
			for _, name := range []string{"d", "q", "", ".."} {
				want := api.ErrDir
				switch {
				case i == 0 || j == 0:
					want = api.ErrNil
				case i == 1 && j == 1:
					continue
				}
				for _, as := range []string{"d", "new", "..", "", "link"} {
					wantMove(t, tops, from, name, to, as, want)
				}
			}
		}
	}
	of, _ := node.Mount(top.node)
	if e := tree.Move(of, "d", top.node, "new"); e != api.ErrDir {
		t.Errorf("out of a mount of it: %v", e)
	}
	top.wantItems(t)
}

// P19.3: names that from has not, and such as none can have.
func TestP193None(t *testing.T) {
	top := garden(t)
	tops := []*sheet{top}
	for _, name := range append(badNames(), "q", "D", "d/", "d/e", "/", "/d", "./d", "e") {
		for _, as := range []string{"new", "", "..", "d", name} {
			wantMove(t, tops, top, name, top, as, api.ErrNone)
			wantMove(t, tops, top, name, top.at("g"), as, api.ErrNone)
		}
	}
}

// P19.3: what is no name, and what is one though it looks like none.
func TestP193Names(t *testing.T) {
	top := garden(t)
	tops := []*sheet{top}
	for _, as := range append(badNames(), "/", "a/b", "/a", "a/", "d/x") {
		for _, to := range []*sheet{top, top.at("g"), top.at("d"), top.at("d").at("e")} {
			wantMove(t, tops, top, "d", to, as, api.ErrName)
			wantMove(t, tops, top, "file", to, as, api.ErrName)
		}
	}
	at := "file"
	for _, as := range goodNames() {
		wantMove(t, tops, top, at, top, as, api.OK)
		at = as
	}
}

// P19.3: what to has already, of each kind, be it the node itself or below it.
func TestP193There(t *testing.T) {
	top := garden(t)
	tops := []*sheet{top}
	d := top.at("d")
	for _, to := range []*sheet{top, d, d.at("e"), top.at("g")} {
		for _, as := range to.names {
			for _, name := range top.names {
				if to != top || as != name {
					wantMove(t, tops, top, name, to, as, api.ErrThere)
				}
			}
		}
	}
	one := fileSheet(t, "x")
	top.hold(t, "one", one)
	top.hold(t, "two", one)
	wantMove(t, tops, top, "one", top, "two", api.ErrThere) // the very same node, under another name
}

// P19.3: to is the node itself, or stands below it, at however many removes; one that stands beside is none such.
func TestP193Loop(t *testing.T) {
	for _, n := range []int{1, 2, 3, 30, 62, 63} {
		top := dirSheet()
		l := top.chain(t, n, "c")
		for i := range n {
			for _, to := range l[i+1:] {
				if e := move(t, []*sheet{top}, l[i], "c", to, "x"); e != api.ErrLoop {
					t.Errorf("Move below itself answers %v on paper", e)
				}
			}
		}
		top.wantStands(t)
	}
	top := dirSheet()
	a := top.hold(t, "a", dirSheet())
	b := top.hold(t, "b", dirSheet())
	for i := range 5 {
		a.hold(t, fmt.Sprint(i), dirSheet()).hold(t, "x", dirSheet())
	}
	tops := []*sheet{top}
	for _, d := range a.holds {
		wantMove(t, tops, top, "a", d, "y", api.ErrLoop)
		wantMove(t, tops, top, "a", d.at("x"), "y", api.ErrLoop)
	}
	m := mountSheet(t, b)
	a.hold(t, "m", m)
	wantMove(t, tops, top, "a", b, "a", api.OK) // what is under a mount does not stand below it
	wantMove(t, tops, top, "b", a, "b", api.ErrLoop)
}

// P19.3: to is full. If it is from, there is room for the node that is taken out of it.
func TestP193Full(t *testing.T) {
	top := dirSheet()
	full, other := top.hold(t, "full", dirSheet()), top.hold(t, "other", dirSheet())
	tops := []*sheet{top}
	full.hold(t, "file", fileSheet(t, "abc"))
	full.hold(t, "d", dirSheet()).hold(t, "x", fileSheet(t, "x"))
	other.hold(t, "file", fileSheet(t, "abc"))
	other.hold(t, "d", dirSheet()).hold(t, "x", fileSheet(t, "x"))
	full.fill(t, 4096)
	for _, name := range []string{"file", "d"} {
		wantMove(t, tops, other, name, full, "new", api.ErrFull)
		wantMove(t, tops, other, name, full, name, api.ErrThere)
		wantMove(t, tops, other, name, full, "", api.ErrName)
		wantMove(t, tops, full, name, full, name, api.OK)
		wantMove(t, tops, full, name, full, name+"2", api.OK)
		wantMove(t, tops, full, name+"2", full, name, api.OK)
		wantMove(t, tops, full, name, other, name+"2", api.OK)
		wantMove(t, tops, other, name, full, "new", api.OK)
		wantMove(t, tops, other, name+"2", full, "new2", api.ErrFull)
		wantMove(t, tops, full, "new", other, name, api.OK)
		wantMove(t, tops, other, name+"2", full, name, api.OK)
	}
	wantMove(t, tops, top, "full", full, "new", api.ErrLoop) // though it is full besides
}

// P19.3: each depth of to beside each height of the node.
func TestP193Deep(t *testing.T) {
	for down := range 65 {
		for high := range 64 {
			top := dirSheet()
			to := top.hold(t, "to", dirSheet()).chain(t, max(0, down-1), "c")
			m := top.hold(t, "m", dirSheet())
			m.chain(t, high, "c")
			want, dest := api.OK, to[len(to)-1]
			if down == 0 {
				dest = top
			}
			if down+high+1 > 64 {
				want = api.ErrLong
			}
			if e := tree.Move(top.node, "m", dest.node, "new"); e != want {
				t.Fatalf("Move of one that is %d high to one that is %d deep answers %v, want %v", high, down, e, want)
			}
			at, name := top, "m"
			if want == api.OK {
				at, name = dest, "new"
			}
			if n, e := at.node.Get(name); n != m.node || e != api.OK {
				t.Fatalf("behind that %q is another node, %v", name, e)
			}
		}
	}
}

// Of many nodes the deepest counts; of a node that is no directory how deep to is.
func TestP193DeepKinds(t *testing.T) {
	top := dirSheet()
	tops := []*sheet{top}
	l := top.hold(t, "a", dirSheet()).chain(t, 63, "c")
	b := top.hold(t, "b", dirSheet())
	for i, m := range leaves(t) {
		name := fmt.Sprint(i)
		top.hold(t, name, m)
		wantMove(t, tops, top, name, l[63], "x", api.ErrLong)
		wantMove(t, tops, top, name, l[62], name, api.OK)
		b.hold(t, name, m)
	}
	wantMove(t, tops, top, "b", l[62], "b", api.ErrLong)
	wantMove(t, tops, top, "b", l[61], "b", api.OK)
	b.hold(t, "d", dirSheet())
	wantMove(t, tops, l[61], "b", l[62], "b", api.ErrLong)
	wantMove(t, tops, l[61], "b", l[60], "b", api.OK)
}

// Whatever is refused at last leaves everything where it stood: the node may be moved elsewhere, or be dropped.
func TestP193RefusedAtLast(t *testing.T) {
	top := garden(t)
	tops := []*sheet{top}
	l := top.hold(t, "c", dirSheet()).chain(t, 63, "c")
	full := top.hold(t, "full", dirSheet())
	full.fill(t, 4096)
	for _, name := range []string{"d", "file", "link", "mount", "white"} {
		wantMove(t, tops, top, name, full, "new", api.ErrFull)
		wantMove(t, tops, top, name, l[63], "new", api.ErrLong)
		wantMove(t, tops, top, name, top.at("g"), "new", api.OK)
		wantMove(t, tops, top.at("g"), "new", full, "new", api.ErrFull)
		wantMove(t, tops, top.at("g"), "new", top, name, api.OK)
	}
	wantMove(t, tops, top, "d", full, "new", api.ErrFull)
	if e := node.Dir().Add("d", top.at("d").node); e != api.ErrThere {
		t.Errorf("Add elsewhere answers %v: it stands nowhere", e)
	}
	if e := top.node.Drop("d"); e != api.ErrEmpty {
		t.Errorf("Drop answers %v", e)
	}
}

// A full directory out of which a node would be moved, and is refused, gets it back.
func TestP193RefusedOutOfFull(t *testing.T) {
	top := dirSheet()
	a, b := top.hold(t, "a", dirSheet()), top.hold(t, "b", dirSheet())
	a.hold(t, "d", dirSheet()).hold(t, "x", whiteSheet())
	a.hold(t, "f", fileSheet(t, "x"))
	a.fill(t, 4096)
	b.fill(t, 4096)
	for _, name := range []string{"d", "f"} {
		wantMove(t, []*sheet{top}, a, name, b, "new", api.ErrFull)
	}
}

// One of several names of a node moves; the others stay.
func TestP193OneOfSeveral(t *testing.T) {
	top := garden(t)
	tops := []*sheet{top}
	for i, name := range []string{"file", "link", "mount", "white"} {
		m := top.at(name)
		top.hold(t, name+"2", m)
		top.at("g").hold(t, name+"2", m)
		wantMove(t, tops, top, name, top.at("g"), fmt.Sprint(i), api.OK)
		wantMove(t, tops, top, name+"2", top, name, api.OK)
	}
	top.wantItems(t)
}

// trouble is one of the reasons for which a Move is refused, or has nothing to do, in the order of the chapter.
type trouble int

const (
	nilFrom trouble = 1 << iota
	nilTo
	noDirFrom
	noDirTo
	none
	itself
	noName
	there
	loop
	full
	long
	troubles
)

// errOf is the first answer of a set.
func errOf(set trouble) api.Errno {
	l := []api.Errno{api.ErrNil, api.ErrNil, api.ErrDir, api.ErrDir, api.ErrNone, api.OK, api.ErrName, api.ErrThere, api.ErrLoop, api.ErrFull, api.ErrLong}
	for i, e := range l {
		if set&(1<<i) != 0 {
			return e
		}
	}
	return api.OK
}

// canBe tells whether there is a Move of that set: one to itself is to where it is, so it has its name, is below nothing that moves, and is as deep as it was.
func canBe(set trouble) bool {
	if set&itself != 0 && set&(noName|there|loop|long) != 0 {
		return false
	}
	return set&noName == 0 || set&there == 0
}

// troubled makes a Move of such a set.
func troubled(t *testing.T, set trouble) (tops []*sheet, from *sheet, name string, to *sheet, as string) {
	t.Helper()
	top := dirSheet()
	from = top.hold(t, "from", dirSheet())
	m := from.hold(t, "m", dirSheet())
	m.hold(t, "high", whiteSheet())
	name, as = "m", "as"
	at, down := top, 5
	if set&long != 0 {
		down = 62 // it comes to lie at 63, where it may still hold something
	}
	if set&loop != 0 {
		at, down = m, max(0, down-2)
	}
	to = at.hold(t, "to", dirSheet()).chain(t, down, "c")[down]
	if set&itself != 0 {
		to, as = from, name
	}
	if set&there != 0 {
		to.hold(t, as, whiteSheet())
	}
	if set&full != 0 {
		to.fill(t, 4096)
	}
	if set&none != 0 {
		from.node.Take("m")
		from.drop("m")
		tops = append(tops, m)
	}
	if set&noName != 0 {
		as = "no/name"
	}
	tops = append(tops, top)
	from, to = sideOf(t, from, set&nilFrom != 0, set&noDirFrom != 0), sideOf(t, to, set&nilTo != 0, set&noDirTo != 0)
	return tops, from, name, to, as
}

// sideOf is a directory, or, instead of it, nil or a mount of it.
func sideOf(t *testing.T, s *sheet, isNil, noDir bool) *sheet {
	t.Helper()
	if isNil {
		return nil
	}
	if noDir {
		return mountSheet(t, s)
	}
	return s
}

// P19.3, R5: all sets that can be; the first one is answered, and what is refused has changed nothing.
func TestP193Order(t *testing.T) {
	tried := 0
	for set := range troubles {
		if !canBe(set) {
			continue
		}
		tried++
		tops, from, name, to, as := troubled(t, set)
		if e := move(t, tops, from, name, to, as); e != errOf(set) {
			t.Errorf("set %b: Move answers %v on paper, want %v", set, e, errOf(set))
		}
		for _, top := range tops {
			if set&full == 0 || errOf(set) == api.ErrFull {
				top.wantStands(t)
			}
		}
	}
	if tried < 800 {
		t.Errorf("%d sets were tried", tried)
	}
}

// R1: names of any bytes and lengths.
func TestP193AnyNames(t *testing.T) {
	top := garden(t)
	huge := strings.Repeat("n", 1<<20)
	for _, a := range []string{"", huge, "\x00", "d", "d/e", "\xff\xfe"} {
		for _, b := range []string{"", huge, "\x00", "d/e", "\xff\xfe\x00"} {
			move(t, []*sheet{top}, top, a, top.at("g"), b)
		}
	}
	top.wantStands(t)
}
