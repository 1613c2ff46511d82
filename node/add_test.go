package node_test

import (
	"fmt"
	"slices"
	"strings"
	"testing"

	"mantle/api"
)

// P18.3: what is a name, and what is none.
func TestP183Names(t *testing.T) {
	w := newWorld(t)
	d, n := w.dir(), w.white()
	for _, name := range []string{
		"a", " ", "\n", "...", "..a", ".a", "a.", "a..", ". ", ".. ", "\\", "-", "é", "\xff", "\x01", "\xc0\xaf", "\xed\xa0\x80", "\u2215", "\uff0f",
		strings.Repeat("n", 63), strings.Repeat("n", 64), strings.Repeat(".", 64), strings.Repeat("\xff", 64), strings.Repeat("é", 32), "mmmmmmmmmm\xff\xffmmmmm",
	} {
		w.added(d, name, n)
	}
	for _, name := range []string{
		"", ".", "..", "/", "\x00", "a/", "/a", "a/b", "./a", "../a", "a/..", "\x00a", "a\x00", "a\x00b", "//", "\xff/", "\xff\x00", "nnnnnnnnnnnn/", "nnnnnnnnnnnn\x00", "/nnnnnnnnnnnn", "\xff\xffnnnnnnnnnn/nn", "\xff\xffnnnnnnnnnn\x00nn",
		strings.Repeat("n", 65), strings.Repeat("é", 33), strings.Repeat("n", 63) + "é", strings.Repeat("n", 63) + "/", strings.Repeat("n", 63) + "\x00", strings.Repeat("n", 4096), strings.Repeat("/", 64),
	} {
		w.wantAdd(d, name, n, api.ErrName)
	}
	w.wantAll()
}

// P18.3: every byte, alone, and ahead of, behind and between others.
func TestP183Bytes(t *testing.T) {
	w := newWorld(t)
	n := w.white()
	for b := range 256 {
		s := string([]byte{byte(b)})
		d := w.dir()
		for _, name := range []string{s, s + "x", "x" + s, "x" + s + "x", s + s, s + s + s, "xxxxxxxxxxxx" + s, s + "xxxxxxxxxxxx"} {
			want := api.OK
			if b == 0 || b == '/' || name == "." || name == ".." {
				want = api.ErrName
			}
			if slices.Contains(w.paper[d].names, name) {
				want = api.ErrThere
			}
			w.wantAdd(d, name, n, want)
		}
		w.wantOne(d)
	}
}

// P18.3: the same name twice, with all kinds of nodes there and coming; names are the same byte by byte alone.
func TestP183There(t *testing.T) {
	w := newWorld(t)
	l := append(w.leaves(), w.dir())
	for _, first := range l {
		d := w.dir()
		w.added(d, "a", first)
		for _, m := range append(l, w.dir()) {
			w.wantAdd(d, "a", m, api.ErrThere)
		}
		for _, name := range []string{"A", "a ", " a", "aa", "b"} {
			w.added(d, name, l[0])
		}
		w.wantAll()
	}
}

// P18.3: a directory holds as many as MaxNodes, and no more, until one goes.
func TestP183Full(t *testing.T) {
	w := newWorld(t)
	d := w.dir()
	l := append(w.leaves(), w.dir())
	w.fill(d, 4095)
	w.added(d, "last", w.dir())
	for _, m := range l {
		w.wantAdd(d, "more", m, api.ErrFull)
		w.wantAdd(d, "last", m, api.ErrThere)
		w.wantAdd(d, "fill7", m, api.ErrThere)
		w.wantAdd(d, "..", m, api.ErrName)
	}
	w.wantAdd(d, "more", d, api.ErrFull)
	w.wantAdd(d, "more", w.paper[d].holds[4095], api.ErrFull)
	entries, e := w.nodes[d].List()
	if e != api.OK || len(entries) != 4096 {
		t.Fatalf("%d entries, %v", len(entries), e)
	}
	w.drop(d, "fill0")
	w.added(d, "more", l[0])
	w.wantAdd(d, "fill0", l[1], api.ErrFull)
	w.take(d, "last")
	w.added(d, "last", l[4])
	w.wantAdd(d, "fill0", l[1], api.ErrFull)
	w.list(d)
	top := w.dir()
	w.added(top, "d", d)
	if l, e := w.nodes[top].List(); e != api.OK || fmt.Sprint(l) != "[{d 1 4096}]" {
		t.Errorf("%v, %v", l, e)
	}
}

// What counts is what the directory itself holds, not what lies below it.
func TestP183FullIsOfOneDirectory(t *testing.T) {
	w := newWorld(t)
	top := w.dir()
	for i := range 3 {
		w.fill(w.added(top, fmt.Sprint(i), w.dir()), 4096)
	}
	w.added(top, "more", w.file("abc"))
	w.list(top)
}

// P18.3: a directory is added neither to itself nor to what lies below it, at however many removes.
func TestP183Loop(t *testing.T) {
	for _, n := range []int{0, 1, 2, 3, 10, 62, 63, 64} {
		w := newWorld(t)
		l := w.chain(w.dir(), n)
		for i, m := range l {
			for _, d := range l[i:] {
				w.wantAdd(d, "x", m, api.ErrLoop)
			}
		}
		w.wantAll()
	}
}

// A directory that has left, or was never there, makes no loop; nor does one that lies beside.
func TestP183NoLoop(t *testing.T) {
	w := newWorld(t)
	l := w.chain(w.dir(), 5)
	w.wantAdd(l[5], "x", l[0], api.ErrLoop)
	w.take(l[2], "c")
	w.added(l[5], "x", l[0])
	w.wantAdd(l[2], "y", l[3], api.ErrLoop)
	w.wantAdd(l[0], "y", l[5], api.ErrLoop)
	w.added(l[1], "y", w.dir())
	w.wantAll()
	a, b, top := w.dir(), w.dir(), w.dir()
	w.added(top, "a", a)
	w.added(top, "b", b)
	w.take(top, "b")
	w.added(a, "b", b)
	w.wantAll()
}

// Mounts make no loop: a mount of a directory may stand in it, and below it.
func TestP183MountsMakeNoLoop(t *testing.T) {
	w := newWorld(t)
	l := w.chain(w.dir(), 3)
	for i, d := range l {
		for j, of := range l {
			w.added(d, fmt.Sprint("m", i, j), w.mount(of))
		}
	}
	a, b := w.dir(), w.dir()
	w.added(a, "m", w.mount(b))
	w.added(b, "a", a) // what is under a's mount does not lie below a
	w.wantAdd(a, "b", b, api.ErrLoop)
	w.wantAll()
}

// What holds a mount of a directory does not hold the directory: that may still stand somewhere.
func TestP183MountIsNoPlace(t *testing.T) {
	w := newWorld(t)
	a, b, d := w.dir(), w.dir(), w.dir()
	m := w.mount(d)
	w.added(a, "m", m)
	w.added(a, "again", m)
	w.added(b, "m", m)
	w.added(b, "d", d)
	w.wantAdd(a, "d", d, api.ErrThere)
	for _, name := range []string{"m", "again"} {
		w.drop(a, name)
	}
	w.take(b, "m")
	w.wantAdd(a, "d", d, api.ErrThere)
	w.wantAll()
	w.drop(b, "d")
	w.added(a, "d", d)
	w.wantAll()
}

// P18.3: a directory stands in one directory, under one name; and again behind Drop, and behind Take.
func TestP183Stands(t *testing.T) {
	w := newWorld(t)
	a, b, d := w.dir(), w.dir(), w.dir()
	w.added(a, "d", d)
	for range 3 {
		w.wantAdd(b, "d", d, api.ErrThere)
		w.wantAdd(a, "other", d, api.ErrThere)
		w.wantAdd(a, "d", d, api.ErrThere)
		w.drop(a, "d")
		w.added(b, "e", d)
		w.wantAdd(a, "d", d, api.ErrThere)
		w.wantAdd(b, "d", d, api.ErrThere)
		w.added(d, "in", w.white())
		w.take(b, "e")
		w.added(a, "d", d)
		w.wantAll()
		w.drop(d, "in")
	}
}

// P18.3: files, links, mounts and whites stand in many directories, and under many names.
func TestP183ManyPlaces(t *testing.T) {
	w := newWorld(t)
	l := w.leaves()
	top := w.dir()
	for i := range 10 {
		d := w.added(top, fmt.Sprint(i), w.dir())
		for _, m := range l {
			for j := range 5 {
				w.added(d, fmt.Sprint(m, " ", j), m)
			}
		}
	}
	w.wantAll()
	w.drop(w.paper[top].holds[3], fmt.Sprint(l[0], " ", 2))
	w.take(w.paper[top].holds[4], fmt.Sprint(l[2], " ", 0))
	w.wantAll()
}

// P18.3: each depth, beside each height, with each kind of node at the very bottom.
func TestP183Deep(t *testing.T) {
	for deep := range 65 {
		for high := range 65 {
			w := newWorld(t)
			up, down := w.chain(w.dir(), deep), w.chain(w.dir(), high)
			want := api.OK
			if deep+high+1 > 64 {
				want = api.ErrLong
			}
			w.wantAdd(up[deep], "x", down[0], want)
		}
	}
}

// What stands lowest counts, be it an empty directory or none; a mount has no height, whatever lies under it.
func TestP183HeightOfKinds(t *testing.T) {
	for deep := 58; deep <= 64; deep++ {
		for kind := range 6 {
			for high := range 5 {
				w := newWorld(t)
				tall := w.chain(w.dir(), 64)
				m := append(w.leaves(), w.dir(), w.mount(tall[0]))[kind]
				if high > 0 {
					down := w.chain(w.dir(), high-1)
					w.added(down[high-1], "x", m)
					m = down[0]
				}
				want := api.OK
				if deep+high+1 > 64 {
					want = api.ErrLong
				}
				w.wantAdd(w.chain(w.dir(), deep)[deep], "x", m, want)
			}
		}
	}
}

// Of many nodes the highest one counts, under whatever name it stands.
func TestP183HeightOfTheHighest(t *testing.T) {
	for place := range 5 {
		w := newWorld(t)
		d := w.dir()
		for i := range 5 {
			high := i
			if i == place {
				high = 30
			}
			w.added(d, fmt.Sprint(i), w.chain(w.dir(), high)[0])
		}
		up := w.chain(w.dir(), 33)
		w.wantAdd(up[33], "x", d, api.ErrLong)
		w.added(up[32], "x", d)
		w.take(up[32], "x")
		w.take(d, fmt.Sprint(place))
		w.added(up[33], "x", d)
		w.wantAll()
	}
}

// Heights and depths are those of now: they fall and rise with what comes and goes above and below.
func TestP183DepthsChange(t *testing.T) {
	w := newWorld(t)
	a, b := w.chain(w.dir(), 40), w.chain(w.dir(), 40)
	w.wantAdd(a[40], "b", b[0], api.ErrLong)
	w.wantAdd(a[24], "b", b[0], api.ErrLong)
	w.added(a[23], "b", b[0])
	w.wantAdd(b[40], "x", w.white(), api.ErrLong)
	w.added(b[39], "x", w.white())
	w.take(a[10], "c")
	w.chain(b[40], 11)
	w.wantAdd(a[10], "c", a[11], api.ErrLong)
	w.take(b[40], "c")
	w.added(a[10], "c", a[11])
	w.wantAdd(b[40], "x", w.white(), api.ErrLong)
	w.wantAll()
}

// flaw is one of the reasons for which an Add is refused, in the order of the chapter.
type flaw int

const (
	nilN flaw = 1 << iota
	nilM
	noDir
	noName
	there
	full
	loop
	stands
	long
	flaws
)

// errOf is the first error of a set of flaws.
func errOf(set flaw) api.Errno {
	l := []api.Errno{api.ErrNil, api.ErrNil, api.ErrDir, api.ErrName, api.ErrThere, api.ErrFull, api.ErrLoop, api.ErrThere, api.ErrLong}
	for i, e := range l {
		if set&(1<<i) != 0 {
			return e
		}
	}
	return api.OK
}

// flawed makes an Add with just these flaws: the directory, the name and the node.
func flawed(w *world, set flaw) (n int, name string, m int) {
	top, at := w.dir(), w.dir()
	m, deep, name := w.dir(), 0, "name"
	if set&long != 0 {
		w.added(m, "high", w.white())
		deep = 62 // n comes to lie at 63, where it may still hold something
	}
	if set&stands != 0 {
		w.added(top, "m", m)
	}
	if set&loop != 0 {
		at = m
		deep = max(0, deep-w.paper.depth(m))
	}
	n = w.added(w.chain(at, deep)[deep], "n", w.dir())
	if set&there != 0 {
		w.added(n, name, w.white())
	}
	if set&full != 0 {
		w.fill(n, 4096)
	}
	if set&noName != 0 {
		name = "no/name"
	}
	if set&noDir != 0 {
		n = w.mount(n)
	}
	if set&nilN != 0 {
		n = -1
	}
	if set&nilM != 0 {
		m = -1
	}
	return n, name, m
}

// P18.3, R5: all sets of flaws that can be (a directory holds nothing under what is no name); the first one is answered, and nothing is changed.
func TestP183Order(t *testing.T) {
	for set := range flaws {
		if set&noName != 0 && set&there != 0 {
			continue
		}
		w := newWorld(t)
		n, name, m := flawed(w, set)
		w.wantAdd(n, name, m, errOf(set))
		if set&full == 0 {
			w.wantAll()
		}
	}
}

// P18.3: a node that is no directory is neither in a loop nor anywhere already; how deep it comes to lie counts.
func TestP183OrderOfLeaves(t *testing.T) {
	w := newWorld(t)
	l := w.leaves()
	deep := w.chain(w.dir(), 64)
	for _, m := range l {
		w.wantAdd(deep[64], "x", m, api.ErrLong)
		w.wantAdd(deep[64], "..", m, api.ErrName)
		w.added(deep[63], fmt.Sprint(m), m)
		w.wantAdd(deep[63], fmt.Sprint(m), m, api.ErrThere)
		w.wantAdd(deep[63], "c", m, api.ErrThere)
		w.wantAdd(deep[64], "", -1, api.ErrNil)
		w.wantAdd(m, "x", deep[0], api.ErrDir)
	}
	w.fill(deep[63], 4096)
	for _, m := range l {
		w.wantAdd(deep[63], "more", m, api.ErrFull)
	}
}
