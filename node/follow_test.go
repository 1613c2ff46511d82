package node_test

import (
	"fmt"
	"strings"
	"sync"
	"testing"

	"mantle/api"
	"mantle/node"
)

// walk is P18.5, by the answers alone: what is below n, each directory once, in all that are gone over.
type walk struct {
	t    *testing.T
	met  map[*node.Node]string
	seen int
}

// below goes over all that lies below a directory at that depth.
func (k *walk) below(n *node.Node, path string, deep int) {
	k.t.Helper()
	if deep > 64 {
		k.t.Fatalf("%q is %d deep", path, deep)
	}
	l, e := n.List()
	if n.Kind() != api.NodeDir {
		if e != api.ErrDir {
			k.t.Errorf("List at %q answers %v", path, e)
		}
		return
	}
	if at, ok := k.met[n]; ok {
		k.t.Fatalf("a directory stands at %q, and at %q", at, path)
	}
	k.met[n] = path
	for _, x := range l {
		m, e := n.Get(x.Name)
		if e != api.OK || m.Kind() != x.Kind {
			k.t.Errorf("%q is listed as %v, and Get answers one of kind %d, %v", path, x, m.Kind(), e)
		}
		k.seen++
		k.below(m, path+"/"+x.Name, deep+1)
	}
}

// wantTree is P18.5 of all nodes: from each directory that stands nowhere down, all are met, and none twice.
func (w *world) wantTree() {
	w.t.Helper()
	k := &walk{t: w.t, met: map[*node.Node]string{}}
	dirs := 0
	for i, n := range w.nodes {
		if n.Kind() != api.NodeDir {
			continue
		}
		dirs++
		if len(w.paper.in(i)) == 0 {
			k.below(n, fmt.Sprint(i), 0)
		}
	}
	if len(k.met) != dirs {
		w.t.Errorf("%d directories were met, there are %d", len(k.met), dirs)
	}
}

// name is mostly one of a few, so that they meet; sometimes it is none.
func (c *chance) name() string {
	if c.below(12) == 0 {
		l := absent()
		return l[c.below(len(l))]
	}
	return string(rune('a' + c.below(6)))
}

// some is a number of a node, or nil.
func (c *chance) some(w *world) int { return c.below(len(w.nodes)+1) - 1 }

// dir is mostly a directory, so that most calls reach one.
func (c *chance) dir(w *world) int {
	n := c.some(w)
	for range 4 {
		if n >= 0 && w.paper.isDir(n) {
			break
		}
		n = c.some(w)
	}
	return n
}

// make makes a node of any kind.
func (c *chance) make(w *world) {
	switch c.below(8) {
	case 0:
		w.file(strings.Repeat("b", c.below(9)))
	case 1:
		w.link(strings.Repeat("l", c.below(9)+1))
	case 2:
		w.white()
	case 3:
		n := c.dir(w)
		if n >= 0 && (w.paper.isDir(n) || w.paper[n].kind == api.NodeMount) {
			w.mount(n)
		}
	default:
		w.dir()
	}
}

// call does one call of any kind, and tells the error; OK of one that made a node.
func (c *chance) call(w *world) api.Errno {
	n, name := c.dir(w), c.name()
	switch c.below(9) {
	case 0:
		if len(w.nodes) < 40 {
			c.make(w)
		}
	case 1, 2:
		return w.drop(n, name)
	case 3:
		_, e := w.take(n, name)
		return e
	case 4:
		if m := c.some(w); m >= 0 && w.paper[m].kind == api.NodeFile {
			w.paper[m].file.Do(api.Op{Do: api.DoCut, At: int64(c.below(99))})
		}
	default:
		m := c.some(w)
		if c.below(2) == 0 {
			m = c.dir(w)
		}
		return w.add(n, name, m)
	}
	return api.OK
}

// P18.5, P18.6: any mixture of calls; behind each of them all is as it is on paper, so what was refused has changed nothing.
func TestP185AnyMixture(t *testing.T) {
	told := map[api.Errno]int{}
	for seed := range chance(150) {
		c := seed
		w := newWorld(t)
		for range 6 {
			c.make(w)
		}
		for range 200 {
			told[c.call(w)]++
			w.wantAll()
			w.wantTree()
			if t.Failed() {
				t.Fatalf("seed %d", seed)
			}
		}
	}
	for _, e := range []api.Errno{api.OK, api.ErrNil, api.ErrName, api.ErrThere, api.ErrNone, api.ErrDir, api.ErrEmpty, api.ErrLoop} {
		if told[e] == 0 {
			t.Errorf("no call was answered %v", e)
		}
	}
}

// P18.5: deep trees, put together of long chains that come and go: nothing gets deeper than MaxDepth.
func TestP185Deep(t *testing.T) {
	told := map[api.Errno]int{}
	for seed := range chance(60) {
		c := seed
		w := newWorld(t)
		var tops, dirs []int
		for range 8 {
			l := w.chain(w.dir(), 5+c.below(30))
			tops, dirs = append(tops, l[0]), append(dirs, l...)
		}
		some := func(l []int) int { return l[c.below(len(l))] }
		for range 120 {
			switch n := some(dirs); c.below(8) {
			case 0:
				if m, e := w.take(n, "c"); e == api.OK {
					tops = append(tops, m)
				}
			case 1, 2:
				w.take(n, "x")
			default:
				told[w.add(n, "x", some(tops))]++
			}
			if t.Failed() {
				t.Fatalf("seed %d", seed)
			}
		}
		w.wantAll()
		w.wantTree()
	}
	for _, e := range []api.Errno{api.OK, api.ErrLoop, api.ErrThere, api.ErrLong} {
		if told[e] < 20 {
			t.Errorf("%d calls were answered %v", told[e], e)
		}
	}
}

// P18.6: whatever is taken out of a tree and put back where it was leaves the tree as it was.
func TestP186ThereAndBack(t *testing.T) {
	for seed := range chance(40) {
		c := seed
		w := newWorld(t)
		for range 150 {
			c.call(w)
		}
		for n := range w.paper {
			for _, name := range append([]string(nil), w.paper[n].names...) {
				m, _ := w.take(n, name)
				w.wantTree()
				w.added(n, name, m)
				if w.drop(n, name) == api.OK {
					w.added(n, name, m)
				}
			}
		}
		w.wantAll()
		w.wantTree()
	}
}

// R2: two worlds to which the same is done tell the same, and one is nothing to the other.
func TestWorldsApart(t *testing.T) {
	for seed := range chance(20) {
		a, b := newWorld(t), newWorld(t)
		one, two, other := seed, seed, seed+1000
		aside := newWorld(t)
		for range 150 {
			one.call(a)
			other.call(aside)
		}
		for range 150 {
			two.call(b)
		}
		for i := range a.nodes {
			x, e := a.nodes[i].List()
			y, f := b.nodes[i].List()
			if fmt.Sprint(x) != fmt.Sprint(y) || e != f {
				t.Errorf("seed %d: %v, %v and %v, %v", seed, x, e, y, f)
			}
		}
	}
}

// R2: nodes that several goroutines ask at a time answer as for one.
func TestManyAskAtATime(t *testing.T) {
	w := newWorld(t)
	c := chance(3)
	for range 300 {
		c.call(w)
	}
	var all sync.WaitGroup
	for range 8 {
		all.Go(func() {
			for range 20 {
				w.wantAll()
			}
		})
	}
	all.Wait()
}
