package overlay_test

import (
	"maps"
	"slices"
	"strings"
	"testing"

	"mantle/api"
	"mantle/node"
)

// plain is a plain list of items, by paths: P24.6's other side. It knows of no layers and of no whites.
type plain map[string]thing

// flattened is what an overlay on paper tells.
func flattened(m *paper) plain {
	l := plain{}
	for _, p := range m.paths() {
		if x, ok := stands(m.layers, p); ok {
			l[p] = x
		}
	}
	return l
}

func (l plain) in(p string) (n int) {
	for q := range l {
		if parentOf(q) == p {
			n++
		}
	}
	return n
}

// do makes of the list what an act makes of it; what node.Add may refuse is not known here.
func (l plain) do(a act) api.Errno {
	p := a.item.Path
	was, there := l[p]
	over := l[parentOf(p)]
	_, has := l[parentOf(p)]
	switch {
	case a.do == doPut && (a.item.Kind < 0 || a.item.Kind > 2):
		return api.ErrArg
	case !isPath(p) || p == "" && a.do != doWrite:
		return api.ErrName
	case p == "":
		return api.ErrDir
	case a.do != doPut && !there:
		return api.ErrNone
	case a.do == doDrop && l.in(p) > 0:
		return api.ErrEmpty
	case a.do == doDrop:
		delete(l, p)
		return api.OK
	case a.do == doWrite && was.kind != api.NodeFile:
		return api.ErrDir
	case a.do == doWrite:
		return l.write(p, a)
	case parentOf(p) != "" && !has:
		return api.ErrNone
	case parentOf(p) != "" && over.kind != api.NodeDir:
		return api.ErrDir
	case there && a.item.Kind == api.NodeDir:
		return api.ErrThere
	case there && (was.kind == api.NodeDir || was.kind == api.NodeMount):
		return api.ErrDir
	case a.item.Kind == api.NodeLink && len(a.item.Data) == 0:
		return api.ErrName
	}
	l[p] = thing{kind: a.item.Kind, data: string(a.item.Data)}
	if a.item.Kind == api.NodeDir {
		l[p] = dir()
	}
	return api.OK
}

func (l plain) write(p string, a act) api.Errno {
	data, e := laid(l[p].data, a.at, a.b)
	if e == api.OK {
		l[p] = file(data)
	}
	return e
}

// wantPlain holds that Items are the list, and that Get and List of all its paths, and of some others, agree with it.
func (x *both) wantPlain(t *testing.T, l plain) {
	t.Helper()
	var want []api.Item
	for _, p := range slices.Sorted(maps.Keys(l)) {
		i, _ := l[p].item(p)
		want = append(want, i)
		got, e := x.o.Get(p)
		if e != api.OK || !sameItem(got, i) {
			t.Fatalf("Get(%q) answers %v, %v, want %v", p, got, e, i)
		}
		es, e := x.o.List(p)
		if isDir := i.Kind == api.NodeDir; isDir != (e == api.OK) || len(es) != l.in(p) {
			t.Fatalf("List(%q) answers %v, %v", p, es, e)
		}
		if _, none := x.o.Get(p + "/~"); none != api.ErrNone {
			t.Fatalf("Get of %q's ~ answers %v", p, none)
		}
	}
	got, e := x.o.Items()
	if e != api.OK || !slices.EqualFunc(got, want, sameItem) {
		t.Fatalf("Items are %s %v, want %s, over %s", itemsText(got), e, itemsText(want), x.text())
	}
}

// names are few, so that much meets.
func names() []string { return []string{"a", "b", "a.b", "c"} }

// path is one that may be anything's.
func (c *chance) path() string {
	p := pick(c, names())
	for c.below(3) > 0 {
		p += "/" + pick(c, names())
	}
	return p
}

// thing is one of any kind that a tree may hold.
func (c *chance) thing() thing {
	switch c.below(12) {
	case 0, 1, 2:
		return file(strings.Repeat("f", c.below(4)))
	case 3, 4, 5, 6, 7:
		return dir()
	case 8:
		return link(pick(c, names()))
	case 9:
		return mount()
	}
	return white()
}

// sheet is a tree with whites.
func (c *chance) sheet(n int) sheet {
	s := sheet{}
	for range n {
		p := c.path()
		_, holds := s[p]
		if in := s[parentOf(p)]; !holds && (parentOf(p) == "" || in.kind == api.NodeDir) {
			s[p] = c.thing()
		}
	}
	return s
}

// both is an overlay of any trees.
func (c *chance) both(t *testing.T) *both {
	var lower []sheet
	for range c.below(5) {
		lower = append(lower, c.sheet(5+c.below(40)))
	}
	return bothOf(t, c.sheet(c.below(20)), lower...)
}

// act is any call, mostly one that may be OK.
func (c *chance) act() act {
	p := c.path()
	if c.below(40) == 0 {
		p = pick(c, []string{"", "/", "a/", "..", "a//b"})
	}
	switch c.below(8) {
	case 0, 1:
		return put(p, file(strings.Repeat("n", c.below(4))))
	case 2:
		return put(p, dir())
	case 3:
		return put(p, link(pick(c, append(names(), ""))))
	case 4:
		return write(p, int64(c.below(6)-1), strings.Repeat("w", c.below(3)))
	case 5:
		if c.below(4) == 0 {
			return put(p, pick(c, []thing{mount(), white(), {kind: -1}, {kind: 7}}))
		}
	}
	return drop(p)
}

// P24.6: through any calls an overlay is what they make of a plain list, and the lower layers stay as they were.
func TestP246(t *testing.T) {
	c := chance(246)
	for range 400 {
		x := c.both(t)
		l := flattened(x.paper)
		x.wantPlain(t, l)
		for i := range 60 {
			a := c.act()
			want := l.do(a)
			if e := x.do(t, a); e != want {
				t.Fatalf("%s answers %v, of a plain list %v, over %s", a.text(), e, want, x.text())
			}
			if i%6 == 0 {
				x.wantPlain(t, l)
			}
		}
		x.wantPlain(t, l)
		x.wantSame(t)
	}
}

// P24.6: what the upper tree has by then is an overlay's lower layer, and of another one's upper tree: all tell the same.
func TestP246Again(t *testing.T) {
	c := chance(1246)
	for range 200 {
		x := c.both(t)
		l := flattened(x.paper)
		for range 40 {
			if a := c.act(); x.do(t, a) == api.OK {
				l.do(a)
			}
		}
		y := &both{upper: node.Dir(), lower: append([]*node.Node{x.upper}, x.lower...), paper: paperOf(sheet{}, x.paper.layers...)}
		y.o = overlaid(t, y.upper, y.lower...)
		y.wantPlain(t, l)
		for range 40 {
			a := c.act()
			l.do(a)
			y.do(t, a)
		}
		y.wantPlain(t, l)
		y.wantSame(t)
	}
}

// P24.7: a Drop and a Put of the same item behind it leave Items as they were.
func TestP247(t *testing.T) {
	c := chance(247)
	for range 400 {
		x := c.both(t)
		for range c.below(20) {
			x.do(t, c.act())
		}
		was, e := x.o.Items()
		if e != api.OK {
			t.Fatal(e)
		}
		for _, i := range was {
			if i.Kind == api.NodeMount || x.do(t, drop(i.Path)) != api.OK {
				continue
			}
			if e := x.do(t, act{do: doPut, item: i}); e != api.OK {
				t.Fatalf("Put of %.90q again answers %v", i.Path, e)
			}
			if l, e := x.o.Items(); e != api.OK || !slices.EqualFunc(l, was, sameItem) {
				t.Fatalf("Items are %s %v, were %s", itemsText(l), e, itemsText(was))
			}
		}
		x.wantSame(t)
	}
}

// P24.7: what is refused has changed nothing, in no tree.
func TestP247Refused(t *testing.T) {
	c := chance(1247)
	refused := map[api.Errno]int{}
	for range 150 {
		x := c.both(t)
		for range 60 {
			was := told(t, x.upper)
			a := c.act()
			e := x.do(t, a)
			if e == api.OK {
				continue
			}
			refused[e]++
			if got := told(t, x.upper); got != was {
				t.Fatalf("%s is refused, and changed\n%s\nto\n%s", a.text(), was, got)
			}
		}
		x.wantSame(t)
	}
	for _, e := range []api.Errno{api.ErrArg, api.ErrName, api.ErrThere, api.ErrNone, api.ErrDir, api.ErrEmpty} {
		if refused[e] == 0 {
			t.Errorf("nothing was refused by %v", e)
		}
	}
}

// P24.6: files that refuse to be read, here and there, between any calls.
func TestP246Broken(t *testing.T) {
	c := chance(2246)
	for range 200 {
		var l []sheet
		for range 2 + c.below(3) {
			s := c.sheet(30)
			for _, p := range slices.Sorted(maps.Keys(s)) {
				if s[p].kind == api.NodeFile && c.below(2) == 0 {
					s[p] = pick(&c, []thing{broken(c.below(3), 77), broken(1, api.ErrNone), {data: "only", only: true}})
				}
			}
			l = append(l, s)
		}
		x := bothOf(t, l[0], l[1:]...)
		for range 30 {
			x.do(t, c.act())
		}
		x.wantSame(t)
	}
}
