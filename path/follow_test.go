package path_test

import (
	"strings"
	"testing"

	"mantle/api"
	"mantle/path"
)

// piece is what stands between two strokes of a path: mostly one of a few names, so that they meet.
func (c *chance) piece() string {
	l := []string{"a", "b", "c", "a", "b", "c", "..", "..", ".", "", "d", "no", "...", "\x00", strings.Repeat("n", 64), strings.Repeat("n", 65)}
	if c.below(4) > 0 {
		return l[c.below(8)]
	}
	return l[c.below(len(l))]
}

// path is one of some pieces.
func (c *chance) path(most int) string {
	l := make([]string, c.below(most)+1)
	for i := range l {
		l[i] = c.piece()
	}
	return strings.Join(l, "/")
}

// leads is where a link leads: with a stroke ahead, or without.
func (c *chance) leads() string {
	to := c.path(4)
	if c.below(3) == 0 {
		to = "/" + to
	}
	if to == "" {
		to = "."
	}
	return to
}

// tree is one of all kinds of nodes; links lead anywhere, mounts have any of its directories under them, nodes stand twice.
func (c *chance) tree(t *testing.T, most int) *sheet {
	t.Helper()
	root := dirSheet()
	dirs, leaves := []*sheet{root}, []*sheet{fileSheet(t)}
	for range c.below(most) + 1 {
		d, name := dirs[c.below(len(dirs))], []string{"a", "b", "c", "d", "...", strings.Repeat("n", 64)}[c.below(6)]
		if d.holds[name] != nil {
			continue
		}
		m := dirSheet()
		switch k := c.below(12); {
		case k < 4:
			m = linkSheet(t, c.leads())
		case k == 4:
			m = mountSheet(t, dirs[c.below(len(dirs))])
		case k == 5:
			m = whiteSheet()
		case k == 6:
			m = fileSheet(t)
		case k == 7:
			m = leaves[c.below(len(leaves))]
		}
		if m.kind == api.NodeDir {
			dirs = append(dirs, m)
		} else {
			leaves = append(leaves, m)
		}
		d.hold(t, name, m)
	}
	return root
}

// wantP206 holds the promise by the program's own calls, in the chapter's words; it tells Real's error.
func wantP206(t *testing.T, root *sheet, p string) api.Errno {
	t.Helper()
	s, e := path.Real(root.node, p)
	n, walkE := path.Walk(root.node, p, true)
	if e != walkE && !(e == api.ErrLong && walkE == api.OK) {
		t.Errorf("Real(%.60q) answers %v, Walk %v", p, e, walkE)
	}
	if e != api.OK {
		return e
	}
	for _, follow := range []bool{true, false} {
		if m, e := path.Walk(root.node, s, follow); m != n || e != api.OK {
			t.Errorf("Walk(%.60q, %v) of Real(%.60q) answers a node of kind %d, %v", s, follow, p, m.Kind(), e)
		}
	}
	if again, e := path.Clean(s); again != s || e != api.OK {
		t.Errorf("Clean of Real(%.60q) answers %.60q, %v, want %.60q", p, again, e, s)
	}
	if again, e := path.Real(root.node, s); again != s || e != api.OK {
		t.Errorf("Real of Real(%.60q) answers %.60q, %v, want %.60q", p, again, e, s)
	}
	if w, _ := walked(root, p, true); w.links == 0 {
		if c, e := path.Clean(p); c != s || e != api.OK {
			t.Errorf("no link is met, Real(%.60q) is %.60q and Clean %.60q, %v", p, s, c, e)
		}
	}
	return api.OK
}

// wantP207 holds the promise by the program's own calls, in the chapter's words; it tells Place's error, and the kind of what stands there.
func wantP207(t *testing.T, root *sheet, p string) (api.Errno, int8) {
	t.Helper()
	if c, e := path.Clean(p); e == api.OK {
		if again, e := path.Clean(c); again != c || e != api.OK {
			t.Errorf("Clean of Clean(%.60q) answers %.60q, %v, want %.60q", p, again, e, c)
		}
	}
	dir, name, e := path.Place(root.node, p)
	if e != api.OK {
		return e, -1
	}
	m, _ := dir.Get(name)
	n, walkE := path.Walk(root.node, p, false)
	switch m.Kind() {
	case -1, api.NodeWhite:
		if n != nil || walkE != api.ErrNone {
			t.Errorf("nothing stands at Place(%.60q), and Walk answers %v, %v", p, n != nil, walkE)
		}
	case api.NodeMount:
		if under, _ := m.Under(); n != under || walkE != api.OK {
			t.Errorf("a mount stands at Place(%.60q), and Walk answers a node of kind %d, %v", p, n.Kind(), walkE)
		}
	default:
		if n != m || walkE != api.OK {
			t.Errorf("at Place(%.60q) stands a node of kind %d, and Walk answers one of kind %d, %v", p, m.Kind(), n.Kind(), walkE)
		}
	}
	return e, m.Kind()
}

// P20.6 and P20.7, and all that P20.2 to P20.5 tell: any trees, any paths.
func TestP206P207Any(t *testing.T) {
	real, place, kinds := map[api.Errno]int{}, map[api.Errno]int{}, map[int8]int{}
	for seed := range chance(1500) {
		c := seed
		root := c.tree(t, 50)
		for range 40 {
			p := c.path(9)
			real[wantP206(t, root, p)]++
			e, kind := wantP207(t, root, p)
			place[e]++
			kinds[kind]++
			wantAll(t, root, p)
		}
		root.wantStands(t)
		if t.Failed() {
			t.Fatalf("seed %d", seed)
		}
	}
	for _, e := range []api.Errno{api.OK, api.ErrName, api.ErrNone, api.ErrDir, api.ErrLoop} {
		if real[e] < 100 || place[e] < 100 {
			t.Errorf("%v was told %d times by Real, %d times by Place", e, real[e], place[e])
		}
	}
	for kind := int8(-1); kind <= api.NodeWhite; kind++ {
		if kinds[kind] < 100 {
			t.Errorf("at the place stood a node of kind %d %d times", kind, kinds[kind])
		}
	}
}

// P20.6 and P20.7: all paths of up to four parts over the grove.
func TestP206P207AllShort(t *testing.T) {
	root, _ := grove(t)
	parts := []string{"a", "f", "b", "l", "up", "abs", "m", "mb", "z", "w", "far", "al", "r", "..", "no", "\x00"}
	var all func(p string, more int)
	all = func(p string, more int) {
		wantP206(t, root, p)
		wantP207(t, root, p)
		wantAll(t, root, p)
		for _, x := range parts {
			if more > 0 && !t.Failed() {
				all(p+"/"+x, more-1)
			}
		}
	}
	all("", 4)
	root.wantStands(t)
}

// P20.6: links that lead around, and rows longer than a path.
func TestP206Long(t *testing.T) {
	root := dirSheet()
	d := root.dir(t, strings.Repeat("d", 64))
	d.mount(t, "m", root)
	d.file(t, "f")
	name := strings.Repeat("d", 64)
	root.link(t, "l", strings.Repeat(name+"/m/", 60))
	root.link(t, "back", "/l")
	told := map[api.Errno]int{}
	for _, p := range []string{"l", "l/l", "l/" + name, "l/" + name + "/f", "l/" + name + "/m", "l/" + name + "/m/" + name + "/m", "l/l/back", "l/l/../..", "l/back/l", "back/" + name + "/f", "l/" + name + "/m/" + name, "l/" + name + "/m/" + name + "/f", strings.Repeat("l/", 16), strings.Repeat("l/", 17)} {
		told[wantP206(t, root, p)]++
		wantP207(t, root, p)
		wantAll(t, root, p)
	}
	if told[api.OK] < 4 || told[api.ErrLong] < 4 || told[api.ErrLoop] < 1 {
		t.Error(told)
	}
}

// P20.7: Clean of Clean, of paths as long as can be.
func TestP207LongClean(t *testing.T) {
	for seed := range chance(300) {
		c := seed
		p := ""
		for len(p) < 4000 {
			p += []string{"a", "b", "ab", "..", ".", "", "...", strings.Repeat("n", 64)}[c.below(8)] + "/"
		}
		p += strings.Repeat("x", min(60, 4096-len(p)))
		s, e := path.Clean(p)
		again, againE := path.Clean(s)
		if e != api.OK || againE != api.OK || again != s || !strings.HasSuffix(s, "x") {
			t.Errorf("Clean answers %d bytes, %v, and of that %d bytes, %v", len(s), e, len(again), againE)
		}
		wantClean(t, p)
	}
}
