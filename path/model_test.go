package path_test

import (
	"strings"
	"testing"

	"mantle/api"
	"mantle/memory"
	"mantle/node"
	"mantle/path"
)

// sheet is a node on paper, beside the one that stands for it.
type sheet struct {
	kind  int8
	to    string // of a link
	under *sheet // of a mount
	holds map[string]*sheet
	node  *node.Node
}

func dirSheet() *sheet {
	return &sheet{kind: api.NodeDir, holds: map[string]*sheet{}, node: node.Dir()}
}

func whiteSheet() *sheet { return &sheet{kind: api.NodeWhite, node: node.White()} }

func fileSheet(t *testing.T) *sheet {
	t.Helper()
	h, e := memory.New([]byte("x"), 15)
	if e != api.OK {
		t.Fatal(e)
	}
	return &sheet{kind: api.NodeFile, node: node.File(h)}
}

func linkSheet(t *testing.T, to string) *sheet {
	t.Helper()
	n, e := node.Link(to)
	if e != api.OK {
		t.Fatalf("Link(%.20q) answers %v", to, e)
	}
	return &sheet{kind: api.NodeLink, to: to, node: n}
}

func mountSheet(t *testing.T, of *sheet) *sheet {
	t.Helper()
	n, e := node.Mount(of.node)
	if e != api.OK {
		t.Fatal(e)
	}
	return &sheet{kind: api.NodeMount, under: of, node: n}
}

// hold puts m into s, on paper and beside it: m.
func (s *sheet) hold(t *testing.T, name string, m *sheet) *sheet {
	t.Helper()
	if e := s.node.Add(name, m.node); e != api.OK {
		t.Fatalf("Add(%.20q) answers %v", name, e)
	}
	s.holds[name] = m
	return m
}

// dir, file, link, mount and white put a new one into s.
func (s *sheet) dir(t *testing.T, name string) *sheet { return s.hold(t, name, dirSheet()) }

func (s *sheet) file(t *testing.T, name string) *sheet { return s.hold(t, name, fileSheet(t)) }

func (s *sheet) link(t *testing.T, name, to string) *sheet {
	return s.hold(t, name, linkSheet(t, to))
}

func (s *sheet) mount(t *testing.T, name string, of *sheet) *sheet {
	return s.hold(t, name, mountSheet(t, of))
}

func (s *sheet) white(t *testing.T, name string) *sheet { return s.hold(t, name, whiteSheet()) }

// wantStands holds that the nodes are what the paper says: no call has changed them.
func (s *sheet) wantStands(t *testing.T) {
	t.Helper()
	l, e := s.node.List()
	if e != api.OK || len(l) != len(s.holds) {
		t.Errorf("a directory of %d names tells %v, %v", len(s.holds), l, e)
	}
	for name, m := range s.holds {
		n, e := s.node.Get(name)
		if n != m.node || e != api.OK {
			t.Errorf("%q is another node, %v", name, e)
		}
		to, _ := n.Leads()
		under, _ := n.Under()
		if n.Kind() != m.kind || to != m.to || m.under != nil && under != m.under.node {
			t.Errorf("%q is changed", name)
		}
		if m.kind == api.NodeDir {
			m.wantStands(t)
		}
	}
}

// isName is the chapter's word, byte by byte.
func isName(s string) bool {
	for i := range len(s) {
		if s[i] == 0 || s[i] == '/' {
			return false
		}
	}
	return len(s) >= 1 && len(s) <= 64 && s != "." && s != ".."
}

// paperParts is the chapter's word, byte by byte.
func paperParts(p string) (l []string) {
	part := ""
	for i := 0; i <= len(p); i++ {
		if i < len(p) && p[i] != '/' {
			part += p[i : i+1]
			continue
		}
		if part != "" && part != "." {
			l = append(l, part)
		}
		part = ""
	}
	return l
}

// paperClean is P20.2, word for word.
func paperClean(p string) (string, api.Errno) {
	if len(p) > 4096 {
		return "", api.ErrLong
	}
	parts := paperParts(p)
	for _, x := range parts {
		if x != ".." && !isName(x) {
			return "", api.ErrName
		}
	}
	var left []string
	for _, x := range parts {
		if x != ".." {
			left = append(left, x)
		} else if len(left) > 0 {
			left = left[:len(left)-1]
		}
	}
	return strings.Join(left, "/"), api.OK
}

// paperWalk is a walk on paper: where a link leads is a walk within the walk.
type paperWalk struct {
	row   []*sheet
	names []string // of the row, but the root
	at    *sheet
	leaf  string // the name of what it stands at, if that is none of the row
	links int
}

func (w *paperWalk) over(parts []string, follow bool) api.Errno {
	for i, x := range parts {
		if e := w.part(x, follow || i+1 < len(parts)); e != api.OK {
			return e
		}
	}
	return api.OK
}

func (w *paperWalk) part(x string, follow bool) api.Errno {
	if w.at.kind != api.NodeDir {
		return api.ErrDir
	}
	if x == ".." {
		if len(w.names) > 0 {
			w.row, w.names = w.row[:len(w.row)-1], w.names[:len(w.names)-1]
		}
		w.at = w.row[len(w.row)-1]
		return api.OK
	}
	if !isName(x) {
		return api.ErrName
	}
	n := w.at.holds[x]
	if n == nil || n.kind == api.NodeWhite {
		return api.ErrNone
	}
	if n.kind == api.NodeMount {
		n = n.under
	}
	if n.kind == api.NodeLink && follow {
		return w.followed(n.to)
	}
	w.at, w.leaf = n, x
	if n.kind == api.NodeDir {
		w.row, w.names, w.leaf = append(w.row, n), append(w.names, x), ""
	}
	return api.OK
}

func (w *paperWalk) followed(to string) api.Errno {
	if w.links == 16 {
		return api.ErrLoop
	}
	w.links++
	if to[0] == '/' {
		w.row, w.names = w.row[:1], nil
		w.at = w.row[0]
	}
	return w.over(paperParts(to), true)
}

// first is the first three errors of Walk, on paper.
func first(root *sheet, p string) api.Errno {
	switch {
	case root == nil:
		return api.ErrNil
	case root.kind != api.NodeDir:
		return api.ErrDir
	case len(p) > 4096:
		return api.ErrLong
	}
	return api.OK
}

// walked is P20.3 on paper; with the walk, for what else is asked of it.
func walked(root *sheet, p string, follow bool) (*paperWalk, api.Errno) {
	if e := first(root, p); e != api.OK {
		return nil, e
	}
	w := &paperWalk{row: []*sheet{root}, at: root}
	return w, w.over(paperParts(p), follow)
}

// paperPlace is P20.4, word for word.
func paperPlace(root *sheet, p string) (*sheet, string, api.Errno) {
	if e := first(root, p); e != api.OK {
		return nil, "", e
	}
	parts := paperParts(p)
	if len(parts) == 0 || !isName(parts[len(parts)-1]) {
		return nil, "", api.ErrName
	}
	w := &paperWalk{row: []*sheet{root}, at: root}
	if e := w.over(parts[:len(parts)-1], true); e != api.OK {
		return nil, "", e
	}
	if w.at.kind != api.NodeDir {
		return nil, "", api.ErrDir
	}
	return w.at, parts[len(parts)-1], api.OK
}

// paperReal is P20.5, word for word.
func paperReal(root *sheet, p string) (string, api.Errno) {
	w, e := walked(root, p, true)
	if e != api.OK {
		return "", e
	}
	names := w.names
	if w.leaf != "" {
		names = append(names, w.leaf)
	}
	if s := strings.Join(names, "/"); len(s) <= 4096 {
		return s, api.OK
	}
	return "", api.ErrLong
}

// nodeOf is the node of a sheet; none of none.
func nodeOf(s *sheet) *node.Node {
	if s == nil {
		return nil
	}
	return s.node
}

// wantWalk holds Walk against the paper.
func wantWalk(t *testing.T, root *sheet, p string, follow bool) api.Errno {
	t.Helper()
	w, e := walked(root, p, follow)
	var want *sheet
	if e == api.OK {
		want = w.at
	}
	if n, got := path.Walk(nodeOf(root), p, follow); n != nodeOf(want) || got != e {
		t.Errorf("Walk(%.60q, %v) answers a node of kind %d, %v, want %v", p, follow, n.Kind(), got, e)
	}
	return e
}

// wantPlace holds Place against the paper.
func wantPlace(t *testing.T, root *sheet, p string) api.Errno {
	t.Helper()
	dir, name, e := paperPlace(root, p)
	if n, s, got := path.Place(nodeOf(root), p); n != nodeOf(dir) || s != name || got != e {
		t.Errorf("Place(%.60q) answers a node of kind %d, %.60q, %v, want %.60q, %v", p, n.Kind(), s, got, name, e)
	}
	return e
}

// wantReal holds Real against the paper.
func wantReal(t *testing.T, root *sheet, p string) api.Errno {
	t.Helper()
	want, e := paperReal(root, p)
	if s, got := path.Real(nodeOf(root), p); s != want || got != e {
		t.Errorf("Real(%.60q) answers %.60q, %v, want %.60q, %v", p, s, got, want, e)
	}
	return e
}

// wantClean holds Clean against the paper.
func wantClean(t *testing.T, p string) api.Errno {
	t.Helper()
	want, e := paperClean(p)
	if s, got := path.Clean(p); s != want || got != e {
		t.Errorf("Clean(%.60q) answers %.60q, %v, want %.60q, %v", p, s, got, want, e)
	}
	return e
}

// wantAll holds all that is told of a path against the paper.
func wantAll(t *testing.T, root *sheet, p string) {
	t.Helper()
	wantWalk(t, root, p, true)
	wantWalk(t, root, p, false)
	wantPlace(t, root, p)
	wantReal(t, root, p)
	wantClean(t, p)
}

// leads is a walk that the test tells itself: to a sheet with follow, to another one without, and what Real tells. It is held against the paper, too.
func leads(t *testing.T, root *sheet, p string, follow, not *sheet, real string) {
	t.Helper()
	if n, e := path.Walk(root.node, p, true); n != follow.node || e != api.OK {
		t.Errorf("Walk(%.60q) answers a node of kind %d, %v", p, n.Kind(), e)
	}
	if n, e := path.Walk(root.node, p, false); n != not.node || e != api.OK {
		t.Errorf("Walk(%.60q) without follow answers a node of kind %d, %v", p, n.Kind(), e)
	}
	if s, e := path.Real(root.node, p); s != real || e != api.OK {
		t.Errorf("Real(%.60q) answers %.60q, %v, want %.60q", p, s, e, real)
	}
	wantAll(t, root, p)
}

// fails is a walk with follow whose error the test tells itself: Real's is the same. It is held against the paper, too.
func fails(t *testing.T, root *sheet, p string, want api.Errno) {
	t.Helper()
	if n, e := path.Walk(nodeOf(root), p, true); n != nil || e != want {
		t.Errorf("Walk(%.60q) answers %v, %v, want %v", p, n != nil, e, want)
	}
	if s, e := path.Real(nodeOf(root), p); s != "" || e != want {
		t.Errorf("Real(%.60q) answers %.60q, %v, want %v", p, s, e, want)
	}
	wantAll(t, root, p)
}

// failsBoth is one that fails without follow, too.
func failsBoth(t *testing.T, root *sheet, p string, want api.Errno) {
	t.Helper()
	fails(t, root, p, want)
	if n, e := path.Walk(nodeOf(root), p, false); n != nil || e != want {
		t.Errorf("Walk(%.60q) without follow answers %v, %v, want %v", p, n != nil, e, want)
	}
}

// chance tells numbers that are the same at each run.
type chance uint64

func (c *chance) below(n int) int {
	*c = *c*6364136223846793005 + 1442695040888963407
	return int(uint64(*c) >> 33 % uint64(n))
}
