package tree_test

import (
	"bytes"
	"fmt"
	"slices"
	"sort"
	"strings"
	"testing"

	"mantle/api"
	"mantle/face"
	"mantle/memory"
	"mantle/node"
	"mantle/tree"
)

func dir(path string) api.Item { return api.Item{Path: path, Kind: api.NodeDir} }

func file(path, b string) api.Item {
	return api.Item{Path: path, Kind: api.NodeFile, Data: []byte(b)}
}

func link(path, to string) api.Item {
	return api.Item{Path: path, Kind: api.NodeLink, Data: []byte(to)}
}

// ahead is the chapter's order: byte by byte, and the shorter one first.
func ahead(a, b string) bool {
	for i := range min(len(a), len(b)) {
		if a[i] != b[i] {
			return a[i] < b[i]
		}
	}
	return len(a) < len(b)
}

// inOrder is a copy of a list, in the chapter's order.
func inOrder(l []api.Item) []api.Item {
	l = slices.Clone(l)
	sort.SliceStable(l, func(i, j int) bool { return ahead(l[i].Path, l[j].Path) })
	return l
}

// isName is chapter 18's word, byte by byte.
func isName(s string) bool {
	for i := range len(s) {
		if s[i] == 0 || s[i] == '/' {
			return false
		}
	}
	return len(s) >= 1 && len(s) <= 64 && s != "." && s != ".."
}

// namesOf are what stands between the strokes of a path.
func namesOf(path string) (l []string) {
	from := 0
	for i := range len(path) {
		if path[i] == '/' {
			l = append(l, path[from:i])
			from = i + 1
		}
	}
	return append(l, path[from:])
}

// parentOf is the path without its last name.
func parentOf(path string) string {
	at := strings.LastIndexByte(path, '/')
	return path[:max(at, 0)]
}

// paperItem is P19.1 of one item, word for word: stands is what came ahead, by path.
func paperItem(stands map[string]api.Item, bytes int, x api.Item) api.Errno {
	parent, there := stands[parentOf(x.Path)]
	root := parentOf(x.Path) == ""
	_, taken := stands[x.Path]
	switch names := namesOf(x.Path); {
	case len(x.Path) > 4096 || len(names) > 64:
		return api.ErrLong
	case x.Kind < 0 || x.Kind > 2 || x.Kind == 1 && len(x.Data) > 0:
		return api.ErrArg
	case x.Kind == 0 && bytes+len(x.Data) > 4194304:
		return api.ErrLong
	case slices.ContainsFunc(names, func(s string) bool { return !isName(s) }):
		return api.ErrName
	case !root && !there:
		return api.ErrNone
	case !root && parent.Kind != 1:
		return api.ErrDir
	case taken:
		return api.ErrThere
	case len(stands) == 4096:
		return api.ErrFull
	case x.Kind == 2 && len(x.Data) == 0:
		return api.ErrName
	case x.Kind == 2 && len(x.Data) > 4096:
		return api.ErrLong
	}
	return api.OK
}

// paperMake is P19.1: the first item that may not come, and its place.
func paperMake(l []api.Item) (api.Errno, int) {
	stands, bytes := map[string]api.Item{}, 0
	for i, x := range l {
		if e := paperItem(stands, bytes, x); e != api.OK {
			return e, i
		}
		stands[x.Path] = x
		if x.Kind == api.NodeFile {
			bytes += len(x.Data)
		}
	}
	return api.OK, 0
}

// sheet is a node and what it is to be, on paper.
type sheet struct {
	node  *node.Node
	kind  int8
	data  []byte    // a file's, or where a link leads
	fails api.Errno // a file's: what each read answers
	names []string  // a directory's, in the order in which they came, and beside each the node
	holds []*sheet
}

func dirSheet() *sheet { return &sheet{node: node.Dir(), kind: api.NodeDir} }

func whiteSheet() *sheet { return &sheet{node: node.White(), kind: api.NodeWhite} }

func fileSheet(t *testing.T, b string) *sheet {
	t.Helper()
	h, e := memory.New([]byte(b), 15)
	if e != api.OK {
		t.Fatal(e)
	}
	return &sheet{node: node.File(h), data: []byte(b)}
}

func linkSheet(t *testing.T, to string) *sheet {
	t.Helper()
	n, e := node.Link(to)
	if e != api.OK {
		t.Fatal(e)
	}
	return &sheet{node: n, kind: api.NodeLink, data: []byte(to)}
}

func mountSheet(t *testing.T, of *sheet) *sheet {
	t.Helper()
	n, e := node.Mount(of.node)
	if e != api.OK {
		t.Fatal(e)
	}
	return &sheet{node: n, kind: api.NodeMount}
}

// broken is a file of so many bytes that can't be read.
type broken struct {
	size int
	e    api.Errno
}

func (f broken) Size() int64 { return int64(f.size) }

func (f broken) ReadAt(int64, int) ([]byte, api.Errno) { return nil, f.e }

func brokenSheet(size int, e api.Errno) *sheet {
	h := face.Make(broken{size, e}, nil, nil, nil, nil)
	return &sheet{node: node.File(h), data: make([]byte, size), fails: e}
}

// hold puts m into a directory, on paper too.
func (s *sheet) hold(t *testing.T, name string, m *sheet) *sheet {
	t.Helper()
	if e := s.node.Add(name, m.node); e != api.OK {
		t.Fatalf("Add of %.80q answers %v", name, e)
	}
	s.names, s.holds = append(s.names, name), append(s.holds, m)
	return m
}

// chain is n directories, each in the one ahead, under that name; it begins with s.
func (s *sheet) chain(t *testing.T, n int, name string) []*sheet {
	t.Helper()
	l := []*sheet{s}
	for i := range n {
		l = append(l, l[i].hold(t, name, dirSheet()))
	}
	return l
}

// fill puts whites into a directory until it holds so many.
func (s *sheet) fill(t *testing.T, many int) {
	t.Helper()
	white := whiteSheet()
	for i := 0; len(s.names) < many; i++ {
		s.hold(t, fmt.Sprint("~fill", i), white)
	}
}

// leaves are one node of each kind that is no directory; the mount is of one that holds something.
func leaves(t *testing.T) []*sheet {
	t.Helper()
	under := dirSheet()
	under.hold(t, "held", whiteSheet())
	return []*sheet{fileSheet(t, "abc"), linkSheet(t, "some/where"), mountSheet(t, under), whiteSheet()}
}

func (s *sheet) at(name string) *sheet {
	if i := slices.Index(s.names, name); i >= 0 {
		return s.holds[i]
	}
	return nil
}

func (s *sheet) drop(name string) {
	i := slices.Index(s.names, name)
	s.names, s.holds = slices.Delete(s.names, i, i+1), slices.Delete(s.holds, i, i+1)
}

// through goes over a sheet and all that is below it, a directory ahead of what is in it, names rising.
func (s *sheet) through(path string, visit func(path string, m *sheet)) {
	visit(path, s)
	names := slices.Clone(s.names)
	sort.Slice(names, func(i, j int) bool { return ahead(names[i], names[j]) })
	for _, name := range names {
		p := name
		if path != "" {
			p = path + "/" + name
		}
		s.at(name).through(p, visit)
	}
}

// paperItems is P19.2.
func (s *sheet) paperItems() ([]api.Item, api.Errno) {
	var l []api.Item
	bytes, first := 0, api.OK
	s.through("", func(path string, m *sheet) {
		if m == s || first != api.OK {
			return
		}
		l = append(l, api.Item{Path: path, Kind: m.kind, Data: m.data})
		if m.kind == api.NodeFile {
			bytes += len(m.data)
		}
		switch {
		case len(l) > 4096:
			first = api.ErrFull
		case len(path) > 4096 || bytes > 4194304:
			first = api.ErrLong
		case m.kind == api.NodeFile && len(m.data) > 0:
			first = m.fails
		}
	})
	if s.kind != api.NodeDir {
		return nil, api.ErrDir
	}
	if first != api.OK {
		return nil, first
	}
	return inOrder(l), api.OK
}

// highest is how deep the deepest below s lies.
func (s *sheet) highest() int {
	high := 0
	for _, m := range s.holds {
		high = max(high, m.highest()+1)
	}
	return high
}

// depthIn is how deep s lies below one of the tops; 0, if it is one.
func (s *sheet) depthIn(tops []*sheet) int {
	deep := 0
	for _, top := range tops {
		var down func(d *sheet, n int)
		down = func(d *sheet, n int) {
			if d == s {
				deep = n
			}
			for _, m := range d.holds {
				down(m, n+1)
			}
		}
		down(top, 0)
	}
	return deep
}

// has tells whether m is s, or below it.
func (s *sheet) has(m *sheet) bool {
	return s == m || slices.ContainsFunc(s.holds, func(x *sheet) bool { return x.has(m) })
}

// paperMove is P19.3, word for word; tops are the directories that stand nowhere.
func paperMove(tops []*sheet, from *sheet, name string, to *sheet, as string) api.Errno {
	if from == nil || to == nil {
		return api.ErrNil
	}
	if from.kind != api.NodeDir || to.kind != api.NodeDir {
		return api.ErrDir
	}
	m := from.at(name)
	if m == nil {
		return api.ErrNone
	}
	held := len(to.names)
	if to == from {
		held--
	}
	switch {
	case to == from && as == name:
		return api.OK
	case !isName(as):
		return api.ErrName
	case to.at(as) != nil:
		return api.ErrThere
	case m.has(to):
		return api.ErrLoop
	case held == 4096:
		return api.ErrFull
	case to.depthIn(tops)+m.highest()+1 > 64:
		return api.ErrLong
	}
	from.drop(name)
	to.names, to.holds = append(to.names, as), append(to.holds, m)
	return api.OK
}

// move holds what Move answers, on paper too.
func move(t *testing.T, tops []*sheet, from *sheet, name string, to *sheet, as string) api.Errno {
	t.Helper()
	var a, b *node.Node
	if from != nil {
		a = from.node
	}
	if to != nil {
		b = to.node
	}
	want := paperMove(tops, from, name, to, as)
	if e := tree.Move(a, name, b, as); e != want {
		t.Errorf("Move of %.80q to %.80q answers %v, want %v", name, as, e, want)
	}
	return want
}

// wantMove is a Move of which the test tells the answer: it is held against the paper's, too.
func wantMove(t *testing.T, tops []*sheet, from *sheet, name string, to *sheet, as string, want api.Errno) {
	t.Helper()
	if e := move(t, tops, from, name, to, as); e != want {
		t.Errorf("Move of %.80q to %.80q answers %v on paper, want %v", name, as, e, want)
	}
	for _, top := range tops {
		top.wantStands(t)
	}
}

// wantStands holds that just the nodes of the sheet stand below it, each the very one, by node's own calls.
func (s *sheet) wantStands(t *testing.T) {
	t.Helper()
	s.through("", func(path string, m *sheet) {
		if k := m.node.Kind(); k != m.kind {
			t.Errorf("at %.80q stands one of kind %d, want %d", path, k, m.kind)
		}
		l, _ := m.node.List()
		if len(l) != len(m.names) {
			t.Errorf("%.80q holds %d nodes, want %d", path, len(l), len(m.names))
		}
		for i, name := range m.names {
			if x, e := m.node.Get(name); x != m.holds[i].node || e != api.OK {
				t.Errorf("%.80q in %.80q is another node, %v", name, path, e)
			}
		}
	})
}

func same(a, b []api.Item) bool {
	return slices.EqualFunc(a, b, func(x, y api.Item) bool {
		return x.Path == y.Path && x.Kind == y.Kind && bytes.Equal(x.Data, y.Data)
	})
}

// text is a list of items in few words, for messages.
func text(l []api.Item) string {
	var b strings.Builder
	for i, x := range l {
		if i == 20 {
			fmt.Fprintf(&b, "and %d more", len(l)-i)
			break
		}
		fmt.Fprintf(&b, "%.40q %d %d %.20q; ", x.Path, x.Kind, len(x.Data), x.Data)
	}
	return b.String()
}

func wantList(t *testing.T, what string, got, want []api.Item) {
	t.Helper()
	if !same(got, want) {
		t.Errorf("%s: %s\nwant %s", what, text(got), text(want))
	}
}

// stands is what is below n, in order, by node's own calls.
func stands(t *testing.T, n *node.Node) []api.Item {
	t.Helper()
	var l []api.Item
	var below func(d *node.Node, at string)
	below = func(d *node.Node, at string) {
		names, e := d.List()
		if e != api.OK {
			t.Fatal(e)
		}
		for _, x := range names {
			m, _ := d.Get(x.Name)
			i := api.Item{Path: at + x.Name, Kind: m.Kind()}
			if h, e := m.Open(); e == api.OK {
				i.Data, _ = memory.All(h)
			}
			if to, e := m.Leads(); e == api.OK {
				i.Data = []byte(to)
			}
			l = append(l, i)
			if i.Kind == api.NodeDir {
				below(m, i.Path+"/")
			}
		}
	}
	below(n, "")
	return inOrder(l)
}

// items are a tree's of which Items is to tell them.
func items(t *testing.T, n *node.Node) []api.Item {
	t.Helper()
	l, e := tree.Items(n)
	if e != api.OK {
		t.Fatalf("Items answers %v", e)
	}
	return l
}

// made is a tree that is to be made.
func made(t *testing.T, l ...api.Item) *node.Node {
	t.Helper()
	n, e, at := tree.Make(l)
	if n == nil || e != api.OK || at != 0 {
		t.Fatalf("Make answers %v, %d", e, at)
	}
	return n
}

// cloned is a list and all within it in new memory.
func cloned(l []api.Item) []api.Item {
	l = slices.Clone(l)
	for i := range l {
		l[i].Data = slices.Clone(l[i].Data)
	}
	return l
}

// wantMake holds all that Make answers against the paper, and that the list stays as it is.
func wantMake(t *testing.T, l []api.Item) api.Errno {
	t.Helper()
	e, at := paperMake(l)
	was := slices.Clone(l)
	n, gotE, gotAt := tree.Make(l)
	if gotE != e || gotAt != at || (n == nil) != (e != api.OK) {
		t.Errorf("Make answers %v, %v, %d, want %v, %d, for %s", n != nil, gotE, gotAt, e, at, text(l[max(0, at-3):]))
	}
	wantList(t, "the list behind Make", l, was)
	if e == api.OK && n != nil {
		wantList(t, "what was made", stands(t, n), inOrder(l))
	}
	return e
}

// wantPlace is a Make that is refused as the test tells it: that is held against the paper's, too.
func wantPlace(t *testing.T, l []api.Item, want api.Errno, place int) {
	t.Helper()
	if e, at := paperMake(l); e != want || at != place {
		t.Errorf("on paper Make answers %v, %d, want %v, %d", e, at, want, place)
	}
	wantMake(t, l)
}

// wantMade is a Make that is to be taken.
func wantMade(t *testing.T, l ...api.Item) {
	t.Helper()
	if e := wantMake(t, l); e != api.OK {
		t.Errorf("on paper Make answers %v", e)
	}
}

// chance tells numbers that are the same at each run.
type chance uint64

func (c *chance) below(n int) int {
	*c = *c*6364136223846793005 + 1442695040888963407
	return int(uint64(*c) >> 33 % uint64(n))
}
