package node_test

import (
	"fmt"
	"slices"
	"testing"

	"mantle/api"
	"mantle/face"
	"mantle/memory"
	"mantle/node"
)

// sheet is a node on paper; nodes are told by their numbers, nil by -1.
type sheet struct {
	kind  int8
	file  *face.Handle
	to    string
	under int
	names []string // of a directory, in the order in which they came, and beside each the node
	holds []int
}

// paper is all nodes that were ever made, as the chapter's words tell them.
type paper []*sheet

// isName is the chapter's word, byte by byte.
func isName(s string) bool {
	for i := range len(s) {
		if s[i] == 0 || s[i] == '/' {
			return false
		}
	}
	return len(s) >= 1 && len(s) <= 64 && s != "." && s != ".."
}

func (p paper) isDir(n int) bool { return p[n].kind == api.NodeDir }

// in is each directory in which n stands, as often as it does.
func (p paper) in(n int) (l []int) {
	for d, s := range p {
		for _, m := range s.holds {
			if m == n {
				l = append(l, d)
			}
		}
	}
	return l
}

func (p paper) below(n, top int) bool {
	for _, d := range p.in(n) {
		if d == top || p.below(d, top) {
			return true
		}
	}
	return false
}

// depth is that of a directory.
func (p paper) depth(n int) int {
	if l := p.in(n); len(l) > 0 {
		return p.depth(l[0]) + 1
	}
	return 0
}

func (p paper) height(n int) int {
	high := 0
	for _, m := range p[n].holds {
		high = max(high, p.height(m)+1)
	}
	return high
}

// add is P18.3, word for word.
func (p paper) add(n int, name string, m int) api.Errno {
	switch {
	case n < 0 || m < 0:
		return api.ErrNil
	case !p.isDir(n):
		return api.ErrDir
	case !isName(name):
		return api.ErrName
	case slices.Contains(p[n].names, name):
		return api.ErrThere
	case len(p[n].holds) == 4096:
		return api.ErrFull
	case p.isDir(m) && (m == n || p.below(n, m)):
		return api.ErrLoop
	case p.isDir(m) && len(p.in(m)) > 0:
		return api.ErrThere
	case p.depth(n)+p.height(m)+1 > 64:
		return api.ErrLong
	}
	p[n].names, p[n].holds = append(p[n].names, name), append(p[n].holds, m)
	return api.OK
}

// get is P18.4's.
func (p paper) get(n int, name string) (int, api.Errno) {
	if n < 0 {
		return -1, api.ErrNil
	}
	if !p.isDir(n) {
		return -1, api.ErrDir
	}
	i := slices.Index(p[n].names, name)
	if i < 0 {
		return -1, api.ErrNone
	}
	return p[n].holds[i], api.OK
}

// take is P18.4's.
func (p paper) take(n int, name string) (int, api.Errno) {
	m, e := p.get(n, name)
	if e != api.OK {
		return -1, e
	}
	i := slices.Index(p[n].names, name)
	p[n].names, p[n].holds = slices.Delete(p[n].names, i, i+1), slices.Delete(p[n].holds, i, i+1)
	return m, api.OK
}

// drop is P18.4's.
func (p paper) drop(n int, name string) api.Errno {
	m, e := p.get(n, name)
	if e != api.OK {
		return e
	}
	if p.isDir(m) && len(p[m].holds) > 0 {
		return api.ErrEmpty
	}
	p.take(n, name)
	return api.OK
}

// size is what List tells of a node beside its name and kind.
func (p paper) size(n int) int64 {
	switch s := p[n]; s.kind {
	case api.NodeFile:
		return s.file.File().Size()
	case api.NodeLink:
		return int64(len(s.to))
	case api.NodeDir:
		return int64(len(s.holds))
	}
	return 0
}

// ahead tells whether a's bytes come ahead of b's.
func ahead(a, b string) bool {
	for i := range min(len(a), len(b)) {
		if a[i] != b[i] {
			return a[i] < b[i]
		}
	}
	return len(a) < len(b)
}

// list is P18.4's: each name goes in ahead of the first greater one.
func (p paper) list(n int) ([]api.Entry, api.Errno) {
	if n < 0 {
		return nil, api.ErrNil
	}
	if !p.isDir(n) {
		return nil, api.ErrDir
	}
	var l []api.Entry
	for i, name := range p[n].names {
		at := slices.IndexFunc(l, func(x api.Entry) bool { return ahead(name, x.Name) })
		if at < 0 {
			at = len(l)
		}
		m := p[n].holds[i]
		l = slices.Insert(l, at, api.Entry{Name: name, Kind: p[m].kind, Size: p.size(m)})
	}
	return l, api.OK
}

// world is nodes, and beside them what they are to be.
type world struct {
	t     *testing.T
	nodes []*node.Node
	paper paper
}

func newWorld(t *testing.T) *world { return &world{t: t} }

// put gives a new node its number.
func (w *world) put(n *node.Node, s *sheet) int {
	w.t.Helper()
	if n == nil {
		w.t.Fatalf("a node of kind %d is nil", s.kind)
	}
	if slices.Contains(w.nodes, n) {
		w.t.Fatalf("a node of kind %d was made twice", s.kind)
	}
	w.nodes, w.paper = append(w.nodes, n), append(w.paper, s)
	return len(w.nodes) - 1
}

func (w *world) dir() int { return w.put(node.Dir(), &sheet{kind: api.NodeDir}) }

func (w *world) white() int { return w.put(node.White(), &sheet{kind: api.NodeWhite}) }

func (w *world) file(b string) int {
	w.t.Helper()
	h := newFile(w.t, b)
	return w.put(node.File(h), &sheet{kind: api.NodeFile, file: h})
}

func (w *world) link(to string) int {
	w.t.Helper()
	n, e := node.Link(to)
	if e != api.OK {
		w.t.Fatalf("a link to %.50q: %v", to, e)
	}
	return w.put(n, &sheet{kind: api.NodeLink, to: to})
}

// mount is one of a directory, or of what is under a mount.
func (w *world) mount(of int) int {
	w.t.Helper()
	n, e := node.Mount(w.nodes[of])
	if e != api.OK {
		w.t.Fatalf("a mount of %d: %v", of, e)
	}
	if w.paper[of].kind == api.NodeMount {
		of = w.paper[of].under
	}
	return w.put(n, &sheet{kind: api.NodeMount, under: of})
}

// leaves are one node of each kind that is no directory; the mount is of a directory that holds something.
func (w *world) leaves() []int {
	w.t.Helper()
	d := w.dir()
	w.added(d, "held", w.white())
	return []int{w.file("abc"), w.link("some/where"), w.mount(d), w.white()}
}

func (w *world) node(n int) *node.Node {
	if n < 0 {
		return nil
	}
	return w.nodes[n]
}

// number is -1 of nil, and -2 of a node that is none of them.
func (w *world) number(n *node.Node) int {
	if n == nil {
		return -1
	}
	if i := slices.Index(w.nodes, n); i >= 0 {
		return i
	}
	return -2
}

// add holds what Add answers.
func (w *world) add(n int, name string, m int) api.Errno {
	w.t.Helper()
	want := w.paper.add(n, name, m)
	if e := w.node(n).Add(name, w.node(m)); e != want {
		w.t.Errorf("Add of %d to %d as %.80q answers %v, want %v", m, n, name, e, want)
	}
	return want
}

// added is an Add that is to be taken.
func (w *world) added(n int, name string, m int) int {
	w.t.Helper()
	if e := w.add(n, name, m); e != api.OK {
		w.t.Fatalf("Add of %d to %d as %.80q answers %v", m, n, name, e)
	}
	return m
}

// wantAdd is an Add of which the test tells the answer: it is held against the paper's, too.
func (w *world) wantAdd(n int, name string, m int, want api.Errno) {
	w.t.Helper()
	if e := w.add(n, name, m); e != want {
		w.t.Errorf("Add of %d to %d as %.80q answers %v on paper, want %v", m, n, name, e, want)
	}
}

// drop holds what Drop answers.
func (w *world) drop(n int, name string) api.Errno {
	w.t.Helper()
	want := w.paper.drop(n, name)
	if e := w.node(n).Drop(name); e != want {
		w.t.Errorf("Drop of %.80q out of %d answers %v, want %v", name, n, e, want)
	}
	return want
}

// take holds what Take answers.
func (w *world) take(n int, name string) (int, api.Errno) {
	w.t.Helper()
	want, wantE := w.paper.take(n, name)
	if m, e := w.node(n).Take(name); w.number(m) != want || e != wantE {
		w.t.Errorf("Take of %.80q out of %d answers %d, %v, want %d, %v", name, n, w.number(m), e, want, wantE)
	}
	return want, wantE
}

// get holds what Get answers.
func (w *world) get(n int, name string) {
	w.t.Helper()
	want, wantE := w.paper.get(n, name)
	if m, e := w.node(n).Get(name); w.number(m) != want || e != wantE {
		w.t.Errorf("Get of %.80q in %d answers %d, %v, want %d, %v", name, n, w.number(m), e, want, wantE)
	}
}

// list holds what List answers.
func (w *world) list(n int) {
	w.t.Helper()
	want, wantE := w.paper.list(n)
	if l, e := w.node(n).List(); !slices.Equal(l, want) || e != wantE {
		w.t.Errorf("List of %d answers %.300v, %v, want %.300v, %v", n, l, e, want, wantE)
	}
}

// wantOne holds all that can be asked of a node.
func (w *world) wantOne(n int) {
	w.t.Helper()
	s := w.paper[n]
	wantNode(w.t, w.nodes[n], s.kind, s.file, s.to, w.underOf(n))
	w.list(n)
	for _, name := range s.names {
		w.get(n, name)
	}
	for _, name := range []string{"", ".", "..", "/", "held/", "\x00", "not there"} {
		w.get(n, name)
	}
}

// underOf is the node under a mount; nil of all others.
func (w *world) underOf(n int) *node.Node {
	if w.paper[n].kind == api.NodeMount {
		return w.nodes[w.paper[n].under]
	}
	return nil
}

// wantAll holds all that can be asked of every node.
func (w *world) wantAll() {
	w.t.Helper()
	for n := range w.paper {
		w.wantOne(n)
	}
}

// wantNode holds what Kind, Open, Leads and Under answer of a node of that kind.
func wantNode(t *testing.T, n *node.Node, kind int8, file *face.Handle, to string, under *node.Node) {
	t.Helper()
	if k := n.Kind(); k != kind {
		t.Errorf("Kind tells %d, want %d", k, kind)
	}
	refusal := func(k int8) api.Errno {
		if k == kind {
			return api.OK
		}
		return api.ErrDir
	}
	if h, e := n.Open(); h != file || e != refusal(api.NodeFile) {
		t.Errorf("Open of kind %d answers %p, %v, want %p", kind, h, e, file)
	}
	if x, e := n.Leads(); x != to || e != refusal(api.NodeLink) {
		t.Errorf("Leads of kind %d answers %.80q, %v, want %.80q", kind, x, e, to)
	}
	if u, e := n.Under(); u != under || e != refusal(api.NodeMount) {
		t.Errorf("Under of kind %d answers %p, %v, want %p", kind, u, e, under)
	}
}

func newFile(t *testing.T, b string) *face.Handle {
	t.Helper()
	h, e := memory.New([]byte(b), 15)
	if e != api.OK {
		t.Fatal(e)
	}
	return h
}

// chain is n directories, each in the one ahead of it, the first of them in the one that is handed in, which is the first of the answer.
func (w *world) chain(top, n int) []int {
	w.t.Helper()
	l := []int{top}
	for i := range n {
		m := w.dir()
		w.hold(l[i], "c", m)
		l = append(l, m)
	}
	return l
}

// hold is an Add of which nothing but OK can come: the paper need not be asked, which is slow.
func (w *world) hold(n int, name string, m int) {
	w.t.Helper()
	if e := w.nodes[n].Add(name, w.nodes[m]); e != api.OK {
		w.t.Fatalf("Add of %d to %d as %q answers %v", m, n, name, e)
	}
	s := w.paper[n]
	s.names, s.holds = append(s.names, name), append(s.holds, m)
}

// fill adds whites to a directory until it holds so many.
func (w *world) fill(n, many int) {
	w.t.Helper()
	white := w.white()
	for i := 0; len(w.paper[n].holds) < many; i++ {
		w.hold(n, fmt.Sprint("fill", i), white)
	}
}

// chance tells numbers that are the same at each run.
type chance uint64

func (c *chance) below(n int) int {
	*c = *c*6364136223846793005 + 1442695040888963407
	return int(uint64(*c) >> 33 % uint64(n))
}
