package store_test

import (
	"bytes"
	"fmt"
	"maps"
	"slices"
	"strings"

	"mantle/api"
	"mantle/path"
	"mantle/store"
)

// paper is a store's tree on paper: P22.2 to P22.4 word for word, over a list of paths.
type paper struct{ items map[string]api.Item }

func newPaper() *paper { return &paper{map[string]api.Item{}} }

// twin is the same tree on another sheet. (Bytes are never changed in their place.)
func (m *paper) twin() *paper { return &paper{maps.Clone(m.items)} }

// list is the tree, in order.
func (m *paper) list() []api.Item {
	var l []api.Item
	for _, p := range slices.Sorted(maps.Keys(m.items)) {
		l = append(l, m.items[p])
	}
	return l
}

// cost is the tree's; of the two ways to read it the lesser one.
func (m *paper) cost() int {
	c := 16 + 8
	for _, x := range m.items {
		c += 8
		if x.Kind != api.NodeDir {
			c += (2*len(x.Data) + 63) / 64
		}
	}
	return c
}

func (m *paper) stands(p string) bool { return p == "" || m.items[p].Path != "" }

func (m *paper) isDir(p string) bool { return p == "" || m.items[p].Kind == api.NodeDir }

func parentOf(p string) string {
	names := strings.Split(p, "/")
	return strings.Join(names[:len(names)-1], "/")
}

func namesIn(p string) int { return len(strings.Split(p, "/")) }

// parent is what a new path's parent says to it.
func (m *paper) parent(p string) api.Errno {
	up := parentOf(p)
	if !m.stands(up) {
		return api.ErrNone
	}
	if !m.isDir(up) {
		return api.ErrDir
	}
	return api.OK
}

func (m *paper) make(p string, kind int8, to string) api.Errno {
	if kind < 0 || kind > 2 {
		return api.ErrArg
	}
	if p == "" {
		return api.ErrThere
	}
	if e := m.parent(p); e != api.OK {
		return e
	}
	if m.stands(p) {
		return api.ErrThere
	}
	if namesIn(p) > 64 {
		return api.ErrLong
	}
	if len(m.items) == 4096 {
		return api.ErrFull
	}
	x := api.Item{Path: p, Kind: kind}
	if kind == api.NodeLink {
		if to == "" {
			return api.ErrName
		}
		if len(to) > 4096 {
			return api.ErrLong
		}
		x.Data = []byte(to)
	}
	m.items[p] = x
	return api.OK
}

// file is what stands in the way of what is asked of a file.
func (m *paper) file(p string) api.Errno {
	if !m.stands(p) {
		return api.ErrNone
	}
	if p == "" || m.items[p].Kind != api.NodeFile {
		return api.ErrDir
	}
	return api.OK
}

func (m *paper) fill(p string, b []byte) {
	x := m.items[p]
	x.Data = b
	m.items[p] = x
}

func (m *paper) write(p string, at int64, b []byte) api.Errno {
	if e := m.file(p); e != api.OK {
		return e
	}
	if at < 0 {
		return api.ErrArg
	}
	if len(b) > 65536 {
		return api.ErrLong
	}
	if len(b) == 0 {
		return api.OK
	}
	if at > 65536 || at+int64(len(b)) > 65536 {
		return api.ErrLong
	}
	data := bytes.Clone(m.items[p].Data)
	for i, x := range b {
		for len(data) <= int(at)+i {
			data = append(data, 0)
		}
		data[int(at)+i] = x
	}
	m.fill(p, data)
	return api.OK
}

func (m *paper) read(p string, at int64, n int) (string, api.Errno) {
	if e := m.file(p); e != api.OK {
		return "", e
	}
	if at < 0 || n < 0 {
		return "", api.ErrArg
	}
	if n > 65536 {
		return "", api.ErrLong
	}
	var told []byte
	for i, x := range m.items[p].Data {
		if int64(i) >= at && len(told) < n {
			told = append(told, x)
		}
	}
	return string(told), api.OK
}

func (m *paper) cut(p string, size int64) api.Errno {
	if e := m.file(p); e != api.OK {
		return e
	}
	if size < 0 {
		return api.ErrArg
	}
	if size > 65536 {
		return api.ErrLong
	}
	data := append(bytes.Clone(m.items[p].Data), make([]byte, size)...)
	m.fill(p, data[:size])
	return api.OK
}

// below are the paths below a path.
func (m *paper) below(p string) (l []string) {
	for q := range m.items {
		if strings.HasPrefix(q, p+"/") {
			l = append(l, q)
		}
	}
	return l
}

func (m *paper) drop(p string) api.Errno {
	if p == "" {
		return api.ErrDir
	}
	if !m.stands(p) {
		return api.ErrNone
	}
	if len(m.below(p)) > 0 {
		return api.ErrEmpty
	}
	delete(m.items, p)
	return api.OK
}

func (m *paper) move(p, to string) api.Errno {
	if p == "" || to == "" {
		return api.ErrDir
	}
	if !m.stands(p) {
		return api.ErrNone
	}
	if p == to {
		return api.OK
	}
	if e := m.parent(to); e != api.OK {
		return e
	}
	if m.stands(to) {
		return api.ErrThere
	}
	if strings.HasPrefix(to, p+"/") {
		return api.ErrLoop
	}
	all := append(m.below(p), p)
	for _, q := range all {
		if r := to + q[len(p):]; namesIn(r) > 64 || len(r) > 4096 {
			return api.ErrLong
		}
	}
	for _, q := range all {
		x := m.items[q]
		delete(m.items, q)
		x.Path = to + q[len(p):]
		m.items[x.Path] = x
	}
	return api.OK
}

// act is a call of a store.
type act struct {
	do   int
	p    string
	to   string
	kind int8
	at   int64
	n    int
	b    []byte
}

const (
	doMake = iota
	doWrite
	doRead
	doCut
	doDrop
	doMove
	doItems
	doSync
)

// text is an act as a failed test tells it.
func (a act) text() string {
	name := []string{"Make", "Write", "Read", "Cut", "Drop", "Move", "Items", "Sync"}[a.do]
	return fmt.Sprintf("%s of %.90q (%d bytes), %.90q (%d bytes), kind %d, at %d, n %d, %d bytes", name, a.p, len(a.p), a.to, len(a.to), a.kind, a.at, a.n, len(a.b))
}

// told is what a call answers.
type told struct {
	text string
	e    api.Errno
}

// on does it.
func (a act) on(s *store.Store) told {
	switch a.do {
	case doMake:
		return told{e: s.Make(a.p, a.kind, a.to)}
	case doWrite:
		return told{e: s.Write(a.p, a.at, a.b)}
	case doRead:
		b, e := s.Read(a.p, a.at, a.n)
		return told{string(b), e}
	case doCut:
		return told{e: s.Cut(a.p, a.at)}
	case doDrop:
		return told{e: s.Drop(a.p)}
	case doMove:
		return told{e: s.Move(a.p, a.to)}
	case doItems:
		l, e := s.Items()
		return told{listText(l), e}
	}
	return told{e: s.Sync()}
}

// onPaper does it on paper.
func (a act) onPaper(m *paper) (x told) {
	if a.do == doItems {
		return told{text: listText(m.list())}
	}
	if a.do == doSync {
		return told{}
	}
	p, e := path.Clean(a.p)
	if e != api.OK {
		return told{e: e}
	}
	switch a.do {
	case doMake:
		return told{e: m.make(p, a.kind, a.to)}
	case doWrite:
		return told{e: m.write(p, a.at, a.b)}
	case doRead:
		x.text, x.e = m.read(p, a.at, a.n)
		return x
	case doCut:
		return told{e: m.cut(p, a.at)}
	case doDrop:
		return told{e: m.drop(p)}
	}
	to, e := path.Clean(a.to)
	if e != api.OK {
		return told{e: e}
	}
	return told{e: m.move(p, to)}
}

// listText is a list of items as a text; no two lists have the same one.
func listText(l []api.Item) string {
	var b strings.Builder
	for _, x := range l {
		fmt.Fprintf(&b, "%d %q %x\n", x.Kind, x.Path, x.Data)
	}
	return b.String()
}
