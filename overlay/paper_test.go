package overlay_test

import (
	"crypto/sha256"
	"fmt"
	"maps"
	"slices"
	"strings"

	"mantle/api"
)

// thing is what a tree holds at a path, on paper.
type thing struct {
	kind  int8
	data  string    // a file's bytes, or where a link leads
	fails api.Errno // what each read of a file answers, if it is not OK; such a file can't be written
	only  bool      // whether a file can only be read
}

func file(s string) thing { return thing{data: s} }

func dir() thing { return thing{kind: api.NodeDir} }

func link(to string) thing { return thing{kind: api.NodeLink, data: to} }

func mount() thing { return thing{kind: api.NodeMount} }

func white() thing { return thing{kind: api.NodeWhite} }

// broken is a file of so many bytes that can't be read.
func broken(size int, e api.Errno) thing { return thing{data: strings.Repeat("?", size), fails: e} }

// sheet is a tree on paper: what it holds at each path, whites too.
type sheet map[string]thing

// paper is an overlay on paper: the layers, the upper one first, of which all is reckoned word by word.
type paper struct {
	layers []sheet
	deep   int // how deep the upper tree's root is
}

func paperOf(upper sheet, lower ...sheet) *paper {
	return &paper{layers: append([]sheet{maps.Clone(upper)}, lower...)}
}

func parentOf(p string) string { return p[:max(strings.LastIndexByte(p, '/'), 0)] }

func depthOf(p string) int { return strings.Count(p, "/") + 1 }

func joined(p, name string) string {
	if p == "" {
		return name
	}
	return p + "/" + name
}

// isPath is the chapter's word, name by name and byte by byte.
func isPath(p string) bool {
	if len(p) > 4096 {
		return false
	}
	if p == "" {
		return true
	}
	name := ""
	for i := range len(p) + 1 {
		if i < len(p) && p[i] == 0 {
			return false
		}
		if i < len(p) && p[i] != '/' {
			name += p[i : i+1]
			continue
		}
		if name == "" || name == "." || name == ".." || len(name) > 64 {
			return false
		}
		name = ""
	}
	return true
}

// merged are those of the layers that are merged at a path.
func merged(layers []sheet, p string) []sheet {
	if p == "" {
		return layers
	}
	var l []sheet
	for _, s := range merged(layers, parentOf(p)) {
		x, holds := s[p]
		if holds && x.kind != api.NodeDir {
			return l
		}
		if holds {
			l = append(l, s)
		}
	}
	return l
}

// stands is what stands at a path of the layers, if something does.
func stands(layers []sheet, p string) (thing, bool) {
	if p == "" {
		return dir(), true
	}
	for _, s := range merged(layers, parentOf(p)) {
		if x, holds := s[p]; holds {
			return x, x.kind != api.NodeWhite
		}
	}
	return thing{}, false
}

// below are the paths in a directory of the layers at which something stands, rising.
func below(layers []sheet, p string) (l []string) {
	for _, s := range merged(layers, p) {
		for q := range s {
			if parentOf(q) != p {
				continue
			}
			if _, ok := stands(layers, q); ok {
				l = append(l, q)
			}
		}
	}
	slices.Sort(l)
	return slices.Compact(l)
}

// item is what is told of a thing.
func (x thing) item(p string) (api.Item, api.Errno) {
	switch {
	case x.kind != api.NodeFile:
	case len(x.data) > 4194304:
		return api.Item{}, api.ErrLong
	case x.fails != api.OK && x.data != "":
		return api.Item{}, x.fails
	}
	return api.Item{Path: p, Kind: x.kind, Data: []byte(x.data)}, api.OK
}

func (m *paper) get(p string) (api.Item, api.Errno) {
	if !isPath(p) {
		return api.Item{}, api.ErrName
	}
	x, ok := stands(m.layers, p)
	if !ok {
		return api.Item{}, api.ErrNone
	}
	return x.item(p)
}

func (m *paper) list(p string) ([]api.Entry, api.Errno) {
	if !isPath(p) {
		return nil, api.ErrName
	}
	x, ok := stands(m.layers, p)
	if !ok {
		return nil, api.ErrNone
	}
	if x.kind != api.NodeDir {
		return nil, api.ErrDir
	}
	var l []api.Entry
	for _, q := range below(m.layers, p) {
		x, _ := stands(m.layers, q)
		size := len(x.data)
		if x.kind == api.NodeDir {
			size = len(below(m.layers, q))
		}
		l = append(l, api.Entry{Name: q[strings.LastIndexByte(q, '/')+1:], Kind: x.kind, Size: int64(size)})
	}
	return l, api.OK
}

// items goes over all paths of all layers, in the order in which they are met: names rising, part by part.
func (m *paper) items() ([]api.Item, api.Errno) {
	var l []api.Item
	bytes := 0
	all := m.paths()
	slices.SortFunc(all, func(a, b string) int { return slices.Compare(strings.Split(a, "/"), strings.Split(b, "/")) })
	for _, p := range all {
		x, ok := stands(m.layers, p)
		if !ok {
			continue
		}
		if len(l) == 4096 {
			return nil, api.ErrFull
		}
		i, e := m.get(p)
		if e != api.OK {
			return nil, e
		}
		if x.kind == api.NodeFile {
			bytes += len(x.data)
		}
		if bytes > 4194304 {
			return nil, api.ErrLong
		}
		l = append(l, i)
	}
	slices.SortFunc(l, func(a, b api.Item) int { return strings.Compare(a.Path, b.Path) })
	return l, api.OK
}

// paths are all at which any layer holds something, rising.
func (m *paper) paths() []string {
	all := sheet{}
	for _, s := range m.layers {
		maps.Copy(all, s)
	}
	return slices.Sorted(maps.Keys(all))
}

// change does it to a copy of the upper sheet, which takes that one's place if nothing is refused.
func (m *paper) change(do func(up sheet) api.Errno) api.Errno {
	up := maps.Clone(m.layers[0])
	e := do(up)
	if e == api.OK {
		m.layers[0] = up
	}
	return e
}

// add is node.Add to a sheet that holds nothing there.
func (m *paper) add(up sheet, p string, x thing) api.Errno {
	held := 0
	for q := range up {
		if parentOf(q) == parentOf(p) {
			held++
		}
	}
	if held == 4096 {
		return api.ErrFull
	}
	if m.deep+depthOf(p) > 64 {
		return api.ErrLong
	}
	up[p] = x
	return api.OK
}

// parents brings up the directories on the way to a path.
func (m *paper) parents(up sheet, p string) api.Errno {
	q := parentOf(p)
	if _, holds := up[q]; q == "" || holds {
		return api.OK
	}
	if e := m.parents(up, q); e != api.OK {
		return e
	}
	return m.add(up, q, dir())
}

// clear is how room is made for what comes: the parents, and then all goes that is held there.
func (m *paper) clear(up sheet, p string) api.Errno {
	if e := m.parents(up, p); e != api.OK {
		return e
	}
	maps.DeleteFunc(up, func(q string, _ thing) bool { return q == p || strings.HasPrefix(q, p+"/") })
	return api.OK
}

// refusesPut is all that Put asks ahead of what it does.
func (m *paper) refusesPut(i api.Item) api.Errno {
	if i.Kind < 0 || i.Kind > 2 {
		return api.ErrArg
	}
	if !isPath(i.Path) || i.Path == "" {
		return api.ErrName
	}
	if in, ok := stands(m.layers, parentOf(i.Path)); !ok {
		return api.ErrNone
	} else if in.kind != api.NodeDir {
		return api.ErrDir
	}
	x, ok := stands(m.layers, i.Path)
	switch {
	case ok && i.Kind == api.NodeDir:
		return api.ErrThere
	case ok && (x.kind == api.NodeDir || x.kind == api.NodeMount):
		return api.ErrDir
	case i.Kind == api.NodeLink && len(i.Data) == 0:
		return api.ErrName
	case i.Kind == api.NodeLink && len(i.Data) > 4096:
		return api.ErrLong
	case i.Kind == api.NodeFile && len(i.Data) > 4194304:
		return api.ErrLong
	}
	return api.OK
}

func (m *paper) put(i api.Item) api.Errno {
	if e := m.refusesPut(i); e != api.OK {
		return e
	}
	x := thing{kind: i.Kind}
	if i.Kind != api.NodeDir {
		x.data = string(i.Data)
	}
	return m.change(func(up sheet) api.Errno {
		e := m.clear(up, i.Path)
		if e == api.OK {
			e = m.add(up, i.Path, x)
		}
		if i.Kind != api.NodeDir || e != api.OK {
			return e
		}
		for _, q := range below(m.layers[1:], i.Path) {
			if e := m.add(up, q, white()); e != api.OK {
				return e
			}
		}
		return api.OK
	})
}

// laid is what a file's bytes are behind a write, by the file's rules; there is no room on paper for a file of more than MaxData bytes.
func laid(was string, at int64, b []byte) (string, api.Errno) {
	n := int64(len(b))
	switch {
	case at < 0:
		return "", api.ErrArg
	case n > 65536 || at > 1<<30 || at+n > 1<<30:
		return "", api.ErrLong
	case n == 0:
		return was, api.OK
	case at+n > 4194304:
		panic("a file that is too long for the paper")
	}
	all := []byte(was)
	for int64(len(all)) < at+n {
		all = append(all, 0)
	}
	copy(all[at:], b)
	return string(all), api.OK
}

func (m *paper) write(p string, at int64, b []byte) api.Errno {
	if !isPath(p) {
		return api.ErrName
	}
	x, ok := stands(m.layers, p)
	if !ok {
		return api.ErrNone
	}
	if x.kind != api.NodeFile {
		return api.ErrDir
	}
	return m.change(func(up sheet) api.Errno {
		if _, holds := up[p]; !holds {
			i, e := x.item(p)
			if e != api.OK {
				return e
			}
			if e := m.parents(up, p); e != api.OK {
				return e
			}
			if e := m.add(up, p, file(string(i.Data))); e != api.OK {
				return e
			}
		}
		own := up[p]
		if own.only || own.fails != api.OK {
			return api.ErrCan
		}
		data, e := laid(own.data, at, b)
		up[p] = file(data)
		return e
	})
}

func (m *paper) drop(p string) api.Errno {
	if !isPath(p) || p == "" {
		return api.ErrName
	}
	if _, ok := stands(m.layers, p); !ok {
		return api.ErrNone
	}
	if len(below(m.layers, p)) > 0 {
		return api.ErrEmpty
	}
	return m.change(func(up sheet) api.Errno {
		if _, ok := stands(m.layers[1:], p); !ok {
			return m.clear(up, p)
		}
		if e := m.clear(up, p); e != api.OK {
			return e
		}
		return m.add(up, p, white())
	})
}

// text is a sheet as a text, a line a path; no two sheets have the same one, but for the bytes of long files, of which a sum is told.
func (s sheet) text() string {
	var b strings.Builder
	for _, p := range slices.Sorted(maps.Keys(s)) {
		i, e := s[p].item(p)
		if len(i.Data) > 1000 {
			i.Data = fmt.Appendf(nil, "%d bytes %x", len(i.Data), sha256.Sum256(i.Data))
		}
		fmt.Fprintf(&b, "%d %q %q %d\n", s[p].kind, p, i.Data, e)
	}
	return b.String()
}

// short is the beginning of a text and its end, for messages.
func short(s string) string {
	if len(s) <= 1200 {
		return s
	}
	return fmt.Sprint(s[:600], " .. ", s[len(s)-600:], " (", len(s), " bytes)")
}
