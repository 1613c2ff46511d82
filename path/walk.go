package path

import (
	"slices"
	"strings"

	"mantle/api"
	"mantle/node"
)

// partsOf are the parts of a path.
func partsOf(p string) []string {
	return slices.DeleteFunc(strings.Split(p, "/"), func(s string) bool { return s == "" || s == "." })
}

// met is a node, and the name under which a walk met it.
type met struct {
	name string
	node *node.Node
}

// walk is one that is under way. Its row has pointers, because a row that was cut is copied by what comes next.
type walk struct {
	row   []*met   // its directories, the root first; behind them the node at which it stands, if that is no directory
	left  []string // the parts that are still to be gone over
	links int      // how many were followed
}

// start is a walk that stands at root, with all of p ahead; or the error with which every walk begins.
func start(root *node.Node, p string) (*walk, api.Errno) {
	kind := root.Kind()
	if kind < 0 {
		return nil, api.ErrNil
	}
	if kind != api.NodeDir {
		return nil, api.ErrDir
	}
	if len(p) > api.MaxPath {
		return nil, api.ErrLong
	}
	return &walk{row: []*met{{node: root}}, left: partsOf(p)}, api.OK
}

// at is the node at which the walk stands.
func (w *walk) at() *node.Node { return w.row[len(w.row)-1].node }

// names are those under which all that is in the row was met, but the root, which has none. It is the first one: the same directory may come again, under a mount.
func (w *walk) names() []string {
	l := make([]string, 0, len(w.row))
	for _, m := range w.row[1:] {
		l = append(l, m.name)
	}
	return l
}

// leaveLast takes the last part away, so that the walk ends ahead of it.
func (w *walk) leaveLast() (string, api.Errno) {
	last := len(w.left) - 1
	if last < 0 {
		return "", api.ErrName
	}
	name := w.left[last]
	w.left = w.left[:last:last]
	return name, Check(name)
}

// along goes over the parts that are left. A link at which it would end is followed only if follow says so.
func (w *walk) along(follow bool) api.Errno {
steps:
	for len(w.left) > 0 {
		dir, part := w.at(), w.left[0]
		w.left = w.left[1:]
		if dir.Kind() != api.NodeDir {
			return api.ErrDir
		}
		if part == ".." {
			w.keep(max(len(w.row)-1, 1))
			continue steps
		}
		n, e := find(dir, part)
		if e != api.OK {
			return e
		}
		switch n.Kind() {
		case api.NodeWhite:
			return api.ErrNone
		case api.NodeMount:
			n, _ = n.Under()
		case api.NodeLink:
			if !follow && len(w.left) == 0 {
				w.stand(part, n)
				break steps
			}
			if w.links == api.MaxLinks {
				return api.ErrLoop
			}
			w.lead(n)
			continue steps
		}
		w.stand(part, n)
	}
	return api.OK
}

// find is the node that dir holds under a name.
func find(dir *node.Node, name string) (*node.Node, api.Errno) {
	if e := Check(name); e != api.OK {
		return nil, e
	}
	return dir.Get(name)
}

// stand goes on to a node that was met under a name.
func (w *walk) stand(name string, n *node.Node) { w.row = append(w.row, &met{name, n}) }

// keep leaves the first n of the row, without the room behind them: what comes next is not written over those that went.
func (w *walk) keep(n int) { w.row = w.row[:n:n] }

// lead puts where a link leads ahead of the parts that are left.
func (w *walk) lead(link *node.Node) {
	w.links++
	to, _ := link.Leads()
	if strings.HasPrefix(to, "/") {
		w.keep(1)
	}
	w.left = append(partsOf(to), w.left...)
}
