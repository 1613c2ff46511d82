package tree

import (
	"slices"
	"strings"

	"mantle/api"
	"mantle/memory"
	"mantle/node"
)

// through goes over all that stands below n, a directory ahead of what is in it, names rising, until visit answers an error.
func through(n *node.Node, visit func(path string, m *node.Node) api.Errno) api.Errno {
	var below func(dir *node.Node, ahead string) api.Errno
	below = func(dir *node.Node, ahead string) api.Errno {
		l, e := dir.List()
		for _, x := range l {
			m, e := dir.Get(x.Name)
			if e != api.OK { // a file that was asked meanwhile has taken it away
				continue
			}
			path := ahead + x.Name
			if e := visit(path, m); e != api.OK {
				return e
			}
			if m.Kind() != api.NodeDir {
				continue
			}
			if e := below(m, path+"/"); e != api.OK {
				return e
			}
		}
		return e
	}
	return below(n, "")
}

// within tells whether n is top, or stands below it.
func within(n, top *node.Node) bool {
	if n == top {
		return true
	}
	e := through(top, func(_ string, m *node.Node) api.Errno {
		if m == n {
			return api.ErrLoop
		}
		return api.OK
	})
	return e == api.ErrLoop
}

// fileBytes are those of a file, if there is room for them. That there is none is told ahead of what a read refuses: then Size says how many they would be.
func fileBytes(n *node.Node, room int) ([]byte, api.Errno) {
	h, _ := n.Open()
	b, e := memory.All(h)
	if len(b) > room || e != api.OK && h.Do(api.Op{Do: api.DoSize}).N > int64(room) {
		return nil, api.ErrLong
	}
	return b, e
}

// linkBytes are those of where a link leads.
func linkBytes(n *node.Node) ([]byte, api.Errno) {
	to, e := n.Leads()
	return []byte(to), e
}

// sortBy puts a list into the order of a text that each of its members has: rising byte by byte, the shorter one ahead of one that it begins.
func sortBy[T any](l []T, text func(T) string) {
	slices.SortFunc(l, func(a, b T) int { return strings.Compare(text(a), text(b)) })
}
