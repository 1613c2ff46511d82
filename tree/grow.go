package tree

import (
	"strings"

	"mantle/api"
	"mantle/memory"
	"mantle/node"
)

const canAll = api.CanWrite | api.CanCut | api.CanHoles | api.CanSync

// growing is a tree to which item by item comes.
type growing struct {
	root  *node.Node
	nodes int // without the root, which is no item
	bytes int // of its files
}

// put lays an item into the tree, or tells why it may not come.
func (t *growing) put(x api.Item) api.Errno {
	if e := t.refuses(x); e != api.OK {
		return e
	}
	dir, name, e := t.place(x.Path)
	if e != api.OK {
		return e
	}
	if t.nodes == api.MaxNodes {
		return api.ErrFull
	}
	n, e := grown(x)
	if e != api.OK {
		return e
	}
	t.nodes++
	if x.Kind == api.NodeFile {
		t.bytes += len(x.Data)
	}
	return dir.Add(name, n)
}

// refuses is what is wrong with an item wherever it would stand.
func (t *growing) refuses(x api.Item) api.Errno {
	if len(x.Path) > api.MaxPath || strings.Count(x.Path, "/") >= api.MaxDepth {
		return api.ErrLong
	}
	switch x.Kind {
	case api.NodeFile:
		if len(x.Data) > api.MaxData-t.bytes {
			return api.ErrLong
		}
	case api.NodeDir:
		if len(x.Data) > 0 {
			return api.ErrArg
		}
	case api.NodeLink:
	default:
		return api.ErrArg
	}
	return api.OK
}

// place is the directory in which the path's last name may be put.
func (t *growing) place(path string) (*node.Node, string, api.Errno) {
	names := strings.Split(path, "/")
	for _, name := range names {
		if refusesName(t.root, name) == api.ErrName {
			return nil, "", api.ErrName
		}
	}
	last := len(names) - 1
	dir := t.root
	for _, name := range names[:last] {
		next, e := dir.Get(name)
		if e != api.OK { // ErrDir, too: nothing stands below what is no directory
			return nil, "", api.ErrNone
		}
		dir = next
	}
	if dir.Kind() != api.NodeDir {
		return nil, "", api.ErrDir
	}
	return dir, names[last], refusesName(dir, names[last])
}

// refusesName is ErrName or ErrThere, where the directory would refuse any node under that name. The directory itself is asked, so that what a name is stands in one place: it never takes itself, and tells what is wrong with the name ahead of that.
func refusesName(dir *node.Node, name string) api.Errno {
	if e := dir.Add(name, dir); e == api.ErrName || e == api.ErrThere {
		return e
	}
	return api.OK
}

// grown is a new node of an item of one of the three kinds.
func grown(x api.Item) (*node.Node, api.Errno) {
	switch x.Kind {
	case api.NodeDir:
		return node.Dir(), api.OK
	case api.NodeLink:
		return node.Link(string(x.Data))
	}
	h, e := memory.New(x.Data, canAll)
	return node.File(h), e
}
