package overlay

import (
	"strings"

	"mantle/api"
	"mantle/node"
	"mantle/path"
	"mantle/tree"
)

// namesOf are the names of a path; none at the root.
func namesOf(p string) ([]string, api.Errno) {
	if p == "" {
		return nil, api.OK
	}
	if len(p) > api.MaxPath {
		return nil, api.ErrName
	}
	names := strings.Split(p, "/")
	for _, name := range names {
		if e := path.Check(name); e != api.OK {
			return nil, e
		}
	}
	return names, api.OK
}

// itemOf is what is told of a node that stands at a path.
func itemOf(p string, n *node.Node) (api.Item, api.Errno) {
	x, e := api.Item{Path: p, Kind: n.Kind()}, api.OK
	switch x.Kind {
	case api.NodeFile:
		x.Data, e = bytesOf(n)
	case api.NodeLink:
		to, _ := n.Leads()
		x.Data = []byte(to)
	}
	if e != api.OK {
		return api.Item{}, e
	}
	return x, api.OK
}

// bytesOf are a file's, as tree tells those of all files: it is laid into a tree of its own, as a file may stand anywhere.
func bytesOf(n *node.Node) ([]byte, api.Errno) {
	d := node.Dir()
	d.Add("file", n)
	l, e := tree.Items(d)
	if e != api.OK {
		return nil, e
	}
	return l[0].Data, api.OK
}

// made is a new node of an item: a file, a directory or a link.
func made(i api.Item) (*node.Node, api.Errno) {
	switch i.Kind {
	case api.NodeDir:
		return node.Dir(), api.OK
	case api.NodeLink:
		return node.Link(string(i.Data))
	}
	d, e, _ := tree.Make([]api.Item{{Path: "file", Data: i.Data}})
	if e != api.OK {
		return nil, e
	}
	return d.Take("file")
}
