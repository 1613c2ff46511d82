package store

import (
	"bytes"
	"slices"
	"strings"

	"mantle/api"
)

// node is what stands at a path: a *file, a *dir or a *link; nil is nothing.
type node any

type file struct{ data []byte }

type link struct{ to string }

// dir is a directory: its entries stand by rising names.
type dir struct{ entries []entry }

type entry struct {
	name string
	node node
}

// made is a new node of one of the three kinds.
func made(kind int8, to string) node {
	switch kind {
	case api.NodeDir:
		return &dir{}
	case api.NodeLink:
		return &link{to}
	}
	return &file{}
}

// itemOf is a node with its path, in new memory.
func itemOf(p string, n node) api.Item {
	x := api.Item{Path: p}
	switch n := n.(type) {
	case *file:
		x.Kind, x.Data = api.NodeFile, bytes.Clone(n.data)
	case *dir:
		x.Kind = api.NodeDir
	case *link:
		x.Kind, x.Data = api.NodeLink, []byte(n.to)
	}
	return x
}

// find tells where a name stands, or would stand.
func (d *dir) find(name string) (int, bool) {
	return slices.BinarySearchFunc(d.entries, name, func(x entry, name string) int { return strings.Compare(x.name, name) })
}

func (d *dir) get(name string) node {
	i, ok := d.find(name)
	if !ok {
		return nil
	}
	return d.entries[i].node
}

// put lays a node down under a name that is not there.
func (d *dir) put(name string, n node) {
	i, _ := d.find(name)
	d.entries = slices.Insert(d.entries, i, entry{name, n})
}

// take takes a node away whose name is there.
func (d *dir) take(name string) node {
	i, _ := d.find(name)
	n := d.entries[i].node
	d.entries = slices.Delete(d.entries, i, i+1)
	return n
}

// at is what stands at a clean path; nothing stands below what is no directory.
func (d *dir) at(p string) node {
	var n node = d
	for p != "" {
		here, ok := n.(*dir)
		if !ok {
			return nil
		}
		var name string
		name, p, _ = strings.Cut(p, "/")
		n = here.get(name)
	}
	return n
}

// place is the directory in which a path's last name stands, or would stand.
func (d *dir) place(p string) (*dir, string, api.Errno) {
	stroke := strings.LastIndexByte(p, '/')
	switch parent := d.at(p[:max(stroke, 0)]).(type) {
	case nil:
		return nil, "", api.ErrNone
	case *dir:
		return parent, p[stroke+1:], api.OK
	default:
		return nil, "", api.ErrDir
	}
}

// vacant is as place, but nothing may stand there yet.
func (d *dir) vacant(p string) (*dir, string, api.Errno) {
	parent, name, e := d.place(p)
	if e != api.OK {
		return nil, "", e
	}
	if parent.get(name) != nil {
		return nil, "", api.ErrThere
	}
	return parent, name, api.OK
}

// each tells all that stands below a directory, with its path, which begins with the directory's own.
func (d *dir) each(own string, tell func(p string, n node)) {
	for _, x := range d.entries {
		p := joined(own, x.name)
		tell(p, x.node)
		if below, ok := x.node.(*dir); ok {
			below.each(p, tell)
		}
	}
}

// count tells how many nodes stand below a directory.
func (d *dir) count() int {
	n := len(d.entries)
	for _, x := range d.entries {
		if below, ok := x.node.(*dir); ok {
			n += below.count()
		}
	}
	return n
}

// outgrows tells whether a path would be too deep or too long, if the node stood at to.
func outgrows(n node, to string) bool {
	grown := tooDeep(to)
	if d, ok := n.(*dir); ok {
		d.each(to, func(p string, _ node) { grown = grown || tooDeep(p) || len(p) > api.MaxPath })
	}
	return grown
}

// tooDeep tells whether a path has too many names.
func tooDeep(p string) bool { return strings.Count(p, "/") >= api.MaxDepth }

// joined is a name's path in the directory of that path.
func joined(own, name string) string {
	if own == "" {
		return name
	}
	return own + "/" + name
}

// resized is a copy of so many bytes: the first ones, and noughts.
func resized(data []byte, size int) []byte {
	b := make([]byte, size)
	copy(b, data)
	return b
}
