package node

import (
	"mantle/api"
	"mantle/face"
)

// kind is what a node is: one of the five types below, which are told apart by type switches.
type kind interface {
	size() int64 // as List tells it
}

// holder is a directory; and a mount passes for one, by what it embeds. So a switch that must tell the two apart asks for a mount first.
type holder interface {
	kind
	held() *directory
}

type file struct {
	handle *face.Handle
}

func (f *file) size() int64 { return f.handle.Do(api.Op{Do: api.DoSize}).N }

// directory knows the one in which it stands, so that the way up is short: how deep it is, and what it lies below.
type directory struct {
	self  *Node      // the node that is this directory: what a mount of it has under it
	in    *directory // nil, if it stands nowhere
	nodes map[string]*Node
}

func (d *directory) size() int64 { return int64(len(d.nodes)) }

func (d *directory) held() *directory { return d }

type link struct {
	to string
}

func (l *link) size() int64 { return int64(len(l.to)) }

type mount struct {
	*directory
}

// size hides the directory's: List tells nothing of what is under a mount.
func (m *mount) size() int64 { return 0 }

type white struct{}

func (w *white) size() int64 { return 0 }

// what is the kind behind n; nil where there is none.
func (n *Node) what() kind {
	if n == nil {
		return nil
	}
	return n.is
}

// directory is the one that n is, or the error with which all calls of directories begin.
func (n *Node) directory() (*directory, api.Errno) {
	switch x := n.what().(type) {
	case nil:
		return nil, api.ErrNil
	case *mount: // ahead of holder, for which it would pass
		return nil, api.ErrDir
	case holder:
		return x.held(), api.OK
	}
	return nil, api.ErrDir
}

// refuses is why d may not hold m under name; OK, if it may.
func (d *directory) refuses(name string, m *Node) api.Errno {
	if !isName(name) {
		return api.ErrName
	}
	if _, there := d.nodes[name]; there {
		return api.ErrThere
	}
	if len(d.nodes) >= api.MaxNodes {
		return api.ErrFull
	}
	if x, e := m.directory(); e == api.OK {
		if d.within(x) {
			return api.ErrLoop
		}
		if x.in != nil {
			return api.ErrThere
		}
	}
	if d.depth()+m.height()+1 > api.MaxDepth {
		return api.ErrLong
	}
	return api.OK
}

// within tells whether d is top, or lies below it.
func (d *directory) within(top *directory) bool {
	for ; d != nil; d = d.in {
		if d == top {
			return true
		}
	}
	return false
}

// depth is how many directories d lies below.
func (d *directory) depth() int {
	deep := 0
	for up := d.in; up != nil; up = up.in {
		deep++
	}
	return deep
}

// height is how many nodes the longest way down from n has. No directory lies deeper than MaxDepth, so neither does this go.
func (n *Node) height() int {
	d, e := n.directory()
	if e != api.OK {
		return 0
	}
	high := 0
	for _, m := range d.nodes {
		high = max(high, m.height()+1)
	}
	return high
}
