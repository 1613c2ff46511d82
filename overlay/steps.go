package overlay

import (
	"slices"

	"mantle/api"
	"mantle/node"
)

// steps are what one call does to the upper tree, with how each of them is taken back.
type steps struct {
	upper *node.Node
	back  []func()
}

// bring takes all of do's steps, or none: if it answers an error, those that were taken are taken back, the last one first.
func bring(upper *node.Node, do func(s *steps) api.Errno) (e api.Errno) {
	s := &steps{upper: upper}
	defer func() {
		if e == api.OK {
			return
		}
		for _, back := range slices.Backward(s.back) {
			back()
		}
	}()
	return do(s)
}

func (s *steps) add(dir *node.Node, name string, n *node.Node) api.Errno {
	e := dir.Add(name, n)
	if e == api.OK {
		s.back = append(s.back, func() { dir.Take(name) })
	}
	return e
}

// take takes a name away, if there is one.
func (s *steps) take(dir *node.Node, name string) {
	if n, e := dir.Take(name); e == api.OK {
		s.back = append(s.back, func() { dir.Add(name, n) })
	}
}

// parents is the upper tree's directory at a path, made with all on the way to it that was not there.
func (s *steps) parents(names []string) (*node.Node, api.Errno) {
	dir := s.upper
	for _, name := range names {
		next, e := dir.Get(name)
		if e == api.ErrNone {
			next = node.Dir()
			e = s.add(dir, name, next)
		}
		if e != api.OK {
			return nil, e
		}
		dir = next
	}
	return dir, api.OK
}

// clear makes room at a path of the upper tree: the parents come, and what is held there goes. It tells the directory and the name.
func (s *steps) clear(names []string) (*node.Node, string, api.Errno) {
	last := len(names) - 1
	dir, e := s.parents(names[:last])
	if e != api.OK {
		return nil, "", e
	}
	s.take(dir, names[last])
	return dir, names[last], api.OK
}

// put lays a node at a path of the upper tree, in the place of what is held there.
func (s *steps) put(names []string, n *node.Node) api.Errno {
	dir, name, e := s.clear(names)
	if e != api.OK {
		return e
	}
	return s.add(dir, name, n)
}

// own is the upper tree's file at the path at which n stands: n itself, or one with n's bytes, that is brought up.
func (s *steps) own(names []string, n *node.Node) (*node.Node, api.Errno) {
	if up := (layers{s.upper}).at(names); up != nil {
		return up, api.OK
	}
	x, e := itemOf("", n)
	if e != api.OK {
		return nil, e
	}
	up, e := made(x)
	if e != api.OK {
		return nil, e
	}
	return up, s.put(names, up)
}
