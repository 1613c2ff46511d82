package store

import (
	"strconv"

	"mantle/api"
	"mantle/path"
)

// checker goes over a tree, and complains.
type checker struct {
	nodes int
	lines []string
}

// complaints are what is wrong with a tree: a line each.
func complaints(root *dir) []string {
	c := &checker{}
	c.dir("", root)
	if c.nodes > api.MaxNodes {
		c.lines = append(c.lines, strconv.Itoa(c.nodes)+" nodes are too many")
	}
	return c.lines
}

// dir does not go below a path that is too long, so that no tree is too deep for it.
func (c *checker) dir(own string, d *dir) {
	ahead := ""
	for _, x := range d.entries {
		c.nodes++
		p := joined(own, x.name)
		c.name(p, x.name, ahead)
		ahead = x.name
		if tooDeep(p) || len(p) > api.MaxPath {
			c.say(p, "the path is too deep or too long")
			continue
		}
		switch n := x.node.(type) {
		case *link:
			c.link(p, n)
		case *dir:
			c.dir(p, n)
		}
	}
}

// name complains of a name, which must be greater than the one ahead of it.
func (c *checker) name(p, name, ahead string) {
	if path.Check(name) != api.OK {
		c.say(p, "the name may not be")
	}
	if name <= ahead {
		c.say(p, "the name is not greater than the one ahead of it")
	}
}

func (c *checker) link(p string, l *link) {
	if l.to == "" || len(l.to) > api.MaxPath {
		c.say(p, "the link leads nowhere or too far")
	}
}

func (c *checker) say(p, what string) {
	c.lines = append(c.lines, strconv.Quote(p)+": "+what)
}

// complaintsOfDisk are what is wrong with the blocks. That the file refuses to be read is no fault of what stands there, and no complaint.
func (s *Store) complaintsOfDisk() []string {
	var lines []string
	if free := s.sides.disk.Left(); free > 0 {
		lines = append(lines, strconv.Itoa(free)+" blocks of the store are free")
	}
	b, e := s.sides.read(s.now.side())
	if e != api.OK {
		return lines
	}
	if _, v, ok := treeOn(b); !ok || v != s.now {
		lines = append(lines, "the tree of the last Sync is no more on the disk")
	}
	return lines
}
