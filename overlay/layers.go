package overlay

import (
	"maps"
	"slices"

	"mantle/api"
	"mantle/node"
)

// layers are directories that are merged, in their order.
type layers []*node.Node

// merged is what is merged at a name in them.
func (l layers) merged(name string) layers {
	var in layers
dirs:
	for _, d := range l {
		n, e := d.Get(name)
		if e != api.OK {
			continue dirs
		}
		switch n.Kind() {
		case api.NodeDir:
			in = append(in, n)
		default:
			break dirs
		}
	}
	return in
}

// down is what is merged at a path.
func (l layers) down(names []string) layers {
	for _, name := range names {
		l = l.merged(name)
	}
	return l
}

// first is what stands at a name in them; nil, if nothing does.
func (l layers) first(name string) *node.Node {
	for _, d := range l {
		n, e := d.Get(name)
		if e != api.OK {
			continue
		}
		if n.Kind() == api.NodeWhite {
			return nil
		}
		return n
	}
	return nil
}

// at is what stands at a path; nil, if nothing does. At no names that is the first of them, a directory as they all are.
func (l layers) at(names []string) *node.Node {
	if len(names) == 0 {
		return l[0]
	}
	last := len(names) - 1
	return l.down(names[:last]).first(names[last])
}

// entries are what stands in them, by names. The Size of a directory is that of the first layer's alone.
func (l layers) entries() map[string]api.Entry {
	found := map[string]api.Entry{}
	for _, d := range l {
		own, _ := d.List()
		for _, x := range own {
			if _, hidden := found[x.Name]; !hidden {
				found[x.Name] = x
			}
		}
	}
	maps.DeleteFunc(found, func(_ string, x api.Entry) bool { return x.Kind == api.NodeWhite })
	return found
}

// names are those at which something stands in them, rising.
func (l layers) names() []string { return slices.Sorted(maps.Keys(l.entries())) }

// list is their entries by rising names, each with its Size.
func (l layers) list() []api.Entry {
	found := l.entries()
	var out []api.Entry
	for _, name := range slices.Sorted(maps.Keys(found)) {
		x := found[name]
		if x.Kind == api.NodeDir {
			x.Size = int64(len(l.merged(name).entries()))
		}
		out = append(out, x)
	}
	return out
}
