package snap_test

import (
	"slices"
	"strings"

	"mantle/api"
)

// chance is a row of numbers that hangs on its beginning alone.
type chance uint64

func (c *chance) below(n int) int {
	*c = *c*6364136223846793005 + 1442695040888963407
	return int(uint64(*c)>>33) % n
}

func pick[T any](c *chance, l ...T) T { return l[c.below(len(l))] }

// name is one of a few, so that they meet; some sort around a stroke.
func (c *chance) name() string {
	return pick(c, "a", "b", "a.", "a-", "a0", "ab", "a.b", "\xff", "!")
}

// bytes are few, so that they are often alike; those of a link are never none.
func (c *chance) bytes() string { return pick(c, "", "x", "x", "xy", "y", "z") }

// item is one of the three kinds.
func (c *chance) item(path string) api.Item {
	switch c.below(5) {
	case 0, 1:
		return file(path, c.bytes())
	case 2:
		return link(path, "x"+c.bytes())
	}
	return dir(path)
}

// sown is a tree of items to which some come, wherever there is a place for them.
func (c *chance) sown(l []api.Item, most int) []api.Item {
	for range c.below(most + 1) {
		path := c.name()
		if len(l) > 0 {
			if in := l[c.below(len(l))]; in.Kind == api.NodeDir && c.below(4) > 0 {
				path = in.Path + "/" + path
			}
		}
		if place(l, path) < 0 {
			l = append(l, c.item(path))
		}
	}
	return inOrder(l)
}

// list is a tree of items.
func (c *chance) list(most int) []api.Item { return c.sown(nil, most) }

// on is another tree that comes of one: things are gone, are others, come.
func (c *chance) on(l []api.Item, most int) []api.Item {
	l = slices.Clone(l)
	for range c.below(most + 1) {
		if len(l) == 0 {
			break
		}
		x := l[c.below(len(l))]
		y := c.item(x.Path)
		if y.Kind != api.NodeDir || x.Kind == api.NodeDir {
			l = slices.DeleteFunc(l, func(z api.Item) bool { return strings.HasPrefix(z.Path, x.Path+"/") })
		}
		if c.below(3) == 0 {
			l = slices.Delete(l, place(l, x.Path), place(l, x.Path)+1)
		} else {
			l[place(l, x.Path)] = y
		}
	}
	return c.sown(l, most)
}

// spoilt is a list that may be no tree of items any more.
func (c *chance) spoilt(l []api.Item) []api.Item {
	l = slices.Clone(l)
	for range c.below(3) {
		x := c.item(c.name() + pick(c, "", "", "/", "/.", "/a", "\x00"))
		x.Kind += int8(pick(c, 0, 0, 0, -1, 2))
		switch i := c.below(len(l) + 1); {
		case c.below(2) == 0 || i == len(l):
			l = slices.Insert(l, i, x)
		case c.below(2) == 0:
			l = slices.Delete(l, i, i+1)
		default:
			j := c.below(len(l))
			l[i], l[j] = l[j], l[i]
		}
	}
	return l
}

// loose is a change of any kind, of items that have little to do with it.
func (c *chance) loose(l []api.Item) api.Change {
	one := func() api.Item {
		if len(l) > 0 && c.below(4) > 0 {
			return l[c.below(len(l))]
		}
		return c.item(c.name())
	}
	d := api.Change{Kind: int8(c.below(3)), Was: one(), Is: one()}
	if c.below(3) > 0 {
		d.Is.Path = d.Was.Path
	}
	d.Path = pick(c, d.Was.Path, d.Was.Path, d.Is.Path)
	if c.below(12) == 0 {
		d.Kind = int8(c.below(256) - 128)
	}
	return d
}
