package snap

import (
	"maps"
	"slices"
	"strings"

	"mantle/api"
)

// changes make a into b, both of which are trees of items.
func changes(a, b []api.Item) (l []api.Change) {
	sideBySide(a, b, itemPath, func(x, y *api.Item) {
		switch {
		case y == nil:
			l = append(l, api.Change{Kind: api.EvGone, Path: x.Path, Was: copied(*x)})
		case x == nil:
			l = append(l, api.Change{Kind: api.EvMade, Path: y.Path, Is: copied(*y)})
		case !alike(*x, *y):
			l = append(l, api.Change{Kind: api.EvWrote, Path: x.Path, Was: copied(*x), Is: copied(*y)})
		}
	})
	return l
}

func itemPath(x api.Item) string { return x.Path }

func changePath(c api.Change) string { return c.Path }

// sameEnd tells whether two changes of one item leave the same behind.
func sameEnd(x, y api.Change) bool { return x.Kind == y.Kind && alike(x.Is, y.Is) }

// undone is the change that takes c back, with bytes of its own.
func undone(c api.Change) api.Change {
	c.Was, c.Is = copied(c.Was), copied(c.Is)
	switch c.Kind {
	case api.EvGone:
		c.Kind = api.EvMade
	case api.EvMade:
		c.Kind = api.EvGone
	case api.EvWrote:
	default:
		return c
	}
	c.Was, c.Is = c.Is, c.Was
	return c
}

// table is items by their paths, while they change.
type table map[string]api.Item

func tableOf(l []api.Item) table {
	t := table{}
	for _, x := range l {
		t[x.Path] = x
	}
	return t
}

// fits tells whether a change can be made here.
func (t table) fits(c api.Change) bool {
	now, there := t[c.Path]
	switch c.Kind {
	case api.EvMade:
		return c.Is.Path == c.Path && !there
	case api.EvGone:
		return c.Was.Path == c.Path && there && alike(now, c.Was)
	case api.EvWrote:
		return c.Was.Path == c.Path && c.Is.Path == c.Path && there && alike(now, c.Was)
	}
	return false
}

// apply makes a change that fits.
func (t table) apply(c api.Change) {
	if c.Kind == api.EvGone {
		delete(t, c.Path)
		return
	}
	t[c.Path] = c.Is
}

// items are all of them, in order.
func (t table) items() []api.Item {
	return slices.SortedFunc(maps.Values(t), byPath)
}

// dropLost takes out all items at whose parent no directory stands, and tells their paths. Once through is enough: a parent is ahead of what is in it.
func (t table) dropLost() (lost []string) {
	for _, x := range t.items() {
		at := strings.LastIndexByte(x.Path, '/')
		if at < 0 || t[x.Path[:at]].Kind == api.NodeDir {
			continue
		}
		delete(t, x.Path)
		lost = append(lost, x.Path)
	}
	return lost
}
