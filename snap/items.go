package snap

import (
	"bytes"
	"slices"
	"strings"

	"mantle/api"
	"mantle/tree"
)

// refuses is the error of the first list that is no tree of items.
func refuses(lists ...[]api.Item) api.Errno {
	for _, l := range lists {
		if _, e, _ := tree.Make(l); e != api.OK {
			return e
		}
		if !slices.IsSortedFunc(l, byPath) {
			return api.ErrArg
		}
	}
	return api.OK
}

func byPath(x, y api.Item) int { return strings.Compare(x.Path, y.Path) }

// alike holds two items of one path against one another.
func alike(x, y api.Item) bool {
	return x.Kind == y.Kind && bytes.Equal(x.Data, y.Data)
}

// copied is an item with bytes of its own.
func copied(x api.Item) api.Item {
	x.Data = bytes.Clone(x.Data)
	return x
}

// copies is a list with bytes of its own.
func copies(l []api.Item) []api.Item {
	out := make([]api.Item, 0, len(l))
	for _, x := range l {
		out = append(out, copied(x))
	}
	return out
}

// sideBySide goes over all paths that one of two lists has, in order, as both lists are, and shows what each of them has there, or nil.
func sideBySide[T any](a, b []T, path func(T) string, show func(x, y *T)) {
paths:
	for i := range a {
		for len(b) > 0 {
			switch strings.Compare(path(a[i]), path(b[0])) {
			case -1:
				show(&a[i], nil)
				continue paths
			case 0:
				show(&a[i], &b[0])
				b = b[1:]
				continue paths
			}
			show(nil, &b[0])
			b = b[1:]
		}
		show(&a[i], nil)
	}
	for i := range b {
		show(nil, &b[i])
	}
}
