package snap_test

import (
	"slices"
	"sort"
	"strings"

	"mantle/api"
)

// What the chapter says, word for word, on lists that are searched from their beginning to their end.

func dir(path string) api.Item { return api.Item{Path: path, Kind: api.NodeDir} }

func file(path, b string) api.Item { return api.Item{Path: path, Data: []byte(b)} }

func link(path, to string) api.Item {
	return api.Item{Path: path, Kind: api.NodeLink, Data: []byte(to)}
}

func gone(was api.Item) api.Change {
	return api.Change{Kind: api.EvGone, Path: was.Path, Was: was}
}

func made(is api.Item) api.Change {
	return api.Change{Kind: api.EvMade, Path: is.Path, Is: is}
}

func wrote(was, is api.Item) api.Change {
	return api.Change{Kind: api.EvWrote, Path: is.Path, Was: was, Is: is}
}

// ahead is the order of paths: byte by byte, and the shorter one first.
func ahead(a, b string) bool {
	for i := range min(len(a), len(b)) {
		if a[i] != b[i] {
			return a[i] < b[i]
		}
	}
	return len(a) < len(b)
}

// inOrder is a copy of a list, in that order.
func inOrder(l []api.Item) []api.Item {
	l = slices.Clone(l)
	sort.SliceStable(l, func(i, j int) bool { return ahead(l[i].Path, l[j].Path) })
	return l
}

// isName is chapter 18's word, byte by byte.
func isName(s string) bool {
	for i := range len(s) {
		if s[i] == 0 || s[i] == '/' {
			return false
		}
	}
	return len(s) >= 1 && len(s) <= 64 && s != "." && s != ".."
}

// parentOf is the path without its last name.
func parentOf(path string) string {
	at := strings.LastIndexByte(path, '/')
	return path[:max(at, 0)]
}

// paperItem is chapter 19's Make of one item: stands is what came ahead, by path, and bytes those of its files.
func paperItem(stands map[string]int8, bytes int, x api.Item) api.Errno {
	parent, there := stands[parentOf(x.Path)]
	root := parentOf(x.Path) == ""
	_, taken := stands[x.Path]
	switch names := strings.Split(x.Path, "/"); {
	case len(x.Path) > 4096 || len(names) > 64:
		return api.ErrLong
	case x.Kind < 0 || x.Kind > 2 || x.Kind == 1 && len(x.Data) > 0:
		return api.ErrArg
	case x.Kind == 0 && bytes+len(x.Data) > 4194304:
		return api.ErrLong
	case slices.ContainsFunc(names, func(s string) bool { return !isName(s) }):
		return api.ErrName
	case !root && !there:
		return api.ErrNone
	case !root && parent != 1:
		return api.ErrDir
	case taken:
		return api.ErrThere
	case len(stands) == 4096:
		return api.ErrFull
	case x.Kind == 2 && len(x.Data) == 0:
		return api.ErrName
	case x.Kind == 2 && len(x.Data) > 4096:
		return api.ErrLong
	}
	return api.OK
}

// paperTree is the error of a list that is no tree of items.
func paperTree(l []api.Item) api.Errno {
	stands, bytes := map[string]int8{}, 0
	for _, x := range l {
		if e := paperItem(stands, bytes, x); e != api.OK {
			return e
		}
		stands[x.Path] = x.Kind
		if x.Kind == 0 {
			bytes += len(x.Data)
		}
	}
	for i := range max(len(l)-1, 0) {
		if !ahead(l[i].Path, l[i+1].Path) {
			return api.ErrArg
		}
	}
	return api.OK
}

// place is where a path stands in a list, or -1.
func place(l []api.Item, path string) int {
	return slices.IndexFunc(l, func(x api.Item) bool { return x.Path == path })
}

// onPaper is what stands at a path, or that nothing does.
type onPaper struct {
	item  api.Item
	there bool
}

func at(l []api.Item, path string) onPaper {
	i := place(l, path)
	if i < 0 {
		return onPaper{}
	}
	return onPaper{l[i], true}
}

// like is the word alike; what is not there is alike with what is not there.
func (x onPaper) like(y onPaper) bool {
	if !x.there || !y.there {
		return x.there == y.there
	}
	return x.item.Kind == y.item.Kind && string(x.item.Data) == string(y.item.Data)
}

// pathsOf are all paths that one of the lists has, in order.
func pathsOf(lists ...[]api.Item) (paths []string) {
	met := map[string]int{}
	for _, l := range lists {
		for _, x := range l {
			if met[x.Path] == 0 {
				paths = append(paths, x.Path)
			}
			met[x.Path]++
		}
	}
	sort.Slice(paths, func(i, j int) bool { return ahead(paths[i], paths[j]) })
	return paths
}

// paperDiff is P25.1.
func paperDiff(a, b []api.Item) (l []api.Change, e api.Errno) {
	if e := paperTree(a); e != api.OK {
		return nil, e
	}
	if e := paperTree(b); e != api.OK {
		return nil, e
	}
	for _, p := range pathsOf(a, b) {
		x, y := at(a, p), at(b, p)
		switch {
		case x.there && !y.there:
			l = append(l, gone(x.item))
		case !x.there && y.there:
			l = append(l, made(y.item))
		case !x.like(y):
			l = append(l, wrote(x.item, y.item))
		}
	}
	return l, api.OK
}

// paperFits is the second half of P25.2's words.
func paperFits(l []api.Item, c api.Change) bool {
	now := at(l, c.Path)
	switch c.Kind {
	case 0:
		return c.Path == c.Is.Path && !now.there
	case 1:
		return c.Path == c.Was.Path && c.Path == c.Is.Path && now.there && now.like(onPaper{c.Was, true})
	case 2:
		return c.Path == c.Was.Path && now.there && now.like(onPaper{c.Was, true})
	}
	return false
}

// paperApply is P25.2.
func paperApply(a []api.Item, l []api.Change) ([]api.Item, api.Errno, int) {
	if e := paperTree(a); e != api.OK {
		return nil, e, -1
	}
	a = slices.Clone(a)
	for i, c := range l {
		if !paperFits(a, c) {
			return nil, api.ErrPatch, i
		}
		switch c.Kind {
		case 0:
			a = append(a, c.Is)
		case 1:
			a[place(a, c.Path)] = c.Is
		case 2:
			a = slices.Delete(a, place(a, c.Path), place(a, c.Path)+1)
		}
	}
	a = inOrder(a)
	if paperTree(a) != api.OK {
		return nil, api.ErrPatch, len(l)
	}
	return a, api.OK, 0
}

// paperUndo is P25.3.
func paperUndo(l []api.Change) (out []api.Change) {
	for i := range l {
		c := l[len(l)-1-i]
		switch c.Kind {
		case 0:
			c = api.Change{Kind: 2, Path: c.Path, Was: c.Is, Is: c.Was}
		case 1:
			c = api.Change{Kind: 1, Path: c.Path, Was: c.Is, Is: c.Was}
		case 2:
			c = api.Change{Kind: 0, Path: c.Path, Was: c.Is, Is: c.Was}
		}
		out = append(out, c)
	}
	return out
}

// paperBoth is P25.4.
func paperBoth(base, a, b []api.Item) (l []api.Item, clash []string, e api.Errno) {
	for _, x := range [][]api.Item{base, a, b} {
		if e := paperTree(x); e != api.OK {
			return nil, nil, e
		}
	}
	for _, p := range pathsOf(base, a, b) {
		was, x, y := at(base, p), at(a, p), at(b, p)
		var is onPaper
		switch {
		case x.like(y):
			is = x
		case x.like(was):
			is = y
		case y.like(was):
			is = x
		default:
			is = was
			clash = append(clash, p)
		}
		if is.there {
			l = append(l, is.item)
		}
	}
	for {
		i := firstLost(l)
		if i < 0 {
			break
		}
		clash = append(clash, l[i].Path)
		l = slices.Delete(l, i, i+1)
	}
	sort.Slice(clash, func(i, j int) bool { return ahead(clash[i], clash[j]) })
	return l, slices.Compact(clash), api.OK
}

// firstLost is where the first item stands at whose parent no directory does, or -1.
func firstLost(l []api.Item) int {
	dirs := map[string]int{"": 1}
	for _, x := range l {
		if x.Kind == 1 {
			dirs[x.Path] = 1
		}
	}
	return slices.IndexFunc(l, func(x api.Item) bool { return dirs[parentOf(x.Path)] == 0 })
}
