package path_test

import (
	"strings"
	"testing"

	"mantle/api"
	"mantle/path"
)

// placed is a Place that the test tells itself. It is held against the paper, too.
func placed(t *testing.T, root *sheet, p string, dir *sheet, name string) {
	t.Helper()
	if n, s, e := path.Place(root.node, p); n != dir.node || s != name || e != api.OK {
		t.Errorf("Place(%.60q) answers a node of kind %d, %.60q, %v", p, n.Kind(), s, e)
	}
	wantAll(t, root, p)
}

// notPlaced is a Place whose error the test tells itself.
func notPlaced(t *testing.T, root *sheet, p string, want api.Errno) {
	t.Helper()
	if n, s, e := path.Place(nodeOf(root), p); n != nil || s != "" || e != want {
		t.Errorf("Place(%.60q) answers %v, %.60q, %v, want %v", p, n != nil, s, e, want)
	}
	wantAll(t, root, p)
}

// P20.4: the first errors of Walk, ahead of all others.
func TestP204FirstErrors(t *testing.T) {
	root, at := grove(t)
	long := strings.Repeat("a/", 2049)
	for _, p := range []string{"", "a", "..", "\x00", "no/x", long, strings.Repeat("/", 4097)} {
		notPlaced(t, nil, p, api.ErrNil)
		for _, x := range []string{"f", "al", "a/m", "a/w"} {
			notPlaced(t, at[x], p, api.ErrDir)
		}
	}
	for _, p := range []string{long, strings.Repeat("/", 4097), strings.Repeat("\x00", 4097), strings.Repeat("../", 1366), "no/" + long, strings.Repeat("/", 4096) + "a"} {
		notPlaced(t, root, p, api.ErrLong)
	}
	placed(t, root, strings.Repeat("/", 4095)+"x", root, "x")
	placed(t, root, "a"+strings.Repeat("/", 4094)+"x", at["a"], "x")
}

// P20.4: no part, or a last one that is no name: told ahead of what the walk would tell.
func TestP204NoName(t *testing.T) {
	root, _ := grove(t)
	for _, p := range []string{"", "/", "//", ".", "./.", "/./", strings.Repeat("/", 4096)} {
		notPlaced(t, root, p, api.ErrName)
	}
	for _, last := range []string{"..", "../", ".././", "\x00", "a\x00", strings.Repeat("n", 65), strings.Repeat("n", 65) + "/."} {
		for _, ahead := range []string{"", "/", "a/", "a/b/", "no/", "f/", "f/x/", "r/", "a/w/", "z/mb/", "z/bad/", "../", "\x00/"} {
			notPlaced(t, root, ahead+last, api.ErrName)
		}
	}
}

// P20.4: what stands at the name makes no difference: nothing, a file, a directory, a link, a mount, a white.
func TestP204WhateverStands(t *testing.T) {
	root, at := grove(t)
	for _, name := range []string{"new", "f", "b", "l", "up", "abs", "m", "w", "...", strings.Repeat("n", 64)} {
		for _, p := range []string{"a/" + name, "/a/" + name, "a//" + name + "/", "a/" + name + "/.", "./a/./" + name + "//.", "a/b/../" + name, "z/../a/" + name, "dots/" + name, "a/m/a/" + name, "a/here/" + name, "a/b/top/a/" + name} {
			placed(t, root, p, at["a"], name)
		}
		placed(t, at["a"], name, at["a"], name)
		placed(t, at["a"], "../"+name, at["a"], name)
	}
	for _, name := range []string{"r", "r2", "al", "a", "new"} {
		for _, p := range []string{name, "/" + name, "../" + name, "a/up/" + name, "a/m/" + name, "z/mb/two/" + name} {
			placed(t, root, p, root, name)
		}
	}
}

// P20.4: in a directory under a mount, and up from there.
func TestP204Mount(t *testing.T) {
	root, at := grove(t)
	placed(t, root, "z/mb", at["z"], "mb")
	placed(t, root, "z/mb/new", at["a/b"], "new")
	placed(t, root, "z/mb/c/new", at["a/b/c"], "new")
	placed(t, root, "z/mb/../new", at["z"], "new")
	placed(t, root, "z/in/new", at["a/b"], "new")
	placed(t, root, "z/in/../new", at["z"], "new")
	placed(t, root, "a/m/new", root, "new")
	placed(t, root, "a/m/../new", at["a"], "new")
}

// P20.4: links ahead of the last part are all followed, the one at the end of what is walked, too.
func TestP204Links(t *testing.T) {
	root, at := grove(t)
	for p, x := range map[string]string{"z/far": "a/b/c", "z/out": "z", "a/up": "", "a/abs": "z", "a/here": "a", "dots": "a", "z/in": "a/b", "a/b/strokes": "", "z/dotted": "a/b"} {
		placed(t, root, p+"/new", at[x], "new")
		placed(t, root, p+"//./f/", at[x], "f")
	}
	chain, _ := chained(t, 1)
	d := chain.dir(t, "d")
	chain.link(t, "kx", "d")
	for i := 2; i <= 17; i++ {
		chain.link(t, "k"+strings.Repeat("x", i), "k"+strings.Repeat("x", i-1))
	}
	placed(t, chain, "kxx/new", d, "new")
	placed(t, chain, "k"+strings.Repeat("x", 16)+"/new", d, "new")
	placed(t, chain, "k"+strings.Repeat("x", 16)+"/../l1", chain, "l1") // the last one is not followed
	notPlaced(t, chain, "k"+strings.Repeat("x", 17)+"/new", api.ErrLoop)
	placed(t, chain, "k"+strings.Repeat("x", 17), chain, "k"+strings.Repeat("x", 17))
}

// P20.4: the walk's errors.
func TestP204WalkErrors(t *testing.T) {
	root, _ := grove(t)
	for ahead, e := range map[string]api.Errno{
		"no": api.ErrNone, "no/no": api.ErrNone, "a/no": api.ErrNone, "a/w": api.ErrNone, "z/white": api.ErrNone, "z/none": api.ErrNone, "no/..": api.ErrNone, "no/\x00": api.ErrNone,
		"\x00": api.ErrName, "a/" + strings.Repeat("n", 65): api.ErrName, "z/bad": api.ErrName, "z/long": api.ErrName,
		"f": api.ErrDir, "a/f": api.ErrDir, "al": api.ErrDir, "f/x": api.ErrDir, "f/..": api.ErrDir, "z/behind": api.ErrDir, "z/filed": api.ErrDir, "f/.": api.ErrDir, "a/back": api.ErrDir,
		"r": api.ErrLoop, "r2": api.ErrLoop, "r/x": api.ErrLoop, "z/../r3": api.ErrLoop,
	} {
		notPlaced(t, root, ahead+"/new", e)
		notPlaced(t, root, "/"+ahead+"/f/", e)
	}
}

// P20.4: nothing is put where Place says, and nothing else is changed.
func TestP204ChangesNothing(t *testing.T) {
	root, at := grove(t)
	placed(t, root, "a/new", at["a"], "new")
	placed(t, root, "a/f", at["a"], "f")
	root.wantStands(t)
	if _, e := path.Walk(root.node, "a/new", true); e != api.ErrNone {
		t.Errorf("behind Place Walk answers %v", e)
	}
}
