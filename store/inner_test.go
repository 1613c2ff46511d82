package store

import (
	"bytes"
	"strings"
	"testing"

	"mantle/api"
	"mantle/disk"
	"mantle/face"
	"mantle/memory"
	"mantle/tree"
)

// laid is a disk of n blocks, all of them taken, with these bytes on its two sides.
func laid(t *testing.T, n int, one, two []byte) *face.Handle {
	t.Helper()
	h, e := memory.New(nil, 15)
	if e != api.OK {
		t.Fatal(e)
	}
	d, e := disk.Format(h, n)
	if e != api.OK {
		t.Fatal(e)
	}
	s := sidesOf(h, d)
	for _, e := range []api.Errno{s.take(), s.write(0, one), s.write(1, two)} {
		if e != api.OK {
			t.Fatal(e)
		}
	}
	return h
}

// wantParsed holds of a text that it is a tree just where it is the very one that the tree is written down as; and that a store with this text on its disk is one just then.
func wantParsed(t *testing.T, text []byte) bool {
	t.Helper()
	root, ok := parsed(text)
	s, e := Open(laid(t, 64, sideOf(0, text), nil))
	if ok != (e == api.OK) {
		t.Fatalf("%q is a tree: %v, but Open tells %v", text, ok, e)
	}
	if !ok {
		return false
	}
	if got := written(&root, len(text)); !bytes.Equal(got, text) {
		t.Fatalf("%q is read as what is written down as %q", text, got)
	}
	l, e := s.Items()
	if e != api.OK {
		t.Fatal(e)
	}
	if _, e, at := tree.Make(l); e != api.OK {
		t.Fatalf("%q is read as no tree: %v at %d", text, e, at)
	}
	if c := s.Check(); len(c) > 0 {
		t.Fatalf("%q is read as a tree with complaints: %q", text, c)
	}
	return true
}

// All texts of few letters with right sums: what is no tree is no store.
func TestTexts(t *testing.T) {
	letters := []byte{markEnd, markFile, markDir, markLink, 'a', '/'}
	trees := 0
	var all func(text []byte, more int)
	all = func(text []byte, more int) {
		if wantParsed(t, text) {
			trees++
		}
		if more == 0 {
			return
		}
		for _, x := range letters {
			all(append(text, x), more-1)
		}
	}
	all(nil, 5)
	if trees < 3 {
		t.Errorf("%d texts are trees", trees)
	}
}

// dirText is a directory's text, of that name and with that text in it.
func dirText(name, in string) string {
	return string([]byte{markDir, byte(len(name))}) + name + in + "\x00"
}

func fileText(name, data string) string {
	return string([]byte{markFile, byte(len(name))}) + name + string(spread(uint64(len(data)), 2)) + data
}

func linkText(name, to string) string {
	return string([]byte{markLink}) + fileText(name, to)[1:]
}

// Texts that are a tree but for one thing.
func TestTextsOfOneFault(t *testing.T) {
	long, chain := strings.Repeat("n", 65), ""
	for range 64 {
		chain = dirText("n", chain)
	}
	for text, want := range map[string]bool{
		"":                                         true,
		dirText("a", fileText("b", "x")):           true,
		fileText("a", "") + dirText("b", ""):       true,
		linkText("a", "x"):                         true,
		fileText(long[:64], "x"):                   true,
		chain:                                      true,
		dirText("n", chain):                        false,
		dirText("n", chain) + fileText("z", ""):    false,
		fileText("a", "") + fileText("a", ""):      false,
		fileText("b", "") + fileText("a", ""):      false,
		fileText("", ""):                           false,
		fileText(".", ""):                          false,
		fileText("..", ""):                         false,
		fileText("a/b", ""):                        false,
		fileText("a\x00", ""):                      false,
		fileText(long, ""):                         false,
		dirText("a", fileText("", "")):             false,
		linkText("a", ""):                          false,
		dirText("a", "") + "\x00":                  false,
		fileText("a", "") + "\x04":                 false,
		fileText("a", "") + "\xff\x01a\x00\x00":    false,
		fileText("a", "xy")[:6]:                    false,
		fileText("a", "xy")[:3]:                    false,
		string([]byte{markDir, 1, 'a'}):            false,
		string([]byte{markFile}):                   false,
		string([]byte{markFile, 200, 'a'}):         false,
		string([]byte{markFile, 1, 'a', 255, 255}): false,
	} {
		if got := wantParsed(t, []byte(text+"\x00")); got != want {
			t.Errorf("%q and the end: %v, want %v", text, got, want)
		}
	}
	if wantParsed(t, nil) || wantParsed(t, []byte(fileText("a", ""))) {
		t.Error("a text without its end is a tree")
	}
}

// Great texts: links that are too long, too many nodes, paths that are too long, directories far too deep.
func TestGreatTexts(t *testing.T) {
	paths := fileText("f", "")
	for range 62 {
		paths = dirText(strings.Repeat("n", 64), paths)
	}
	for i, c := range []struct {
		text string
		want bool
	}{
		{linkText("a", strings.Repeat("t", api.MaxPath)), true},
		{linkText("a", strings.Repeat("t", api.MaxPath+1)), false},
		{strings.Join(many(api.MaxNodes), ""), true},
		{strings.Join(many(api.MaxNodes+1), ""), false},
		{dirText("d", strings.Join(many(api.MaxNodes-1), "")), true},
		{dirText("d", strings.Join(many(api.MaxNodes), "")), false},
		{dirText(strings.Repeat("p", 64), paths), true},
		{dirText(strings.Repeat("p", 64), strings.Replace(paths, fileText("f", ""), fileText("ff", ""), 1)), false},
		{strings.Repeat(string([]byte{markDir, 1, 'n'}), 8000) + strings.Repeat("\x00", 8000), false},
	} {
		_, e := Open(laid(t, api.MaxBlocks, sideOf(0, []byte(c.text+"\x00")), nil))
		if (e == api.OK) != c.want {
			t.Errorf("%d: Open tells %v", i, e)
		}
	}
}

// many are the texts of n directories with names that rise.
func many(n int) (l []string) {
	for i := range n {
		l = append(l, dirText(string([]byte{byte('A' + i/90), byte('A' + i%90)}), ""))
	}
	return l
}

// Of two trees the newer one is found, also where the number of the version wrapped round, and each on its own side alone.
func TestVersions(t *testing.T) {
	side := func(v version, name string) []byte { return sideOf(v, []byte(fileText(name, "")+"\x00")) }
	for v := range 256 {
		older, newer := side(version(v), "older"), side(version(v+1), "newer")
		wantFound(t, laid(t, 24, sideFor(0, version(v), older, newer), sideFor(1, version(v), older, newer)), "newer")
		wantFound(t, laid(t, 24, sideFor(1, version(v), older, newer), sideFor(0, version(v), older, newer)), "")
		newer[len(newer)-1]++
		wantFound(t, laid(t, 24, sideFor(0, version(v), older, newer), sideFor(1, version(v), older, newer)), "older")
	}
	wantFound(t, laid(t, 24, nil, nil), "")
}

// sideFor is the one of two trees that belongs on a side, of which the first one has this version.
func sideFor(n int, v version, a, b []byte) []byte {
	if v.side() == n {
		return a
	}
	return b
}

// wantFound holds the one name in the store that is on a disk; "" is no store.
func wantFound(t *testing.T, h *face.Handle, want string) {
	t.Helper()
	s, e := Open(h)
	if want == "" {
		if s != nil || e != api.ErrDisk {
			t.Errorf("Open tells %v, want no store", e)
		}
		return
	}
	if l, _ := s.Items(); e != api.OK || len(l) != 1 || l[0].Path != want {
		t.Errorf("Open finds %v, %v, want %s", l, e, want)
	}
}

// Heads of a side that say what is not so.
func TestHeads(t *testing.T) {
	good := sideOf(0, []byte{markEnd})
	wantNone := func(change func(b []byte)) {
		t.Helper()
		b := bytes.Clone(good)
		change(b)
		copy(b, spread(sum(b[sumBytes:]), sumBytes))
		wantFound(t, laid(t, 24, b, nil), "")
	}
	wantNone(func(b []byte) { b[sumBytes]++ })           // signature
	wantNone(func(b []byte) { b[sumBytes+4]++ })         // version of the other side
	wantNone(func(b []byte) { b[headBytes-1]++ })        // length
	wantNone(func(b []byte) { b[headBytes-1] = 0 })      // no end
	wantNone(func(b []byte) { b[headBytes-2] = 255 })    // more than the side has
	wantNone(func(b []byte) { b[headBytes] = markFile }) // no tree
	wantFound(t, laid(t, 24, beyond(11), nil), "")
	if _, e := Open(laid(t, 24, good, nil)); e != api.OK {
		t.Errorf("Open of the good one tells %v", e)
	}
}

// beyond is a side of so many blocks that says of its tree that it ends one byte behind the side, with the sum for the nought that would stand there as the tree's end.
func beyond(blocks int) []byte {
	room := blocks*api.BlockSize - headBytes
	data := strings.Repeat("x", room-len(fileText("a", "")))
	return sideOf(0, []byte(fileText("a", data)+"\x00"))[:blocks*api.BlockSize]
}
