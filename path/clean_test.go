package path_test

import (
	"strings"
	"testing"

	"mantle/api"
	"mantle/node"
	"mantle/path"
)

// P20.1: what is a name, and what is none.
func TestP201Check(t *testing.T) {
	long := strings.Repeat("n", 64)
	for _, s := range []string{"a", "...", "....", ".a", "a.", "..a", "a..", " ", "\\", "\xff", "\xff\xfe", "ä", "a b", "\n", long, strings.Repeat(".", 64), strings.Repeat("\x80", 64)} {
		if e := path.Check(s); e != api.OK {
			t.Errorf("Check(%q) answers %v", s, e)
		}
	}
	for _, s := range []string{"", ".", "..", "/", "//", "a/b", "/a", "a/", "a/b/c", "\x00", "\x00a", "a\x00", "a\x00b", "\xff\x00", "\xff/", long + "n", strings.Repeat("n", 4096), long[1:] + "/", long[1:] + "\x00", "/" + long[1:], "\x00" + long[1:], "./", "../", "./."} {
		if e := path.Check(s); e != api.ErrName {
			t.Errorf("Check(%q) answers %v", s, e)
		}
	}
}

// P20.1: all names of one byte and of two, and all lengths; chapter 18 has the same word.
func TestP201AllShort(t *testing.T) {
	l := []string{""}
	for a := range 256 {
		l = append(l, string([]byte{byte(a)}))
		for b := range 256 {
			l = append(l, string([]byte{byte(a), byte(b)}))
		}
	}
	for n := range 200 {
		l = append(l, strings.Repeat("x", n), strings.Repeat("/", n), strings.Repeat(".", n), strings.Repeat("\x00", n))
	}
	for _, s := range l {
		want := api.ErrName
		if isName(s) {
			want = api.OK
		}
		if e := path.Check(s); e != want {
			t.Errorf("Check(%q) answers %v, want %v", s, e, want)
		}
		if e := node.Dir().Add(s, node.White()); e != want {
			t.Errorf("Add(%q) answers %v, want %v", s, e, want)
		}
	}
}

// P20.2: what is left of a path.
func TestP202Clean(t *testing.T) {
	long := strings.Repeat("n", 64)
	for p, want := range map[string]string{
		"": "", "/": "", "//": "", "/////": "", ".": "", "./": "", "/.": "", "././.": "", "..": "", "../": "", "/..": "", "../..": "", "/../../..": "",
		"a": "a", "/a": "a", "a/": "a", "//a//": "a", "./a": "a", "a/.": "a", "a/./b": "a/b", "a//b": "a/b", "/a/b/": "a/b", "a///b//./c": "a/b/c",
		"../a": "a", "../../a": "a", "a/..": "", "a/../": "", "a/../b": "b", "a/b/..": "a", "a/b/../c": "a/c", "a/b/../../c": "c", "a/b/../../..": "", "a/b/../../../c": "c", "a/../../b/c": "b/c",
		"a/./../b": "b", "a//../b": "b", "a/.././b": "b", ".../..": "", ".../a": ".../a", "..a/b..": "..a/b..", " / ": " / ", "\xff/ä": "\xff/ä",
		"a/b/c/../d/../../e": "a/e", long + "/" + long: long + "/" + long, long + "/..": "", "/a//b/./../c": "a/c",
	} {
		if s, e := path.Clean(p); s != want || e != api.OK {
			t.Errorf("Clean(%q) answers %q, %v, want %q", p, s, e, want)
		}
		wantClean(t, p)
	}
}

// P20.2: parts that are no names, also where they would be taken away, and behind others.
func TestP202NoName(t *testing.T) {
	for _, bad := range []string{"\x00", "a\x00", "\x00a", strings.Repeat("n", 65), strings.Repeat(".", 65)} {
		for _, p := range []string{bad, "/" + bad, bad + "/", "a/" + bad, bad + "/a", bad + "/..", "a/" + bad + "/../..", "../" + bad, "a/../" + bad, "./" + bad + "/."} {
			if s, e := path.Clean(p); s != "" || e != api.ErrName {
				t.Errorf("Clean(%q) answers %q, %v", p, s, e)
			}
			wantClean(t, p)
		}
	}
}

// P20.2: as long as may be, and one byte longer; that is told ahead of a part that is no name.
func TestP202Long(t *testing.T) {
	names := strings.Repeat(strings.Repeat("n", 63)+"/", 64)
	for p, want := range map[string]string{
		strings.Repeat("/", 4096):               "",
		strings.Repeat("a/", 2048):              strings.Repeat("a/", 2047) + "a",
		strings.Repeat("../", 1365) + "b":       "b",
		strings.Repeat("./", 2047) + "ab":       "ab",
		strings.Repeat("/", 4095) + "x":         "x",
		names:                                   names[:4095],
		"/" + names[:4095]:                      names[:4095],
		names[:4095] + "n":                      names[:4095] + "n",
		strings.Repeat("a/../", 819) + "b":      "b",
		strings.Repeat("a/../", 818) + "b/cde/": "b/cde",
	} {
		if len(p) != 4096 {
			t.Errorf("the test's path has %d bytes", len(p))
		}
		if s, e := path.Clean(p); s != want || e != api.OK {
			t.Errorf("Clean(%.20q) answers %.20q, %v", p, s, e)
		}
		wantClean(t, p)
	}
	for _, p := range []string{strings.Repeat("/", 4097), strings.Repeat("a/", 2048) + "a", strings.Repeat("n", 4097), strings.Repeat("\x00", 4097), strings.Repeat("../", 1366), strings.Repeat("./", 3000), "\x00/" + strings.Repeat("a/", 3000), strings.Repeat("/", 1<<20)} {
		if s, e := path.Clean(p); s != "" || e != api.ErrLong {
			t.Errorf("Clean(%.20q, %d bytes) answers %.20q, %v", p, len(p), s, e)
		}
		wantClean(t, p)
	}
	if _, e := path.Clean(strings.Repeat("n", 4096)); e != api.ErrName {
		t.Errorf("Clean of a name of 4096 bytes answers %v", e)
	}
}

// P20.2: all paths of up to five pieces.
func TestP202AllShort(t *testing.T) {
	pieces := []string{"", ".", "..", "a", "b", "\x00", "..."}
	var all func(p string, more int)
	all = func(p string, more int) {
		wantClean(t, p)
		for _, x := range pieces {
			if more > 0 {
				all(p+"/"+x, more-1)
			}
		}
	}
	for _, x := range pieces {
		all(x, 4)
	}
}
