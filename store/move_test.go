package store_test

import (
	"strings"
	"testing"

	"mantle/api"
)

// Drop of the root, of nothing, of a directory in which something is, and of each kind.
func TestP224Drop(t *testing.T) {
	x := mixed(t, 64)
	for p, want := range map[string]api.Errno{
		"": api.ErrDir, "/": api.ErrDir, "d/..": api.ErrDir, "no": api.ErrNone, "no/a": api.ErrNone, "f/a": api.ErrNone, "l/e": api.ErrNone, "d/em": api.ErrNone,
		"d": api.ErrEmpty, "d/e": api.ErrEmpty,
	} {
		x.wantE(t, want, drop(p))
		x.wantTree(t)
	}
	for _, p := range []string{"l", "d/l", "d.e", "dd", "gone", "d/empty", "d/e/f", "d/e", "d", "f"} {
		x.do(t, drop(p))
		x.wantE(t, api.ErrNone, drop(p))
		x.wantE(t, api.ErrNone, read(p, 0, 1))
		x.wantTree(t)
	}
	wantPaths(t, x.store)
	x.wantE(t, api.ErrDir, drop(""))
	x.wantStays(t)
	x.do(t, file("d"), read("d", 0, 9))
	wantRead(t, x.store, "d", nil)
}

// moved are the paths from and to which each Move is tried: what stands somewhere, what is nothing, below each kind, what begins alike, and paths that are cleaned.
func moved() []string {
	return []string{"", "/", "d", "d/", "d/e", "d/e/f", "d/empty", "d/empty/new", "d/l", "dd", "d.e", "d/e/f/x", "d/ee", "d/em", "f", "f/x", "f/x/y", "ff", "l", "l/x", "gone", "gone/x", "no", "no/x", "dd/d", "d-", "./d//e", "d/new/x"}
}

// Each pair of these paths.
func TestP224Move(t *testing.T) {
	for _, p := range moved() {
		for _, to := range moved() {
			x := mixed(t, 128)
			x.want(t, move(p, to))
			x.wantTree(t)
			x.wantStays(t)
		}
	}
}

// The errors of Move one by one, and of two the one that is named first.
func TestP224MoveErrors(t *testing.T) {
	x := mixed(t, 128)
	for _, c := range []struct {
		p, to string
		want  api.Errno
	}{
		{"", "", api.ErrDir},
		{"", "no/x", api.ErrDir},
		{"no", "", api.ErrDir},
		{"d", "d/..", api.ErrDir},
		{"no", "no", api.ErrNone},
		{"no", "no/x", api.ErrNone},
		{"no", "f/x", api.ErrNone},
		{"no", "f", api.ErrNone},
		{"f/x", "new", api.ErrNone},
		{"l/e", "new", api.ErrNone},
		{"d", "d/.", api.OK},
		{"f", "f", api.OK},
		{"d", "no/x", api.ErrNone},
		{"d", "d/no/x", api.ErrNone},
		{"d", "f/x", api.ErrDir},
		{"d", "l/x", api.ErrDir},
		{"d", "d/e/f/x", api.ErrDir},
		{"f", "f/x", api.ErrDir},
		{"f", "f/x/y", api.ErrNone},
		{"d", "f", api.ErrThere},
		{"f", "d", api.ErrThere},
		{"d", "d/e", api.ErrThere},
		{"d/empty", "dd", api.ErrThere},
		{"d/e", "d", api.ErrThere},
		{"d", "d/x", api.ErrLoop},
		{"d", "d/e/x", api.ErrLoop},
		{"d/empty", "d/empty/x", api.ErrLoop},
	} {
		x.wantE(t, c.want, move(c.p, c.to))
		x.wantTree(t)
	}
	x.do(t, move("d", "dx"), move("dx", "d"), move("d", "dd/d"), move("dd/d/e", "dd/e"), move("dd", "d"), move("d/d", "d/d-"), move("l", "d/d-/empty/l"))
	wantPaths(t, x.store, "d", "d.e", "d/d-", "d/d-/empty", "d/d-/empty/l", "d/d-/l", "d/e", "d/e/f", "f", "gone")
	wantRead(t, x.store, "d/e/f", []byte("deep"))
	x.wantTree(t)
	x.wantStays(t)
}

// A chain of directories with a file at its end is moved so that it is as deep as may be, and one deeper.
func TestP224Deep(t *testing.T) {
	for high := 1; high <= 62; high++ {
		x := bothOf(t, 1024)
		for n := range 63 {
			x.do(t, dir(names(n+1, 1)))
		}
		x.do(t, dir("c"), file("c/a"), file("c/z"))
		chain := "c"
		for range high - 1 {
			chain += "/c"
			x.do(t, dir(chain))
		}
		x.do(t, file(chain+"/f"), write(chain+"/f", 0, []byte("far")))
		most := names(64-high-1, 1)
		x.wantE(t, api.ErrLong, move("c", most+"/n/x"))
		x.wantE(t, api.ErrLong, move("c", names(63, 1)+"/x"))
		x.wantE(t, api.ErrThere, move("c", most+"/n"))
		x.wantTree(t)
		deepest := most + "/x"
		x.do(t, move("c", deepest))
		wantRead(t, x.store, deepest+chain[1:]+"/f", []byte("far"))
		x.wantTree(t)
		x.wantStays(t)
		x.wantE(t, api.ErrLong, move(deepest, most+"/n/x"))
		x.do(t, move(deepest, "back"))
		wantRead(t, x.store, "back"+chain[1:]+"/f", []byte("far"))
	}
}

// A file, a link and an empty directory of 64 names may be moved to 64 names, and no deeper.
func TestP224DeepLeaf(t *testing.T) {
	x := bothOf(t, 1024)
	for n := range 64 {
		x.do(t, dir(names(n+1, 1)))
	}
	for kind := range int8(3) {
		x.do(t, makes("a", kind, "to"))
		x.wantE(t, api.ErrLong, move("a", names(64, 1)+"/a"))
		x.do(t, move("a", names(63, 1)+"/a"), move(names(63, 1)+"/a", names(63, 1)+"/b"))
		x.wantE(t, api.ErrLong, move(names(63, 1)+"/b", names(64, 1)+"/a"))
		x.do(t, drop(names(63, 1)+"/b"))
	}
	x.wantE(t, api.ErrLoop, move(names(1, 1), names(64, 1)+"/a")) // ahead of ErrLong
	x.wantE(t, api.ErrThere, move(names(3, 1), names(64, 1)))
	x.wantTree(t)
}

// longChain is a store with a directory p and a chain of n with long names in it, and a link of such a name at its end. It tells the longest path.
func longChain(t *testing.T, n int, last string) (*both, string) {
	t.Helper()
	x := bothOf(t, 1024)
	x.do(t, dir("p"), dir("xx"), file("p/g"), file("p/z"))
	p := "p"
	for range n {
		p += "/" + strings.Repeat("q", 64)
		x.do(t, dir(p))
	}
	x.do(t, file(p+"/a"), link(p+"/"+last, "to"))
	return x, p + "/" + last
}

// What is moved gets another name, so that paths below it are as long as may be, and one byte longer.
func TestP224LongPaths(t *testing.T) {
	for n := 2; n <= 64; n++ {
		x, longest := longChain(t, 62, strings.Repeat("f", n))
		most := strings.Repeat("m", 1+api.MaxPath-len(longest))
		if len(most) < 64 {
			x.wantE(t, api.ErrLong, move("p", most+"m"))
			x.wantTree(t)
		}
		x.do(t, move("p", most))
		x.wantTree(t)
		x.wantStays(t)
	}
}

// What is moved comes into another directory, so that paths below it are as long as may be, and one byte longer.
func TestP224LongPathsBelow(t *testing.T) {
	x, longest := longChain(t, 61, strings.Repeat("f", 64))
	most := "xx/" + strings.Repeat("m", 1+api.MaxPath-len(longest)-len("xx/"))
	x.wantE(t, api.ErrLong, move("p", most+"m"))
	x.wantTree(t)
	x.do(t, move("p", most))
	x.wantTree(t)
	x.wantStays(t)
	x.wantE(t, api.ErrLong, move(most, most+"m"))
	x.do(t, move(most, "p"))
}

// A Move and the one back leave the tree as it was.
func TestP224Back(t *testing.T) {
	for _, p := range []string{"d", "d/e", "d/e/f", "d/l", "f", "l", "dd"} {
		for _, to := range []string{"new", "d/empty/new", "dd/new", "d/new", "zz"} {
			x := mixed(t, 128)
			ahead := itemsOf(t, x.store)
			if x.want(t, move(p, to)).e == api.OK {
				x.wantE(t, api.ErrNone, read(p, 0, 1))
				x.do(t, move(to, p))
			}
			if got := itemsOf(t, x.store); got != ahead {
				t.Errorf("behind Move of %s to %s and back Items tells %s", p, to, got)
			}
		}
	}
}
