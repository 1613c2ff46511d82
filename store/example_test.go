package store_test

import (
	"fmt"
	"testing"

	"mantle/api"
	"mantle/memory"
	"mantle/store"
)

func Example() {
	h, _ := memory.New(nil, 15)
	s, e := store.New(h, 64)
	fmt.Println(e)
	fmt.Println(s.Make("d", api.NodeDir, ""), s.Make("d/a", api.NodeFile, ""), s.Make("l", api.NodeLink, "d/a"))
	fmt.Println(s.Write("/d/./a", 2, []byte("xy")))
	fmt.Println(s.Write("l", 0, []byte("z")))
	b, e := s.Read("d/a", 0, 9)
	fmt.Printf("%q %v\n", b, e)
	fmt.Println(s.Cut("d/a", 60000))
	fmt.Println(s.Drop("d"), s.Move("d", "d/e"), s.Move("d", "e"))
	fmt.Println(len(s.Check()), s.Sync())
	again, e := store.Open(h)
	l, _ := again.Items()
	for _, x := range l {
		fmt.Printf("%s %d %q\n", x.Path, x.Kind, x.Data)
	}
	fmt.Println(e)
	// Output:
	// error 0
	// error 0 error 0 error 0
	// error 0
	// error 193
	// "\x00\x00xy" error 0
	// error 220
	// error 194 error 200 error 0
	// 0 error 0
	// e 1 ""
	// e/a 0 "\x00\x00xy"
	// l 2 "d/a"
	// error 0
}

// The chapter's table of examples, row by row.
func TestExamples(t *testing.T) {
	x := bothOf(t, 64)
	x.do(t, dir("d"), file("d/a"), write("d/a", 2, []byte("xy")))
	wantRead(t, x.store, "d/a", []byte("\x00\x00xy"))
	wantPaths(t, x.store, "d", "d/a")

	x.wantE(t, api.ErrThere, dir("d"))
	x.wantE(t, api.ErrNone, file("x/y"))
	x.wantE(t, api.ErrDir, file("d/a/b"))
	x.wantE(t, api.ErrName, link("l", ""))

	x.wantE(t, api.ErrLoop, move("d", "d/e"))
	x.wantE(t, api.ErrNone, move("q", "d"))
	x.wantE(t, api.ErrDir, move("", "x"))

	x.wantE(t, api.ErrEmpty, drop("d"))
	x.do(t, drop("d/a"), drop("d"))
	x.wantE(t, api.ErrDir, drop(""))
	wantPaths(t, x.store)

	wantNoNew(t, newFile(t, nil), 23, api.ErrSpace)
	if s, e := store.Open(newFile(t, nil)); s != nil || e == api.OK {
		t.Errorf("Open of a file of none tells %v", e)
	}
}
