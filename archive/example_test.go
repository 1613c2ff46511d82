package archive_test

import (
	"fmt"
	"testing"

	"mantle/api"
	"mantle/archive"
)

func Example() {
	l := []api.Item{{Path: "d", Kind: api.NodeDir}, {Path: "d/a", Data: []byte("xy")}, {Path: "l", Kind: api.NodeLink, Data: []byte("d/a")}}
	b, e, at := archive.Write(l)
	fmt.Println(len(b), e, at)
	show := func(l []api.Item, e api.Errno) {
		for _, x := range l {
			fmt.Printf("%s %d %q, ", x.Path, x.Kind, x.Data)
		}
		fmt.Println(e)
	}
	r := archive.New()
	show(r.Feed(b[:50])) // d is whole, and of d/a there are 24 bytes
	fmt.Println(r.Held(), r.Done())
	show(r.Feed(b[50:]))
	fmt.Println(r.Held(), r.Done())
	show(r.Feed([]byte("more"))) // the end has come already
	fmt.Println(r.Held(), r.Done())
	_, e, at = archive.Write([]api.Item{l[1], l[0]}) // d does not stand behind d/a
	fmt.Println(e, at)
	// Output:
	// 90 error 0 0
	// d 1 "", error 0
	// 24 false
	// d/a 0 "xy", l 2 "d/a", error 0
	// 0 true
	// error 260
	// 0 false
	// error 2 1
}

// The chapter's table of examples, row by row.
func TestExamples(t *testing.T) {
	none := wantWritten(t)
	if string(none[:9]) != "MTA1\xff\x00\x00\x00\x00" || len(none) != 17 {
		t.Errorf("none: %x", none)
	}
	if b := wantWritten(t, file("a", "\x78")); len(b) != 40 {
		t.Errorf("a file a: %d bytes", len(b))
	}
	wantRefused(t, api.ErrArg, 1, file("b", ""), file("a", ""))
	wantRefused(t, api.ErrArg, 0, file("a/../b", ""))
	wantRefused(t, api.ErrArg, 0, api.Item{Path: "a", Kind: api.NodeDir, Data: []byte("x")})
	r := archive.New()
	for _, b := range []string{"\x4d\x55", "", "MTA1", string(none)} {
		if l, e := r.Feed([]byte(b)); len(l) > 0 || e != api.ErrTar {
			t.Errorf("4D 55, then %q: %v", b, e)
		}
	}
	wantTorn(t, []byte{0x4d, 0x54, 0x41, 0x31, 0, 0, 1, 0xff, 0xfd}, 8, 0)
	wantTorn(t, append(none, 0), 17, 0)
	r = archive.New()
	if l, e := r.Feed(append(none, 0)); len(l) > 0 || e != api.ErrTar || r.Done() {
		t.Errorf("none and one byte more: %v, %v", e, r.Done())
	}
}
