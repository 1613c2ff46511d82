package seal_test

import (
	"fmt"
	"testing"

	"mantle/api"
	"mantle/memory"
	"mantle/seal"
)

func Example() {
	h, _ := memory.New([]byte("abc"), 15)
	mine := seal.New("mine")
	box := mine.Seal(h)
	again, e := mine.Open(box)
	fmt.Println(again == h, e)
	fmt.Println(seal.New("mine").Open(box))
	again, e = seal.Plain("all").Open(seal.Plain("all").Seal(h))
	fmt.Println(again == h, e)
	odd := seal.Odd("odd")
	fmt.Println(odd.Open(odd.Seal(h)))
	fmt.Println(seal.Same(mine, mine), seal.Same(odd, odd))
	// Output:
	// true error 0
	// <nil> error 160
	// true error 0
	// <nil> error 160
	// true false
}

// The chapter's table of examples, row by row.
func TestExamples(t *testing.T) {
	a, o := seal.New("a"), seal.Odd("a")
	for i, x := range []struct{ got, want bool }{
		{seal.Same(seal.New("a"), seal.New("a")), false},
		{seal.Same(a, a), true},
		{seal.Same(seal.Plain("a"), seal.Plain("a")), true},
		{seal.Same(seal.Plain("a"), seal.Plain("b")), false},
		{seal.Same(seal.Plain("a"), seal.New("a")), false},
		{seal.Same(o, o), false},
	} {
		if x.got != x.want {
			t.Errorf("Same of row %d is %v", i, x.got)
		}
	}
	h := file(t, "abc")
	box := seal.Plain("a").Seal(h)
	if g, e := o.Open(o.Seal(h)); g != nil || e != api.ErrBrand {
		t.Errorf("Odd opens what it sealed: %v %v", g, e)
	}
	if g, e := seal.Plain("a").Open(box); g != h || e != api.OK {
		t.Errorf("Plain opens what another Plain sealed: %v %v", g, e)
	}
	if g, e := seal.New("a").Open(box); g != nil || e != api.ErrBrand {
		t.Errorf("New opens what a Plain sealed: %v %v", g, e)
	}
	if x := a.Seal(nil); x != nil {
		t.Errorf("Seal(nil) is %v", x)
	}
	if g, e := a.Open(nil); g != nil || e != api.ErrNil {
		t.Errorf("Open(nil) answers %v %v", g, e)
	}
}
