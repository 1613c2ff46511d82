package rights_test

import (
	"fmt"
	"slices"
	"testing"

	"mantle/api"
	"mantle/memory"
	"mantle/rights"
)

func Example() {
	b := rights.New()
	h, _ := memory.New([]byte("abc"), 15)
	one, _ := b.Give(0, api.RightRead|api.RightWrite)
	two, _ := b.Give(one, api.RightRead)
	fmt.Println(b.Give(two, api.RightWrite)) // more than two has
	g, _ := b.Guard(two, h)
	fmt.Println(g.Can() == api.CanHoles|api.CanSync)
	read := api.Op{Do: api.DoRead, N: 9}
	fmt.Printf("%s\n", g.Do(read).Data)
	fmt.Println(g.Do(api.Op{Do: api.DoSync}).E)
	fmt.Println(b.Below(0))
	fmt.Println(b.Back(one)) // and two with it
	fmt.Println(g.Do(read).E, g.Do(api.Op{Do: api.DoSize}).N)
	// Output:
	// 0 error 170
	// true
	// abc
	// error 170
	// [1 2]
	// 2 error 0
	// error 6 0
}

// The chapter's table of examples, row by row.
func TestExamples(t *testing.T) {
	b := rights.New()
	give := func(id int, r uint8, want int, wantE api.Errno) {
		t.Helper()
		if n, e := b.Give(id, r); n != want || e != wantE {
			t.Errorf("Give(%d, %d) answers %d, %v", id, r, n, e)
		}
	}
	give(0, 35, 1, api.OK)
	give(1, 3, 2, api.OK)
	give(1, 4, 0, api.ErrRight)
	give(2, 1, 3, api.OK)
	give(0, 64, 0, api.ErrArg)
	if b.Rights(1) != 35 || b.Rights(2) != 3 || b.Rights(9) != 0 {
		t.Error(b.Rights(1), b.Rights(2), b.Rights(9))
	}
	if !slices.Equal(b.Below(0), []int{1, 2, 3}) || !slices.Equal(b.Below(2), []int{3}) {
		t.Error(b.Below(0), b.Below(2))
	}
	back := func(id, want int, wantE api.Errno) {
		t.Helper()
		if n, e := b.Back(id); n != want || e != wantE {
			t.Errorf("Back(%d) answers %d, %v", id, n, e)
		}
	}
	back(0, 0, api.ErrArg)
	back(1, 3, api.OK)
	back(1, 0, api.ErrGone)
	if b.Rights(2) != 0 {
		t.Error(b.Rights(2))
	}
	give(0, 1, 4, api.OK)
}

// The rows of guards.
func TestExamplesOfGuards(t *testing.T) {
	b := rights.New()
	h, _ := memory.New([]byte("abc"), 15)
	if g, e := b.Guard(9, h); g != nil || e != api.ErrGone {
		t.Errorf("Guard(9, h) answers %v, %v", g, e)
	}
	if g, e := b.Guard(0, nil); g != nil || e != api.ErrNil {
		t.Errorf("Guard(0, nil) answers %v, %v", g, e)
	}
	id, _ := b.Give(0, api.RightRead)
	g, e := b.Guard(id, h)
	if e != api.OK || g.Can() != api.CanHoles|api.CanSync {
		t.Fatalf("it can %d, %v", g.Can(), e)
	}
	wantTold(t, g, api.Op{Do: api.DoRead, N: 9}, api.Told{Data: []byte("abc")})
	wantTold(t, g, api.Op{Do: api.DoSync}, api.Told{E: api.ErrRight})
	b.Back(id)
	wantTold(t, g, api.Op{Do: api.DoRead, N: 9}, api.Told{E: api.ErrGone})
	wantTold(t, g, api.Op{Do: api.DoSize}, api.Told{})
}
