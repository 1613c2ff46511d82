package crash_test

import (
	"fmt"
	"testing"

	"mantle/api"
	"mantle/crash"
)

func Example() {
	p, e := crash.New([][]byte{[]byte("abcd")})
	h := p.Handle(0)
	h.Do(api.Op{Do: api.DoWrite, B: []byte("XY")})
	h.Do(api.Op{Do: api.DoWrite, At: 6, B: []byte("Z")})
	h.Do(api.Op{Do: api.DoCut, At: 5})
	fmt.Printf("%q %v\n", p.Image(0), e)
	for _, op := range p.Open() {
		fmt.Printf("%d %d %q, ", op.Do, op.At, op.B)
	}
	fmt.Printf("are open\n%q\n", p.Fail(nil, nil).Image(0))
	fmt.Printf("%q\n", p.Fail([]int{0, 1}, []int{1}).Image(0))
	p.Fuse(1)
	fmt.Println(h.Do(api.Op{Do: api.DoSync}).E, h.Do(api.Op{Do: api.DoCut}).E)
	fmt.Printf("%q\n", p.Fail(nil, nil).Image(0))
	// Output:
	// "XYcd\x00" error 0
	// 2 0 "XY", 2 6 "Z", 3 5 "", are open
	// "abcd"
	// "Xbcd\x00\x00Z"
	// error 0 error 6
	// "XYcd\x00"
}

// The chapter's table of examples, row by row.
func TestExamples(t *testing.T) {
	p := newPower(t, "abcd")
	h := p.Handle(0)
	for _, op := range []api.Op{write(0, "XY"), write(6, "Z"), cut(5)} {
		wantE(t, h, op, api.OK)
	}
	wantImages(t, p, "XYcd\x00")
	wantOpen(t, p, write(0, "XY"), write(6, "Z"), cut(5))

	wantImages(t, p.Fail(nil, nil), "abcd")
	wantImages(t, p.Fail([]int{1}, nil), "abcd\x00\x00Z")
	wantImages(t, p.Fail([]int{0}, []int{1}), "Xbcd")
	wantImages(t, p.Fail([]int{2, 0}, nil), "XYcd\x00")

	wantE(t, h, sync(), api.OK)
	wantOpen(t, p)
	wantImages(t, p.Fail(nil, nil), "XYcd\x00")

	p.Fuse(1)
	wantE(t, h, cut(1), api.OK)
	wantE(t, h, cut(0), api.ErrGone)
	wantE(t, h, sync(), api.ErrGone)
	wantTold(t, h, read(0, 9), api.Told{Data: []byte("X")})

	wantNew(t, nil, api.ErrArg)
	if p.Handle(1) != nil {
		t.Error("there is a file 1")
	}
}
