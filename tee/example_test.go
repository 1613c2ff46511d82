package tee_test

import (
	"fmt"

	"mantle/api"
	"mantle/memory"
	"mantle/tee"
)

func Example() {
	a, _ := memory.New([]byte("abc"), 15)
	b, _ := memory.New([]byte("abc"), 15)
	h, _ := tee.New(a, b)
	fmt.Println(h.Do(api.Op{Do: api.DoWrite, At: 2, B: []byte("xy")}).E == api.OK)
	fmt.Printf("%s %s\n", a.Do(api.Op{Do: api.DoRead, N: 9}).Data, b.Do(api.Op{Do: api.DoRead, N: 9}).Data)
	// Output:
	// true
	// abxy abxy
}

func ExampleWatched() {
	a, _ := memory.New([]byte("abc"), 15)
	h, log := tee.Watched(a)
	fmt.Printf("%s\n", h.Do(api.Op{Do: api.DoRead, N: 2}).Data)
	fmt.Println(h.Do(api.Op{Do: api.DoCut, At: 1}).E == api.OK)
	fmt.Println(h.Do(api.Op{Do: api.DoWrite, At: -1, B: []byte("z")}).E)
	for _, op := range log.Ops() {
		fmt.Printf("%d %d %d %q\n", op.Do, op.At, op.N, op.B)
	}
	// Output:
	// ab
	// true
	// error 2
	// 1 0 2 ""
	// 3 1 0 ""
	// 2 -1 0 "z"
}
