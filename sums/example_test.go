package sums_test

import (
	"fmt"

	"mantle/api"
	"mantle/memory"
	"mantle/sums"
)

func Example() {
	f, _ := memory.New([]byte("abcdef"), 15)
	b, _ := sums.Table(f)
	table, _ := memory.New(b, 15)
	h, _ := sums.New(f, table)
	all := api.Op{Do: api.DoRead, N: 99}
	h.Do(api.Op{Do: api.DoWrite, At: 1, B: []byte("XY")})
	fmt.Printf("%s\n", h.Do(all).Data)
	f.Do(api.Op{Do: api.DoWrite, At: 0, B: []byte("!")}) // beside the sums
	fmt.Println(h.Do(all).E)
	h.Do(api.Op{Do: api.DoWrite, At: 0, B: []byte("ABCDEF")}) // the whole block is written anew
	fmt.Printf("%s\n", h.Do(all).Data)
	// Output:
	// aXYdef
	// error 100
	// ABCDEF
}
