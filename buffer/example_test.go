package buffer_test

import (
	"fmt"

	"mantle/api"
	"mantle/buffer"
	"mantle/memory"
)

func Example() {
	f, _ := memory.New([]byte("abcdef"), 15)
	b, _ := buffer.New(f, 4)
	tell := func() {
		all := api.Op{Do: api.DoRead, N: 99}
		fmt.Printf("%s %s\n", b.Do(all).Data, f.Do(all).Data)
	}
	b.Do(api.Op{Do: api.DoWrite, At: 1, B: []byte("XY")})
	tell()
	b.Do(api.Op{Do: api.DoWrite, At: 3, B: []byte("123")})
	tell()
	b.Do(api.Op{Do: api.DoSync})
	tell()
	// Output:
	// aXYdef abcdef
	// aXY123 aXYdef
	// aXY123 aXY123
}
