package pack_test

import (
	"fmt"

	"mantle/api"
	"mantle/memory"
	"mantle/pack"
)

func Example() {
	b, _ := pack.Pack([]byte("abcabcabc"))
	fmt.Println(b)
	f, _ := memory.New(b, 15)
	h, _ := pack.New(f)
	f.Do(api.Op{Do: api.DoCut}) // what becomes of it now makes no difference
	fmt.Printf("%s\n", h.Do(api.Op{Do: api.DoRead, At: 4, N: 99}).Data)
	fmt.Println(h.Do(api.Op{Do: api.DoWrite, B: []byte("x")}).E)
	_, e := pack.Unpack(b[:9])
	fmt.Println(e)
	// Output:
	// [0 0 0 9 2 97 98 99 131 3]
	// bcabc
	// error 5
	// error 110
}
