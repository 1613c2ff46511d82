package cipher_test

import (
	"fmt"

	"mantle/api"
	"mantle/cipher"
	"mantle/memory"
)

func Example() {
	f, _ := memory.New(nil, 15)
	h, _ := cipher.New(f, 0)
	all := api.Op{Do: api.DoRead, N: 99}
	h.Do(api.Op{Do: api.DoWrite, At: 2, B: []byte("abc")})
	fmt.Printf("%q\n", h.Do(all).Data)
	fmt.Printf("% X\n", f.Do(all).Data)
	again, _ := cipher.New(f, 0)
	fmt.Printf("%q\n", again.Do(all).Data)
	twice, _ := cipher.New(h, 0) // the same key: the file
	fmt.Printf("% X\n", twice.Do(all).Data)
	// Output:
	// "\x00\x00abc"
	// AF CD 7C 19 5A
	// "\x00\x00abc"
	// AF CD 7C 19 5A
}

func ExampleStream() {
	fmt.Printf("% X\n", cipher.Stream(0, 0, 8))
	fmt.Printf("% X\n", cipher.Stream(0, 7, 2))
	fmt.Println(len(cipher.Stream(0, -1, 2)))
	// Output:
	// AF CD 1D 7B 39 A8 20 E2
	// E2 F4
	// 0
}
