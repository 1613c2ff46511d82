package memory_test

import (
	"fmt"

	"mantle/api"
	"mantle/memory"
	"mantle/span"
)

func Example() {
	s := span.New([]byte("abc"))
	one, _ := memory.Of(s, api.CanWrite)
	two, _ := memory.Of(s, api.CanHoles)
	fmt.Println(one.Do(api.Op{Do: api.DoWrite, At: 5, B: []byte("x")}).E == api.OK)
	b, _ := memory.All(two)
	fmt.Printf("%q\n", b)
	told := two.Do(api.Op{Do: api.DoNext, At: 3})
	fmt.Println(told.N, told.M)
	fmt.Println(two.Do(api.Op{Do: api.DoWrite, B: []byte("y")}).E)
	// Output:
	// true
	// "abc\x00\x00x"
	// 5 6
	// error 5
}
