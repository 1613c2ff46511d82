package join_test

import (
	"fmt"

	"mantle/api"
	"mantle/face"
	"mantle/join"
	"mantle/memory"
)

func Example() {
	a, _ := memory.New([]byte("abc"), 15)
	b, _ := memory.New([]byte("de"), 15)
	j, _ := join.New([]*face.Handle{a, b})
	fmt.Printf("%s\n", j.Do(api.Op{Do: api.DoRead, At: 1, N: 3}).Data)
	fmt.Println(j.Do(api.Op{Do: api.DoWrite, At: 2, B: []byte("XY")}).E == api.OK)
	fmt.Printf("%s %s\n", a.Do(api.Op{Do: api.DoRead, N: 9}).Data, b.Do(api.Op{Do: api.DoRead, N: 9}).Data)
	fmt.Println(j.Do(api.Op{Do: api.DoWrite, At: 4, B: []byte("12")}).E)
	fmt.Println(j.Do(api.Op{Do: api.DoCut}).E)
	// Output:
	// bcd
	// true
	// abX Ye
	// error 3
	// error 5
}
