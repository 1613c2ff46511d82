package window_test

import (
	"fmt"

	"mantle/api"
	"mantle/memory"
	"mantle/window"
)

func Example() {
	h, _ := memory.New([]byte("0123456789"), 15)
	w, _ := window.New(h, 3, 4)
	fmt.Printf("%s\n", w.Do(api.Op{Do: api.DoRead, At: 1, N: 9}).Data)
	fmt.Println(w.Do(api.Op{Do: api.DoWrite, At: 3, B: []byte("xy")}).E)
	fmt.Println(w.Do(api.Op{Do: api.DoWrite, At: 2, B: []byte("xy")}).E == api.OK)
	r := window.Read(h)
	fmt.Printf("%s\n", r.Do(api.Op{Do: api.DoRead, N: 99}).Data)
	fmt.Println(r.Do(api.Op{Do: api.DoWrite, B: []byte("z")}).E)
	// Output:
	// 456
	// error 3
	// true
	// 01234xy789
	// error 5
}
