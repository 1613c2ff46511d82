package cache_test

import (
	"fmt"

	"mantle/api"
	"mantle/cache"
	"mantle/memory"
)

func Example() {
	f, _ := memory.New(make([]byte, 200), 15)
	h, c, _ := cache.New(f, 2)
	h.Do(api.Op{Do: api.DoRead, At: 0, N: 10})
	h.Do(api.Op{Do: api.DoRead, At: 60, N: 8})
	fmt.Println(c.Blocks())
	fmt.Println(c.Hits())
	h.Do(api.Op{Do: api.DoWrite, At: 100, B: []byte("x")})
	fmt.Println(c.Blocks())
	// Output:
	// [1 0]
	// 1 2
	// [0]
}
