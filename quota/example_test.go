package quota_test

import (
	"fmt"

	"mantle/api"
	"mantle/memory"
	"mantle/quota"
)

func Example() {
	p, _ := quota.NewPurse(10)
	f, _ := memory.New([]byte("abcde"), 15)
	h, _ := quota.New(f, p)
	fmt.Println(h.Do(api.Op{Do: api.DoWrite, At: 3, B: []byte("abcd")}).E, p.Left())
	fmt.Println(h.Do(api.Op{Do: api.DoWrite, At: 16, B: []byte("x")}).E, p.Left()) // it would be ten longer
	fmt.Println(h.Do(api.Op{Do: api.DoWrite, At: 14, B: []byte("x")}).E, p.Left())
	fmt.Println(h.Do(api.Op{Do: api.DoCut, At: 2}).E, p.Left())
	// Output:
	// error 0 8
	// error 140 8
	// error 0 0
	// error 0 13
}
