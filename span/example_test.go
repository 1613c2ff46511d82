package span_test

import (
	"fmt"

	"mantle/span"
)

func Example() {
	s := span.New([]byte("abc"))
	fmt.Println(s.Put(5, []byte("xy")) == 0)
	fmt.Printf("%q\n", s.Get(0, 9))
	fmt.Println(s.Next(3))
	fmt.Println(s.Held(), s.Size())
	// Output:
	// true
	// "abc\x00\x00xy"
	// 5 7
	// 5 7
}
