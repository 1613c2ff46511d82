package caps_test

import (
	"fmt"

	"mantle/api"
	"mantle/caps"
)

func Example() {
	can, e := caps.Stack([]api.Wrap{{Kind: api.WrapCipher}, {Kind: api.WrapWindow}}, 15)
	fmt.Println(caps.Text(can), e == api.OK)
	_, err := caps.Parse("sync write")
	fmt.Println(err)
	// Output:
	// write sync true
	// 5: error 2: write
}
