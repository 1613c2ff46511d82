package face_test

import (
	"fmt"

	"mantle/api"
	"mantle/face"
)

func Example() {
	f := &plain{[]byte("abc")} // by its value it can be written, cut and synced
	h := face.Make(f, f, nil, nil, nil)
	_, cuts := h.File().(api.Cutter)
	fmt.Println(h.Can(), cuts)
	fmt.Printf("%s\n", h.Do(api.Op{Do: api.DoRead, At: 1, N: 9}).Data)
	fmt.Println(h.Do(api.Op{Do: api.DoCut}).E)
	told, fell := h.Must(api.Op{Do: api.DoCut})
	fmt.Println(told.E, fell)
	fmt.Println(h.Only(api.CanCut).Can())
	// Output:
	// 1 false
	// bc
	// error 5
	// error 5 true
	// 0
}
