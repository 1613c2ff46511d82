package journal_test

import (
	"fmt"

	"mantle/api"
	"mantle/journal"
	"mantle/memory"
)

func Example() {
	data, _ := memory.New([]byte("abcdef"), 15)
	log, _ := memory.New(nil, 15)
	h, _ := journal.New(data, log)
	all := api.Op{Do: api.DoRead, N: 99}
	h.Do(api.Op{Do: api.DoWrite, At: 1, B: []byte("xy")})
	h.Do(api.Op{Do: api.DoCut, At: 4})
	fmt.Printf("%s %s\n", h.Do(all).Data, data.Do(all).Data)
	fmt.Println(log.Do(api.Op{Do: api.DoSize}).N)
	h.Do(api.Op{Do: api.DoSync})
	fmt.Printf("%s %s\n", h.Do(all).Data, data.Do(all).Data)
	fmt.Println(log.Do(api.Op{Do: api.DoSize}).N)
	// Output:
	// axyd abcdef
	// 44
	// axyd axyd
	// 0
}

func ExampleRecover() {
	data, _ := memory.New([]byte("abcdef"), 15)
	// The power went when all of the log was there, and data had nothing yet.
	log, _ := memory.New([]byte("\x00\x00\x00\x00\x00\x00\x00\x0dMANTLE\x0d\x01"+"\x02\x00\x00\x00\x00\x00\x00\x00\x02\x00\x00\x00\x00"), 15)
	fmt.Println(journal.Recover(data, log))
	fmt.Println(journal.Recover(data, log))
	b, _ := memory.All(data)
	fmt.Printf("%s\n", b)
	// Output:
	// 1 error 0
	// 0 error 0
	// ab
}
