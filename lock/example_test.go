package lock_test

import (
	"fmt"
	"testing"

	"mantle/api"
	"mantle/lock"
)

func Example() {
	t := lock.New()
	fmt.Println(t.Try(api.Lock{Who: 0, At: 0, N: 10}), t.Try(api.Lock{Who: 1, At: 10}))
	fmt.Println(t.Try(api.Lock{Who: 1, At: 5, N: 1}))
	fmt.Println(t.Wait(api.Lock{Who: 1, At: 5, N: 1}))
	fmt.Println(t.Wait(api.Lock{Who: 0, At: 20, N: 1})) // 0 would wait for 1, which waits for 0
	fmt.Println(t.Free(api.Lock{Who: 0, At: 0, N: 10}))
	fmt.Println(t.Held(), t.Waits())
	// Output:
	// error 0 error 0
	// error 150
	// false error 0
	// false error 151
	// [{1 5 1 false}] error 0
	// [{1 10 0 false} {1 5 1 false}] []
}

// The chapter's table of examples, row by row, on one table.
func TestExamples(t *testing.T) {
	play(t,
		"try 0 0 10: ok", "try 1 5 1: lock", "try 1 10 0: ok", "try 0 3 3: ok",
		"wait 1 0 5: false", "wait 0 20 1: dead",
		"try 2 2 1 s: lock", "wait 2 2 1 s: false",
		"free 0 0 10:", "free 0 3 3: 1 0 5",
		"free 0 0 10: none", "try 256 0 1: arg", "try 0 0 -1: arg", "try 0 1 4611686018427387904: arg",
		"leave 1: 2 2 1 s",
	)
}

// DOC.md's sixth example: two who wait for each other's lock.
func TestExampleOfTheWhole(t *testing.T) {
	play(t, "try 0 0 1: ok", "try 1 1 1: ok", "wait 0 1 1: false", "wait 1 0 1: dead", "waits: 0 1 1")
}
