package lock_test

import (
	"fmt"
	"testing"

	"mantle/api"
)

func TestP153(t *testing.T) {
	play(t,
		"wait 0 0 10: true", // it meets nothing
		"wait 1 10 5: true",
		"wait 2 9 1: false",   // a held one
		"wait 3 15 0: true",   // beside the others
		"wait 4 9 1 s: false", // a held one, and one that waits
		"wait 2 0 1: false",   // a who that waits already
		"wait 2 12 1: false",
		"wait 2 99 1: false",
		"wait 2 0 1: false",
		"wait 2 9 1: dead", // behind 4, which waits for it
		"held: 0 0 10, 1 10 5, 3 15 0",
		"waits: 2 9 1, 4 9 1 s, 2 0 1, 2 12 1, 2 99 1, 2 0 1",
	)
}

// A lock that meets a waiting one alone waits behind it.
func TestP153MeetsAWaitingOne(t *testing.T) {
	play(t,
		"try 0 0 4: ok",
		"wait 1 0 9: false",
		"wait 2 5 1: false",
		"wait 3 5 1 s: false",
		"wait 4 9 1: true",
		"wait 1 5 1: dead", // it would wait for 2, which waits for it
		"wait 1 7 1: true", // its own waiting lock is no hindrance
		"waits: 1 0 9, 2 5 1, 3 5 1 s",
	)
}

// Shared ones stand behind one that is not, also where they could go past it.
func TestP153SharedBehind(t *testing.T) {
	play(t,
		"try 0 0 4 s: ok",
		"wait 1 0 4: false",
		"wait 2 0 4 s: false",
		"wait 3 0 4 s: false",
		"try 4 0 4 s: lock",
		"leave 1: 2 0 4 s, 3 0 4 s",
		"try 4 0 4 s: ok",
	)
}

// ring makes whos that hold one place each, all but the last of which wait for the next one's.
func ring(t *testing.T, whos int) *desk {
	t.Helper()
	d := newDesk(t)
	for i := range whos {
		d.try(api.Lock{Who: i, At: int64(i), N: 1})
	}
	for i := range whos - 1 {
		if ok, e := d.wait(api.Lock{Who: i, At: int64(i + 1), N: 1}); ok || e != api.OK {
			t.Fatalf("%d of %d: %v %v", i, whos, ok, e)
		}
	}
	return d
}

// Circles of held locks, of any length. A row that is not closed is none.
func TestP153CircleOfHeld(t *testing.T) {
	for _, whos := range []int{2, 3, 4, 5, 17, 127} {
		d := ring(t, whos)
		last := whos - 1
		for i := range last {
			d.play(fmt.Sprintf("wait %d %d 1: dead", last, i), fmt.Sprintf("wait %d %d 1 s: dead", last, i))
		}
		d.play(
			fmt.Sprintf("wait %d %d 1: dead", last, last), // the one ahead of it waits there
			fmt.Sprintf("wait %d %d 1: true", last, whos),
			fmt.Sprintf("wait %d 0 1: false", whos), // one outside waits for all of them
			fmt.Sprintf("wait %d 0 1: dead", last),
		)
	}
}

// All places of a circle are as good as each other: whichever comes last is refused.
func TestP153CircleByAnyOrder(t *testing.T) {
	for _, order := range [][]int{{0, 1, 2}, {0, 2, 1}, {1, 0, 2}, {1, 2, 0}, {2, 0, 1}, {2, 1, 0}} {
		d := play(t, "try 0 0 1: ok", "try 1 1 1: ok", "try 2 2 1: ok")
		for i, who := range order {
			want := "false"
			if i == 2 {
				want = "dead"
			}
			d.play(fmt.Sprintf("wait %d %d 1: %s", who, (who+1)%3, want))
		}
	}
}

// Circles by way of waiting locks that stand ahead.
func TestP153CircleOfWaiting(t *testing.T) {
	play(t,
		"try 9 0 0: ok",
		"wait 0 0 2: false",
		"wait 1 1 2: false", // behind 0
		"wait 0 2 1: dead",  // behind 1
		"wait 0 0 1: false",
		"wait 1 0 1: false", // 1 waits for 0 anyway
		"wait 2 2 9: false", // behind 1
		"wait 0 5 1: dead",  // behind 2, which is behind 1, which is behind 0
		"wait 1 9 1: dead",
		"wait 2 0 9: false",
		"wait 3 20 1: false", // behind none but 9
		"wait 0 20 1: false", // 3 waits for nobody of them
		"wait 3 0 1: dead",   // now 0 waits for 3
		"wait 9 30 1: true",  // its own
		"wait 9 0 1: dead",
	)
}

// Circles by way of both.
func TestP153CircleOfBoth(t *testing.T) {
	play(t,
		"try 0 0 1: ok",
		"try 1 1 1: ok",
		"wait 2 1 5: false", // 2 waits for 1
		"wait 0 4 1: false", // 0 waits for 2, which waits ahead
		"wait 1 0 1: dead",  // 1 would wait for 0
		"wait 1 4 1: dead",  // 1 would wait for 2, which waits for it
		"wait 1 9 1: true",
		"wait 3 0 1: false", // 3 waits for 0
		"wait 1 9 1: true",
		"leave 2: 0 4 1",
		"wait 1 0 1: false", // behind 0 and 3, and these do not wait for it
		"wait 0 1 1: dead",
		"wait 3 1 1: dead", // it would wait for 1, which waits for it
	)
}

// What stands behind is waited for by nobody: a lock that waits later makes no circle.
func TestP153NearlyACircle(t *testing.T) {
	play(t,
		"try 0 0 1: ok",
		"try 1 1 1: ok",
		"wait 2 0 2: false", // 2 waits for 0 and 1
		"wait 3 0 2: false", // 3 waits for 0, 1 and 2
		"wait 0 9 1: true",
		"wait 0 1 1: dead", // 0 would wait for 1 and for 2, which waits for it
		"leave 2:",
		"leave 3:",
		"wait 0 1 1: false", // none of them is there any more
		"wait 1 0 1: dead",
		"waits: 0 1 1",
	)
	play(t, // two rows to one end
		"try 0 0 1: ok",
		"try 1 1 1: ok",
		"try 2 2 1: ok",
		"try 3 3 1: ok",
		"wait 0 1 1: false",
		"wait 0 2 1: false",
		"wait 1 3 1: false",
		"wait 2 3 1: false",
		"wait 3 0 1: dead",
		"wait 3 1 1: dead",
		"wait 3 2 1: dead",
		"wait 1 2 1: dead", // 0 waits there, and for 1
		"leave 0:",
		"wait 1 2 1: dead", // 2 waits behind 1 for what 3 holds
		"wait 2 1 1: false",
	)
	play(t, // the shared ones among them do not meet
		"try 0 0 1 s: ok",
		"try 1 1 1 s: ok",
		"wait 0 1 1 s: true",
		"wait 1 0 1 s: true",
		"wait 0 1 1: false",
		"wait 1 0 1: dead",
		"wait 1 0 1 s: true", // it meets nothing: held ones are shared, and the waiting one lies elsewhere
		"wait 1 1 1 s: dead", // behind the one of 0
	)
}

// A who that waits by several locks waits for all of whom they meet.
func TestP153CircleBySeveralLocks(t *testing.T) {
	d := play(t, "try 0 0 1: ok", "try 1 1 1: ok", "try 2 2 1: ok", "try 3 3 1: ok",
		"wait 0 1 1: false", "wait 0 2 1: false", "wait 0 3 1: false")
	for who := 1; who < 4; who++ {
		d.play(fmt.Sprintf("wait %d 0 1: dead", who), fmt.Sprintf("wait %d 0 0 s: dead", who))
	}
	d.play("free 1 1 1: 0 1 1", "wait 1 0 1: false", "wait 2 0 1: dead", "wait 1 1 1: false")
}

// Waiting ones that are refused leave no trace: neither a place in the row nor anything that others meet.
func TestP153DeadChangesNothing(t *testing.T) {
	d := ring(t, 3)
	held, waits := told(d.table.Held()), told(d.table.Waits())
	for range 300 { // more than there is room for
		d.play("wait 2 0 1: dead", "wait 2 0 0: dead")
	}
	d.play("held: "+held, "waits: "+waits, "try 9 20 1: ok", "wait 8 20 1: false", "leave 2: 1 2 1")
}
