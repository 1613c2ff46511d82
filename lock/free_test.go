package lock_test

import (
	"math"
	"testing"
)

// Only a lock that is the same in all four is freed.
func TestP154Free(t *testing.T) {
	play(t,
		"free 0 0 1: none",
		"try 0 0 4: ok",
		"free 1 0 4: none",
		"free 0 1 4: none",
		"free 0 0 5: none",
		"free 0 0 4 s: none",
		"free 0 0 0: none",
		"free 0 1 1: none", // a part of it
		"held: 0 0 4",
		"free 0 0 4:",
		"free 0 0 4: none",
		"try 0 0 4 s: ok",
		"free 0 0 4: none",
		"free 0 0 4 s:",
		"try 0 4611686018427387904 0: ok",
		"free 0 4611686018427387903 1: none",
		"free 0 4611686018427387904 0:",
		"held:",
	)
}

func TestP154FreeArg(t *testing.T) {
	play(t,
		"try 0 0 4: ok",
		"free -1 0 4: arg",
		"free 256 0 4: arg",
		"free 0 -1 4: arg",
		"free 0 0 -4: arg",
		"free 0 1 4611686018427387904: arg",
		"free 0 9223372036854775807 9223372036854775807: arg",
		"held: 0 0 4",
	)
}

// Of several that are the same the first goes; the others stay as they stand.
func TestP154FreeTheFirst(t *testing.T) {
	play(t,
		"try 0 0 1: ok",
		"try 0 5 1: ok",
		"try 1 9 1: ok",
		"try 0 5 1: ok",
		"try 0 7 1: ok",
		"free 0 5 1:",
		"held: 0 0 1, 1 9 1, 0 5 1, 0 7 1",
		"try 2 5 1: lock",
		"free 0 5 1:",
		"held: 0 0 1, 1 9 1, 0 7 1",
		"try 2 5 1: ok",
		"free 0 5 1: none",
		"free 0 0 1:", // the first of all
		"free 2 5 1:", // the last of all
		"held: 1 9 1, 0 7 1",
	)
}

// A lock that waits is not held.
func TestP154FreeOfAWaitingOne(t *testing.T) {
	play(t,
		"try 0 0 4: ok",
		"wait 1 0 4: false",
		"free 1 0 4: none",
		"waits: 1 0 4",
		"free 0 0 4: 1 0 4",
		"wait 0 0 4: false",
		"free 1 0 4: 0 0 4",
	)
	play(t, // held, and waiting besides
		"try 1 0 4 s: ok",
		"try 2 0 4 s: ok",
		"wait 3 0 4: false",
		"wait 4 0 4 s: false",
		"free 4 0 4 s: none",
		"free 2 0 4 s:",
		"free 1 0 4 s: 3 0 4",
		"free 3 0 4: 4 0 4 s",
	)
}

func TestP154GoOn(t *testing.T) {
	play(t, // none, then one
		"try 0 0 9: ok",
		"try 1 9 1: ok",
		"wait 2 0 0: false",
		"free 0 0 9:",
		"waits: 2 0 0",
		"free 1 9 1: 2 0 0",
		"waits:",
	)
	play(t, // several, in the row's order
		"try 0 0 9: ok",
		"wait 5 5 1: false",
		"wait 3 3 1: false",
		"wait 4 4 1: false",
		"try 9 20 1: ok",
		"free 0 0 9: 5 5 1, 3 3 1, 4 4 1",
		"held: 9 20 1, 5 5 1, 3 3 1, 4 4 1",
		"waits:",
	)
	play(t, // one that goes on keeps a later one waiting
		"try 0 0 9: ok",
		"wait 1 0 5: false",
		"wait 2 4 5: false",
		"wait 3 9 1: true",
		"wait 4 8 1: false", // behind 2
		"wait 5 0 1: false", // behind 1
		"free 0 0 9: 1 0 5",
		"held: 3 9 1, 1 0 5",
		"waits: 2 4 5, 4 8 1, 5 0 1",
		"free 1 0 5: 2 4 5, 5 0 1",
		"free 2 4 5: 4 8 1",
	)
	play(t, // one that still waits keeps a later one waiting, though that meets no held one
		"try 0 0 4: ok",
		"try 1 6 4: ok",
		"wait 2 2 6: false", // for 0 and 1
		"wait 3 3 2: false", // for 0 and 2
		"wait 4 0 1: false", // for 0
		"free 0 0 4: 4 0 1",
		"waits: 2 2 6, 3 3 2",
		"held: 1 6 4, 4 0 1",
		"free 1 6 4: 2 2 6",
		"free 2 2 6: 3 3 2",
	)
}

// Shared ones go on together; one that is not waits for the last of them.
func TestP154GoOnShared(t *testing.T) {
	play(t,
		"try 0 0 4: ok",
		"wait 1 0 4 s: false",
		"wait 2 0 4 s: false",
		"wait 3 0 4: false",
		"wait 4 0 4 s: false",
		"free 0 0 4: 1 0 4 s, 2 0 4 s",
		"free 1 0 4 s:",
		"free 2 0 4 s: 3 0 4",
		"free 3 0 4: 4 0 4 s",
		"held: 4 0 4 s",
	)
}

// One who's own locks go on side by side, the same one twice, too.
func TestP154GoOnOwn(t *testing.T) {
	play(t,
		"try 0 0 4: ok",
		"wait 1 0 4: false",
		"wait 1 2 2: false",
		"wait 1 0 4: false",
		"free 0 0 4: 1 0 4, 1 2 2, 1 0 4",
		"free 1 0 4:",
		"held: 1 2 2, 1 0 4",
	)
}

func TestP154Leave(t *testing.T) {
	play(t, // of a who that holds
		"try 0 0 4: ok",
		"try 1 4 4: ok",
		"try 0 8 4: ok",
		"try 0 0 4: ok",
		"wait 2 3 1: false",
		"leave 0: 2 3 1",
		"held: 1 4 4, 2 3 1",
	)
	play(t, // of one that waits: those behind go on
		"try 0 0 4 s: ok",
		"wait 1 0 4: false",
		"wait 2 1 1 s: false",
		"wait 1 2 1: false",
		"wait 3 2 1 s: false",
		"leave 1: 2 1 1 s, 3 2 1 s",
		"held: 0 0 4 s, 2 1 1 s, 3 2 1 s",
		"waits:",
	)
	play(t, // of one that does both
		"try 0 0 4: ok",
		"try 1 4 4: ok",
		"wait 1 0 1: false",
		"wait 2 4 1: false",
		"wait 3 0 1: false",
		"leave 1: 2 4 1",
		"held: 0 0 4, 2 4 1",
		"waits: 3 0 1",
		"leave 0: 3 0 1",
	)
	play(t, // of one that has none
		"leave 0:",
		"try 0 0 4: ok",
		"wait 1 0 4: false",
		"leave 2:",
		"held: 0 0 4",
		"waits: 1 0 4",
		"leave 0: 1 0 4",
		"leave 0:",
		"leave 1:",
		"held:",
		"waits:",
	)
}

// Whos that stand at the ends of what may be, and beyond.
func TestP154LeaveOfNobody(t *testing.T) {
	d := play(t, "try 0 0 4: ok", "try 255 4 4: ok", "wait 255 0 1: false", "wait 1 7 1: false")
	for _, who := range []int{-1, 256, 511, math.MinInt, math.MaxInt, 1 << 32, -255, -256} {
		if told := d.leave(who); len(told) != 0 {
			t.Errorf("Leave(%d) tells %v", who, told)
		}
	}
	d.play("held: 0 0 4, 255 4 4", "waits: 255 0 1, 1 7 1", "leave 255: 1 7 1", "leave 0:", "held: 1 7 1")
}

// A who that has left may come again.
func TestP154LeaveAndComeAgain(t *testing.T) {
	d := ring(t, 3)
	d.play("leave 1: 0 1 1", "waits:", "try 1 5 1: ok", "wait 1 2 1: false", "wait 2 5 1: dead", "leave 2: 1 2 1")
	if got := len(d.table.Held()); got != 4 {
		t.Errorf("%d are held", got)
	}
}
