package lock_test

import (
	"testing"

	"mantle/api"
)

// Held tells in the order in which they got to be held, however they did; Waits the row.
func TestP155(t *testing.T) {
	play(t,
		"held:", "waits:",
		"try 3 30 1: ok", "wait 1 10 1: true", "try 2 20 1: ok",
		"held: 3 30 1, 1 10 1, 2 20 1",
		"wait 5 10 1: false", "wait 4 20 1: false", "wait 6 0 10: true", "wait 0 30 1: false",
		"held: 3 30 1, 1 10 1, 2 20 1, 6 0 10",
		"waits: 5 10 1, 4 20 1, 0 30 1",
		"free 2 20 1: 4 20 1",
		"held: 3 30 1, 1 10 1, 6 0 10, 4 20 1",
		"waits: 5 10 1, 0 30 1",
		"free 3 30 1: 0 30 1",
		"leave 1: 5 10 1",
		"held: 6 0 10, 4 20 1, 0 30 1, 5 10 1",
		"waits:",
	)
}

// spoil writes into a list that was told, and into the room behind its end.
func spoil(list []api.Lock) {
	for i := range list[:cap(list)] {
		list[:cap(list)][i] = api.Lock{Who: 77, At: 1 << 40, N: 1}
	}
	_ = append(list, api.Lock{Who: 78}, api.Lock{Who: 79})
}

// What is done to a told list is seen by nobody, at any time.
func TestP155NewMemory(t *testing.T) {
	for seed := range chance(60) {
		c := seed
		d := newDesk(t)
		var kept [][]api.Lock
		for range 60 {
			for _, list := range [][]api.Lock{d.table.Held(), d.table.Waits(), d.any(&c, 5, 8)} {
				if c.below(2) == 0 {
					spoil(list)
				} else {
					kept = append(kept, list)
				}
			}
			spoil(d.table.Held())
			spoil(d.table.Waits())
			d.check()
		}
		if t.Failed() {
			t.Fatalf("seed %d", seed)
		}
		for _, list := range kept {
			spoil(list)
		}
		d.check()
	}
}

// A list that was told stays as it was, whatever the table does then.
func TestP155KeptLists(t *testing.T) {
	for seed := range chance(60) {
		c := seed
		d := newDesk(t)
		var lists [][]api.Lock
		var texts []string
		for range 60 {
			for _, list := range [][]api.Lock{d.any(&c, 5, 8), d.table.Held(), d.table.Waits(), d.table.Held()} {
				lists, texts = append(lists, list), append(texts, told(list))
			}
		}
		for i, list := range lists {
			if got := told(list); got != texts[i] {
				t.Fatalf("seed %d: a list told %s, and tells %s now", seed, texts[i], got)
			}
		}
	}
}

// The locks that Free and Leave tell are the caller's.
func TestP154NewMemory(t *testing.T) {
	d := play(t, "try 0 0 9: ok", "wait 1 1 1: false", "wait 2 2 1: false", "wait 3 1 2: false")
	list, _ := d.free(l("0 0 9"))
	spoil(list)
	d.play("held: 1 1 1, 2 2 1", "waits: 3 1 2")
	spoil(d.leave(1))
	spoil(d.leave(2))
	d.play("held: 3 1 2", "waits:", "free 3 1 2:")
}
