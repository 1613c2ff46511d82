package lock

import (
	"math"

	"mantle/api"
)

// lastEnd is how far a lock of so many places may reach.
const lastEnd = 1 << 62

// mayBe tells whether there may be such a lock. The ends are not added up: an int64 may not hold the sum.
func mayBe(l api.Lock) bool {
	return l.Who >= 0 && l.Who < api.MaxWho && l.At >= 0 && l.N >= 0 && l.At <= lastEnd-l.N
}

// end is the place up to which a lock reaches. One without an end reaches beyond all places that a lock may begin at.
func end(l api.Lock) int64 {
	if l.N == 0 {
		return math.MaxInt64
	}
	return l.At + l.N
}

// meet tells whether two locks can't both be held.
func meet(a, b api.Lock) bool {
	if a.Who == b.Who || a.Share && b.Share {
		return false
	}
	return a.At < end(b) && b.At < end(a)
}

// meetsOne tells whether l meets one of a list.
func meetsOne(l api.Lock, list []api.Lock) bool {
	for _, x := range list {
		if meet(l, x) {
			return true
		}
	}
	return false
}
