package lock

import (
	"slices"

	"mantle/api"
)

// keeps tells whether l must wait, where those ahead of it wait.
func (t *Table) keeps(l api.Lock, ahead []api.Lock) bool {
	return meetsOne(l, t.held) || meetsOne(l, ahead)
}

// goOn lets all those hold their lock whom nothing keeps waiting any more, and tells them. Once is enough: one that goes on makes nothing free.
func (t *Table) goOn() []api.Lock {
	var told []api.Lock
	for i := 0; i < len(t.waits); {
		l := t.waits[i]
		if t.keeps(l, t.waits[:i]) {
			i++
			continue
		}
		t.waits = without(t.waits, i)
		t.held = append(t.held, l)
		told = append(told, l)
	}
	return told
}

// circle tells whether there would be one with l as the last that waits. There is none without l, and l lets only its own who wait for more: so it is enough to look whether that one would come to wait for itself.
func (t *Table) circle(l api.Lock) bool {
	waits := append(slices.Clone(t.waits), l)
	reached := map[int]int{}
	row := []int{l.Who}
	reach := func(w api.Lock, ahead []api.Lock) {
		for _, x := range ahead {
			if meet(w, x) && reached[x.Who] == 0 {
				reached[x.Who] = 1
				row = append(row, x.Who)
			}
		}
	}
search:
	for len(row) > 0 {
		who := row[0]
		row = row[1:]
		for i, w := range waits {
			if w.Who != who {
				continue
			}
			reach(w, t.held)
			reach(w, waits[:i])
			if reached[l.Who] > 0 {
				break search
			}
		}
	}
	return reached[l.Who] > 0
}

// without cuts one lock out of a list of the table's own.
func without(list []api.Lock, i int) []api.Lock {
	return append(list[:i], list[i+1:]...)
}

// withoutWho cuts all locks of a who out of a list of the table's own.
func withoutWho(list []api.Lock, who int) []api.Lock {
	for i := 0; i < len(list); {
		if list[i].Who == who {
			list = without(list, i)
		} else {
			i++
		}
	}
	return list
}
