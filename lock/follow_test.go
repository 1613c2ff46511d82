package lock_test

import (
	"slices"
	"testing"

	"mantle/api"
	"mantle/lock"
)

// pick is a lock out of a list, or any.
func (c *chance) pick(list []api.Lock, whos, places int) api.Lock {
	if len(list) == 0 || c.below(4) == 0 {
		return c.any(whos, places)
	}
	return list[c.below(len(list))]
}

// any makes one call, and holds what must hold behind each: P15.6, and that what is refused has changed nothing. It answers the list that was told, if one was.
func (d *desk) any(c *chance, whos, places int) []api.Lock {
	d.t.Helper()
	held, waits := d.table.Held(), d.table.Waits()
	e := api.OK
	var told []api.Lock
	switch c.below(12) {
	case 0, 1, 2:
		e = d.try(c.any(whos, places))
	case 3, 4, 5, 6, 7:
		_, e = d.wait(c.any(whos, places))
	case 8, 9:
		told, e = d.free(c.pick(held, whos, places))
	case 10:
		told, e = d.free(c.pick(waits, whos, places))
	default:
		told = d.leave(c.below(whos+2) - 1)
	}
	if e != api.OK && (!same(held, d.table.Held()) || !same(waits, d.table.Waits())) {
		d.t.Errorf("what was refused (%v) has changed the table", e)
	}
	d.wantP156()
	return told
}

// wantP156 holds what the table itself tells against the promise.
func (d *desk) wantP156() {
	d.t.Helper()
	p := paper{d.table.Held(), d.table.Waits()}
	for i, a := range p.held {
		for _, b := range p.held[:i] {
			if meets(a, b) {
				d.t.Errorf("%v and %v are both held", a, b)
			}
		}
	}
	if p.circle() {
		d.t.Errorf("%v are held, %v wait in a circle", p.held, p.waits)
	}
	for i, a := range p.waits {
		if !p.kept(a, i) {
			d.t.Errorf("%v waits for nothing", a)
		}
	}
	if len(p.waits) > 0 && !p.kept(p.waits[0], 0) {
		d.t.Errorf("%v is the first, and waits for none that holds", p.waits[0])
	}
	if len(p.held)+len(p.waits) > api.MaxLocks {
		d.t.Errorf("there are %d locks", len(p.held)+len(p.waits))
	}
}

// Any mixture of calls, of few whos and of many, at few places and at many.
func TestP156(t *testing.T) {
	for seed := range chance(600) {
		c := seed
		d := newDesk(t)
		whos, places := 2+c.below(9), 2+c.below(16)
		for range 120 {
			d.any(&c, whos, places)
		}
		if t.Failed() {
			t.Fatalf("seed %d", seed)
		}
	}
}

// The same where there are many locks, up to a full table.
func TestP156Full(t *testing.T) {
	full := 0
	for seed := range chance(4) {
		c := seed
		d := newDesk(t)
		for range 600 {
			if c.below(4) > 0 {
				_, e := d.wait(c.lock(200, 400))
				if e == api.ErrFull {
					full++
				}
			} else {
				d.any(&c, 200, 400)
			}
		}
		if t.Failed() {
			t.Fatalf("seed %d", seed)
		}
	}
	if full == 0 {
		t.Error("the table was never full")
	}
}

// All rows of three calls, of three whos at two places.
func TestP156AllShortRows(t *testing.T) {
	var all []api.Lock
	for who := range 3 {
		for _, s := range []api.Lock{{At: 0, N: 1}, {At: 1, N: 1}, {At: 0, N: 0, Share: true}} {
			s.Who = who
			all = append(all, s)
		}
	}
	calls := 3 * len(all)
	for n := range calls * calls * calls {
		d := newDesk(t)
		row := n
		for range 3 {
			switch x := all[row%calls/3]; row % 3 {
			case 0:
				d.try(x)
			case 1:
				d.wait(x)
			case 2:
				d.free(x)
			}
			row /= calls
		}
		d.wantP156()
		d.leave(n % 3)
		d.wantP156()
		if t.Failed() {
			t.Fatalf("row %d", n)
		}
	}
}

// order is all whos, in any order.
func (c *chance) order(whos int) []int {
	var list []int
	for who := range whos {
		list = slices.Insert(list, c.below(len(list)+1), who)
	}
	return list
}

// If all leave, each lock that waits is told by one who leaves ahead of its own who, or goes with its own who; the last who has none that wait.
func TestP157(t *testing.T) {
	went, gone := 0, 0
	for seed := range chance(400) {
		c := seed
		d := newDesk(t)
		whos := 2 + c.below(8)
		for range 50 {
			d.any(&c, whos, 10)
		}
		order := append(c.order(whos), 255)
		if c.below(2) == 0 {
			slices.Reverse(order)
		}
		for i, who := range order {
			for _, x := range d.table.Waits() {
				if x.Who == who {
					gone++
				}
				if i > 0 && x.Who == order[i-1] || i == len(order)-1 {
					t.Errorf("%v still waits", x)
				}
			}
			went += len(d.leaveAll(who))
		}
		d.play("held:", "waits:")
		if t.Failed() {
			t.Fatalf("seed %d", seed)
		}
	}
	if went == 0 || gone == 0 {
		t.Errorf("%d went on, %d did not", went, gone)
	}
}

// leaveAll lets one leave, and holds that each lock of another one that waited is told, or waits still, in the order that it had.
func (d *desk) leaveAll(who int) []api.Lock {
	d.t.Helper()
	waits := d.table.Waits()
	went := d.leave(who)
	told, still := went, d.table.Waits()
	for _, x := range waits {
		switch {
		case x.Who == who:
		case len(told) > 0 && told[0] == x:
			told = told[1:]
		case len(still) > 0 && still[0] == x:
			still = still[1:]
		default:
			d.t.Errorf("%v was lost", x)
		}
	}
	if len(told) > 0 || len(still) > 0 {
		d.t.Errorf("%v were told, and %v wait, out of nothing", told, still)
	}
	d.wantP156()
	return went
}

// Each who that stays behind gets all that it waits for from those who leave, each lock once.
func TestP157WhoStays(t *testing.T) {
	for seed := range chance(300) {
		c := seed
		d := newDesk(t)
		whos := 2 + c.below(8)
		for range 50 {
			d.any(&c, whos, 10)
		}
		stays := c.below(whos)
		waited := onlyOf(d.table.Waits(), stays)
		var got []api.Lock
		for _, who := range append(c.order(whos), 255) {
			if who != stays {
				got = append(got, onlyOf(d.leaveAll(who), stays)...)
			}
		}
		if !sameBag(got, waited) || len(d.table.Waits()) > 0 {
			t.Fatalf("seed %d: %v waited for %v, and got %v", seed, stays, waited, got)
		}
	}
}

func onlyOf(list []api.Lock, who int) []api.Lock {
	return slices.DeleteFunc(slices.Clone(list), func(x api.Lock) bool { return x.Who != who })
}

// sameBag tells whether two lists hold the same locks, as often, in any order.
func sameBag(a, b []api.Lock) bool {
	rest := slices.Clone(b)
	for _, x := range a {
		i := slices.Index(rest, x)
		if i < 0 {
			return false
		}
		rest = slices.Delete(rest, i, i+1)
	}
	return len(rest) == 0
}

// A who that is alone is never kept, whatever it locks.
func TestP158OwnLocks(t *testing.T) {
	for seed := range chance(40) {
		c := seed
		d := newDesk(t)
		who := []int{0, 7, 255}[c.below(3)]
		for range 100 {
			x := c.lock(1, 6)
			x.Who, x.N = who, int64(c.below(3))
			if c.below(2) == 0 {
				if e := d.try(x); e != api.OK {
					t.Errorf("Try(%v) answers %v", x, e)
				}
			} else if ok, e := d.wait(x); !ok || e != api.OK {
				t.Errorf("Wait(%v) answers %v %v", x, ok, e)
			}
			if c.below(3) == 0 {
				d.free(c.pick(d.table.Held(), 1, 6))
			}
		}
		if t.Failed() {
			t.Fatalf("seed %d", seed)
		}
	}
}

// Beside others: what keeps a lock is never one of its own who, neither a held one nor one that waits.
func TestP158AmongOthers(t *testing.T) {
	for seed := range chance(300) {
		c := seed
		d := newDesk(t)
		for range 60 {
			d.any(&c, 4, 8)
			x := c.lock(4, 8)
			others := lock.New() // the same table without what is of x's who
			for _, h := range d.table.Held() {
				if h.Who != x.Who {
					others.Try(h)
				}
			}
			foreign := false
			for _, w := range d.table.Waits() {
				foreign = foreign || meets(w, x)
			}
			if want := others.Try(x) == api.OK && !foreign; (d.try(x) == api.OK) != want {
				t.Fatalf("seed %d: %v goes without its who's other locks: %v", seed, x, want)
			}
		}
	}
}

// A call that is refused has changed nothing: a table that was asked all kinds of wrong things goes on as one that was not.
func TestP158Refused(t *testing.T) {
	refused := map[api.Errno]int{}
	for seed := range chance(300) {
		c := seed
		asked, plain := newDesk(t), lock.New()
		for range 60 {
			x := c.any(6, 8)
			e := api.OK
			switch c.below(5) {
			case 0:
				if e = asked.try(x); e == api.OK {
					plain.Try(x)
				}
			case 1, 2, 3:
				if _, e = asked.wait(x); e == api.OK {
					plain.Wait(x)
				}
			case 4:
				x = c.pick(append(asked.table.Held(), asked.table.Waits()...), 6, 8)
				if _, e = asked.free(x); e == api.OK {
					plain.Free(x)
				}
			}
			refused[e]++
		}
		for who := range 6 {
			if a, b := asked.leave(who), plain.Leave(who); !same(a, b) {
				t.Fatalf("seed %d: Leave(%d) tells %v, without the refused calls %v", seed, who, a, b)
			}
		}
	}
	for _, e := range []api.Errno{api.ErrArg, api.ErrLock, api.ErrDead, api.ErrNone} {
		if refused[e] == 0 {
			t.Errorf("%v was never answered", e)
		}
	}
}
