package lock_test

import (
	"math"
	"testing"

	"mantle/api"
	"mantle/lock"
)

func TestP151(t *testing.T) {
	a, b := lock.New(), lock.New()
	if a == nil || b == nil || a == b {
		t.Fatal("New makes no table of its own")
	}
	if len(a.Held()) != 0 || len(a.Waits()) != 0 {
		t.Errorf("a new table has %v and %v", a.Held(), a.Waits())
	}
	if a.Try(l("0 0 1")) != api.OK || b.Try(l("1 0 1")) != api.OK {
		t.Error("what is held in one table is kept in another")
	}
	if len(lock.New().Held()) != 0 {
		t.Error("a new table knows of earlier ones")
	}
}

func TestNilTable(t *testing.T) {
	var none *lock.Table
	for _, x := range []api.Lock{l("0 0 1"), l("0 0 0 s"), l("-1 0 1"), l("0 -1 1"), l("0 1 4611686018427387904")} {
		if e := none.Try(x); e != api.ErrNil {
			t.Errorf("Try(%v) answers %v", x, e)
		}
		if ok, e := none.Wait(x); ok || e != api.ErrNil {
			t.Errorf("Wait(%v) answers %v %v", x, ok, e)
		}
		if told, e := none.Free(x); len(told) != 0 || e != api.ErrNil {
			t.Errorf("Free(%v) answers %v %v", x, told, e)
		}
	}
	for _, who := range []int{0, 255, 256, -1, math.MinInt, math.MaxInt} {
		if told := none.Leave(who); len(told) != 0 {
			t.Errorf("Leave(%d) tells %v", who, told)
		}
	}
	if len(none.Held()) != 0 || len(none.Waits()) != 0 {
		t.Error("a nil table has locks")
	}
}

// Which locks may be: asked of an empty table, so that nothing else keeps them.
func TestP152MayBe(t *testing.T) {
	const most, least = math.MaxInt64, math.MinInt64
	for _, x := range []struct {
		l   api.Lock
		may bool
	}{
		{api.Lock{Who: -1, N: 1}, false},
		{api.Lock{Who: 0, N: 1}, true},
		{api.Lock{Who: 255, N: 1}, true},
		{api.Lock{Who: 256, N: 1}, false},
		{api.Lock{Who: math.MinInt, N: 1}, false},
		{api.Lock{Who: math.MaxInt, N: 1}, false},
		{api.Lock{At: -1}, false},
		{api.Lock{At: -1, N: 1}, false},
		{api.Lock{At: -1, N: 1 << 62}, false},
		{api.Lock{At: least}, false},
		{api.Lock{At: least, N: most}, false},
		{api.Lock{N: -1}, false},
		{api.Lock{At: 5, N: -1}, false},
		{api.Lock{At: 5, N: -5}, false},
		{api.Lock{N: least}, false},
		{api.Lock{At: most, N: least}, false},
		{api.Lock{At: least, N: least}, false},
		{api.Lock{At: -1, N: -1}, false},
		{api.Lock{}, true},
		{api.Lock{Share: true}, true},
		{api.Lock{N: 1 << 62}, true},
		{api.Lock{N: 1<<62 + 1}, false},
		{api.Lock{N: most}, false},
		{api.Lock{At: 1, N: 1<<62 - 1}, true},
		{api.Lock{At: 1, N: 1 << 62}, false},
		{api.Lock{At: 1<<62 - 1}, true},
		{api.Lock{At: 1<<62 - 1, N: 1}, true},
		{api.Lock{At: 1<<62 - 1, N: 2}, false},
		{api.Lock{At: 1 << 62}, true},
		{api.Lock{At: 1 << 62, N: 1}, false},
		{api.Lock{At: 1<<62 + 1}, false},
		{api.Lock{At: 1 << 61, N: 1 << 61}, true},
		{api.Lock{At: 1 << 61, N: 1<<61 + 1}, false},
		{api.Lock{At: 1<<61 + 1, N: 1 << 61}, false},
		{api.Lock{At: 1 << 62, N: 1 << 62}, false},
		{api.Lock{At: most}, false},
		{api.Lock{At: most, N: 1}, false},
		{api.Lock{At: 1, N: most}, false},
		{api.Lock{At: most, N: most}, false},
	} {
		wantMayBe(t, x.l, x.may)
		x.l.Share = true
		wantMayBe(t, x.l, x.may)
	}
}

func wantMayBe(t *testing.T, x api.Lock, want bool) {
	t.Helper()
	if may(x) != want {
		t.Errorf("the paper says of %v that it may be: %v", x, !want)
	}
	if got := newDesk(t).try(x) != api.ErrArg; got != want {
		t.Errorf("Try takes %v: %v", x, got)
	}
	if _, e := newDesk(t).wait(x); (e != api.ErrArg) != want {
		t.Errorf("Wait(%v) answers %v", x, e)
	}
	if _, e := newDesk(t).free(x); (e != api.ErrArg) != want {
		t.Errorf("Free(%v) answers %v", x, e)
	}
}

// pairs are two locks of two whos that are not shared, and whether they meet.
var pairs = []struct {
	a, b string
	meet bool
}{
	{"0 0 5", "1 5 5", false}, // they touch
	{"0 0 5", "1 4 5", true},  // in one place
	{"0 0 5", "1 4 1", true},
	{"0 0 5", "1 5 1", false},
	{"0 0 1", "1 0 1", true},
	{"0 0 1", "1 1 1", false},
	{"0 3 1", "1 2 1", false},
	{"0 3 1", "1 3 9", true},
	{"0 0 10", "1 3 4", true}, // one lies in the other
	{"0 0 10", "1 0 4", true},
	{"0 0 10", "1 6 4", true},
	{"0 2 6", "1 2 6", true}, // the same
	{"0 0 5", "1 9 5", false},
	{"0 0 0", "1 0 0", true}, // without an end
	{"0 0 0", "1 0 1", true},
	{"0 0 0", "1 9 1", true},
	{"0 0 0", "1 4611686018427387904 0", true},
	{"0 0 0", "1 4611686018427387903 1", true},
	{"0 5 0", "1 0 5", false},
	{"0 5 0", "1 0 6", true},
	{"0 5 0", "1 4 1", false},
	{"0 5 0", "1 5 1", true},
	{"0 5 0", "1 9 0", true},
	{"0 4611686018427387904 0", "1 4611686018427387904 0", true},
	{"0 4611686018427387904 0", "1 0 4611686018427387904", false},
	{"0 4611686018427387904 0", "1 4611686018427387903 1", false},
	{"0 4611686018427387904 0", "1 4611686018427387903 0", true},
	{"0 4611686018427387903 0", "1 0 4611686018427387904", true},
	{"0 4611686018427387903 0", "1 0 4611686018427387903", false},
	{"0 0 4611686018427387904", "1 4611686018427387903 1", true},
}

// All pairs, either way round, shared or not, of two whos and of one.
func TestP152Meet(t *testing.T) {
	for _, x := range pairs {
		for bits := range 8 {
			a, b := l(x.a), l(x.b)
			a.Share, b.Share = bits&1 > 0, bits&2 > 0
			if bits&4 > 0 {
				a, b = b, a
			}
			wantMeet(t, a, b, x.meet && bits&3 != 3)
			b.Who = a.Who
			wantMeet(t, a, b, false)
		}
	}
}

func wantMeet(t *testing.T, a, b api.Lock, want bool) {
	t.Helper()
	d := newDesk(t)
	d.try(a)
	if e := d.try(b); (e == api.ErrLock) != want || (e == api.OK) == want {
		t.Errorf("%v is held, Try(%v) answers %v", a, b, e)
	}
	d = newDesk(t)
	if ok, e := d.wait(a); !ok || e != api.OK {
		t.Errorf("Wait(%v) in an empty table answers %v %v", a, ok, e)
	}
	if ok, e := d.wait(b); ok == want || e != api.OK {
		t.Errorf("%v is held, Wait(%v) answers %v %v", a, b, ok, e)
	}
	d = newDesk(t)
	d.try(api.Lock{Who: 9})
	d.wait(a) // a waits, and 9 is met by b, too: who waits for whom is held against the paper
	d.wait(b)
	d.leave(9)
	if behind := len(d.table.Waits()) == 1; behind != want {
		t.Errorf("%v goes on ahead of %v, which waits: %v", a, b, behind)
	}
}

func TestP152Shared(t *testing.T) {
	play(t,
		"try 0 0 4 s: ok",
		"try 1 2 4 s: ok",
		"try 2 0 0 s: ok",
		"try 3 3 1: lock",
		"try 3 3 1 s: ok",
		"try 0 9 1 s: ok",
		"try 0 9 1: lock", // 2's reaches there
		"try 2 9 1: lock", // 0's is there
		"leave 2:",
		"try 0 9 1: ok", // its own
		"try 1 9 1 s: lock",
		"held: 0 0 4 s, 1 2 4 s, 3 3 1 s, 0 9 1 s, 0 9 1",
		"waits:",
	)
}

// Locks of one who lie over one another, and the same one twice.
func TestP152OwnLocks(t *testing.T) {
	play(t,
		"try 0 0 10: ok",
		"try 0 3 3: ok",
		"try 0 0 10: ok",
		"try 0 0 10 s: ok",
		"try 0 0 0: ok",
		"wait 0 5 1: true",
		"wait 0 5 1 s: true",
		"held: 0 0 10, 0 3 3, 0 0 10, 0 0 10 s, 0 0 0, 0 5 1, 0 5 1 s",
	)
}

// A lock that meets a waiting one, and no held one.
func TestP152MeetsAWaitingOne(t *testing.T) {
	play(t,
		"try 0 0 10: ok",
		"wait 1 5 10: false",
		"try 2 12 1: lock",
		"try 2 12 1 s: lock",
		"try 2 15 1: ok",
		"try 1 12 1: ok", // its own
		"try 0 12 1: lock",
		"held: 0 0 10, 2 15 1, 1 12 1",
		"waits: 1 5 10",
	)
	play(t,
		"try 0 0 10: ok",
		"wait 1 5 10 s: false",
		"try 2 12 1 s: ok",
		"try 3 12 1: lock",
		"waits: 1 5 10 s",
	)
}

// What comes first of the errors: one that may not be, ahead of a full table; a full one ahead of what is met.
func TestP152Order(t *testing.T) {
	d := newDesk(t)
	d.try(l("0 0 0"))
	d.play("try 256 0 1: arg", "wait -1 0 1: arg", "try 1 0 1: lock", "try 1 -1 1: arg", "wait 1 0 -1: arg")
	for len(d.table.Held()) < api.MaxLocks {
		d.try(l("0 7 1"))
	}
	d.play("try 256 0 1: arg", "wait 0 -1 1: arg", "try 1 0 1: full", "wait 1 0 1: full", "try 0 0 1: full", "wait 0 0 1: full",
		"free 0 -1 1: arg", "free 1 0 1: none", "leave 1:")
}

func TestP152Full(t *testing.T) {
	d := newDesk(t)
	for i := range api.MaxLocks - 1 {
		if e := d.try(api.Lock{Who: i % api.MaxWho, At: int64(i), N: 1}); e != api.OK {
			t.Fatalf("lock %d answers %v", i, e)
		}
	}
	d.play("try 0 999 1: ok", "try 0 1000 1: full", "wait 0 1000 1: full", "wait 1 0 1: full",
		"free 3 3 1:", "wait 3 3 1: true", "try 3 3 1: full",
		"free 3 3 1:", "wait 3 4 1: false", "try 3 3 1: full", "wait 3 3 1: full",
		"leave 9:", "try 9 9 1: ok", "try 9 9 1: full",
		"leave 3:", "try 3 3 1: ok", "try 3 3 1: full")
	for who := range api.MaxWho {
		d.leave(who)
	}
	d.play("held:", "waits:", "try 0 0 0: ok")
}

// Held and waiting ones are together so many.
func TestP153Full(t *testing.T) {
	for _, held := range []int{1, 2, 128, 255} {
		d := newDesk(t)
		for range held {
			d.try(l("0 5 1"))
		}
		for i := held; i < api.MaxLocks; i++ {
			if ok, e := d.wait(l("1 5 1")); ok || e != api.OK {
				t.Fatalf("%d are held, %d there: Wait answers %v %v", held, i, ok, e)
			}
		}
		d.play("try 2 9 1: full", "wait 2 9 1: full", "wait 1 5 1: full", "wait 0 5 1: full")
		d.free(l("0 5 1"))
		if held > 1 {
			d.play("wait 2 9 1: true", "try 2 9 1: full")
		} else {
			d.play("try 2 9 1: ok", "try 2 9 1: full")
		}
		d.leave(1)
		d.play("try 3 7 1: ok")
	}
}
