package lock_test

import (
	"fmt"
	"slices"
	"strings"
	"testing"

	"mantle/api"
	"mantle/lock"
)

// desk is a table, and the same one on paper. Each call goes to both, and all that is told is held against each other.
type desk struct {
	t     *testing.T
	table *lock.Table
	paper paper
}

func newDesk(t *testing.T) *desk {
	t.Helper()
	d := &desk{t: t, table: lock.New()}
	d.check()
	return d
}

// same tells whether two lists are; nil and empty are.
func same(a, b []api.Lock) bool { return slices.Equal(a, b) }

// check holds both lists against the paper's.
func (d *desk) check() {
	d.t.Helper()
	if got := d.table.Held(); !same(got, d.paper.held) {
		d.t.Errorf("held: %v, want %v", got, d.paper.held)
	}
	if got := d.table.Waits(); !same(got, d.paper.waits) {
		d.t.Errorf("waiting: %v, want %v", got, d.paper.waits)
	}
}

func (d *desk) try(l api.Lock) api.Errno {
	d.t.Helper()
	got, want := d.table.Try(l), d.paper.try(l)
	if got != want {
		d.t.Errorf("Try(%v) answers %v, want %v", l, got, want)
	}
	d.check()
	return got
}

func (d *desk) wait(l api.Lock) (bool, api.Errno) {
	d.t.Helper()
	ok, e := d.table.Wait(l)
	wantOK, want := d.paper.wait(l)
	if ok != wantOK || e != want {
		d.t.Errorf("Wait(%v) answers %v %v, want %v %v", l, ok, e, wantOK, want)
	}
	d.check()
	return ok, e
}

func (d *desk) free(l api.Lock) ([]api.Lock, api.Errno) {
	d.t.Helper()
	told, e := d.table.Free(l)
	wantTold, want := d.paper.free(l)
	if !same(told, wantTold) || e != want {
		d.t.Errorf("Free(%v) answers %v %v, want %v %v", l, told, e, wantTold, want)
	}
	d.check()
	return told, e
}

func (d *desk) leave(who int) []api.Lock {
	d.t.Helper()
	told, want := d.table.Leave(who), d.paper.leave(who)
	if !same(told, want) {
		d.t.Errorf("Leave(%d) tells %v, want %v", who, told, want)
	}
	d.check()
	return told
}

// l reads a lock as the chapter writes it: Who At N, and s if it is shared.
func l(text string) api.Lock {
	var x api.Lock
	var s string
	if n, _ := fmt.Sscan(text, &x.Who, &x.At, &x.N, &s); n < 3 || n == 4 && s != "s" {
		panic("no lock: " + text)
	}
	x.Share = s == "s"
	return x
}

// told writes locks as the chapter does.
func told(list []api.Lock) string {
	var out []string
	for _, x := range list {
		s := fmt.Sprint(x.Who, " ", x.At, " ", x.N)
		if x.Share {
			s += " s"
		}
		out = append(out, s)
	}
	return strings.Join(out, ", ")
}

func word(e api.Errno) string {
	switch e {
	case api.OK:
		return "ok"
	case api.ErrArg:
		return "arg"
	case api.ErrFull:
		return "full"
	case api.ErrLock:
		return "lock"
	case api.ErrDead:
		return "dead"
	case api.ErrNone:
		return "none"
	}
	return e.Error()
}

// say makes the call that a line tells, and tells its answer: an error's word, or true or false, or the locks that go on.
func (d *desk) say(call string) string {
	d.t.Helper()
	do, what, _ := strings.Cut(call, " ")
	switch do {
	case "try":
		return word(d.try(l(what)))
	case "wait":
		ok, e := d.wait(l(what))
		if e != api.OK {
			return strings.TrimPrefix(fmt.Sprint(ok, " "), "false ") + word(e)
		}
		return fmt.Sprint(ok)
	case "free":
		list, e := d.free(l(what))
		if e != api.OK {
			return word(e) + told(list)
		}
		return told(list)
	case "leave":
		var who int
		fmt.Sscan(what, &who)
		return told(d.leave(who))
	case "held":
		return told(d.table.Held())
	case "waits":
		return told(d.table.Waits())
	}
	panic("no call: " + call)
}

// play goes through lines of a call, a colon, and the answer that it must have.
func (d *desk) play(lines ...string) {
	d.t.Helper()
	for i, line := range lines {
		call, want, ok := strings.Cut(line, ":")
		if !ok {
			panic("no answer: " + line)
		}
		if got := d.say(call); got != strings.TrimSpace(want) {
			d.t.Errorf("line %d: %s answers %q, want %q", i, call, got, strings.TrimSpace(want))
		}
	}
}

// play on a new table.
func play(t *testing.T, lines ...string) *desk {
	t.Helper()
	d := newDesk(t)
	d.play(lines...)
	return d
}
