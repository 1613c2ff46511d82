package tee_test

import (
	"bytes"
	"fmt"
	"math"
	"slices"
	"testing"

	"mantle/api"
	"mantle/face"
	"mantle/span"
	"mantle/tee"
)

func watch(t *testing.T, below *face.Handle) (*face.Handle, *tee.Log) {
	t.Helper()
	h, log := tee.Watched(below)
	if h == nil || log == nil {
		t.Fatalf("Watched answers %v, %v", h, log)
	}
	return h, log
}

func sameOp(a, b api.Op) bool {
	return a.Do == b.Do && a.At == b.At && a.N == b.N && bytes.Equal(a.B, b.B)
}

// wantOps holds all that is written down, each field of it.
func wantOps(t *testing.T, log *tee.Log, want ...api.Op) {
	t.Helper()
	if got := log.Ops(); !slices.EqualFunc(got, want, sameOp) {
		t.Errorf("%d ops are written down: %.200v, want %d: %.200v", len(got), fmt.Sprint(got), len(want), fmt.Sprint(want))
	}
}

// written is what is written down of op, if the file can it: what its call is handed, and nothing else.
func written(op api.Op) api.Op {
	switch op.Do {
	case api.DoRead:
		return api.Op{Do: op.Do, At: op.At, N: op.N}
	case api.DoWrite:
		return api.Op{Do: op.Do, At: op.At, B: op.B}
	case api.DoCut, api.DoNext:
		return api.Op{Do: op.Do, At: op.At}
	}
	return api.Op{Do: op.Do}
}

func TestP72Nil(t *testing.T) {
	for _, none := range []*face.Handle{nil, {}} {
		h, log := tee.Watched(none)
		if h != nil || log != nil || len(log.Ops()) != 0 {
			t.Errorf("Watched of nil answers %v, %v", h, log)
		}
		wantTold(t, h, api.Op{}, api.Told{E: api.ErrNil})
	}
}

// Over each of the sixteen sets it can what the file below can.
func TestP72Can(t *testing.T) {
	for can := range uint8(16) {
		h, _ := watch(t, newFile(t, "abc", can))
		wantCan(t, h, can)
		again, _ := watch(t, h)
		wantCan(t, again, can)
		for less := range uint8(16) {
			narrow, _ := watch(t, h.Only(less))
			wantCan(t, narrow, can&less)
			wantCan(t, h.Only(less), can&less)
		}
		r := newRefuser(t, "") // its value can more than its handle
		over, _ := watch(t, r.handle(can))
		wantCan(t, over, can)
	}
}

// Each of the six methods, called by itself: what is written down, and what is told.
func TestP72Methods(t *testing.T) {
	h, log := watch(t, newFile(t, "abc", 15))
	f := h.File()
	wantOps(t, log)
	if f.Size() != 3 {
		t.Error("the Size is another one")
	}
	want := []api.Op{{Do: api.DoSize}}
	wantOps(t, log, want...)
	if b, e := f.ReadAt(1, 9); string(b) != "bc" || e != api.OK {
		t.Errorf("it reads %q, %v", b, e)
	}
	want = append(want, api.Op{Do: api.DoRead, At: 1, N: 9})
	wantOps(t, log, want...)
	if e := f.(api.Writer).WriteAt(4, []byte("xy")); e != api.OK {
		t.Error(e)
	}
	want = append(want, api.Op{Do: api.DoWrite, At: 4, B: []byte("xy")})
	wantOps(t, log, want...)
	if from, to := f.(api.Holer).Next(3); from != 4 || to != 6 {
		t.Errorf("Next tells %d %d", from, to)
	}
	want = append(want, api.Op{Do: api.DoNext, At: 3})
	wantOps(t, log, want...)
	if e := f.(api.Cutter).Cut(2); e != api.OK {
		t.Error(e)
	}
	want = append(want, api.Op{Do: api.DoCut, At: 2})
	wantOps(t, log, want...)
	if e := f.(api.Syncer).Sync(); e != api.OK {
		t.Error(e)
	}
	want = append(want, api.Op{Do: api.DoSync})
	wantOps(t, log, want...)
}

// Each op, with all fields set, by Do and by Must: written down is what its call is handed, all else zero.
func TestP72Fields(t *testing.T) {
	for do := int8(0); do < 6; do++ {
		for _, op := range []api.Op{{Do: do, At: 2, N: 3, B: []byte("xyz")}, {Do: do, At: -7, N: -8, B: []byte{0}}, {Do: do, At: math.MinInt64, N: math.MaxInt}, {Do: do}} {
			h, log := watch(t, newFile(t, "abc", 15))
			h.Do(op)
			wantOps(t, log, written(op))
			h.Must(op)
			wantOps(t, log, written(op), written(op))
		}
	}
}

// Ops at all bounds over all sixteen sets: what is told is what is told without, and each call is written down, whatever it answers.
func TestP72Edges(t *testing.T) {
	for can := range uint8(16) {
		s1, p := patterned('a', 7, 0b1110011)
		s2, _ := patterned('a', 7, 0b1110011)
		plain, below := fileOf(t, s1, can), fileOf(t, s2, can)
		h, log := watch(t, below)
		var want []api.Op
		for _, op := range edges() {
			told := plain.Do(op)
			wantTold(t, h, op, told)
			if want := p.do(can, op); !sameTold(told, want) {
				t.Errorf("without a log %v is told, want %v", told, want)
			}
			p.wantState(t, s2)
			if cannot(can, op) == api.OK {
				want = append(want, written(op))
			}
			if t.Failed() {
				t.Fatalf("set %d, Do %d at %d, %d, of %d bytes", can, op.Do, op.At, op.N, len(op.B))
			}
		}
		wantOps(t, log, want...)
	}
}

// Calls come to the file below once, as they are, those too that the file's rules refuse; what it tells goes back as it is.
func TestP72GoesThrough(t *testing.T) {
	for _, e := range append(errnos(), api.OK) {
		r := newRefuser(t, "abc")
		var got []api.Op
		r.note = func(op api.Op) { got = append(got, op) }
		r.refuseAll(e)
		r.data = []byte("beside")
		h, log := watch(t, r.handle(15))
		var want []api.Op
		for _, op := range edges() {
			if op.Do < 0 || op.Do > 5 {
				continue
			}
			got = nil
			told := h.Do(op)
			if !slices.EqualFunc(got, []api.Op{written(op)}, sameOp) {
				t.Fatalf("Do %d at %d, %d, of %d bytes: below was asked %.99v", op.Do, op.At, op.N, len(op.B), got)
			}
			if e != api.OK && op.Do != api.DoSize && op.Do != api.DoNext {
				data := []byte(nil)
				if op.Do == api.DoRead {
					data = r.data
				}
				if !sameTold(told, api.Told{E: e, Data: data}) {
					t.Errorf("Do %d tells %v, want %v", op.Do, told, e)
				}
			}
			want = append(want, written(op))
		}
		wantOps(t, log, want...)
	}
}

// What is no call of a method of the file is not written down, nor an op that the file can't do.
func TestP72NoCall(t *testing.T) {
	for can := range uint8(16) {
		r := newRefuser(t, "abc")
		r.note = func(op api.Op) { t.Errorf("set %d: Do %d came below", can, op.Do) }
		h, log := watch(t, r.handle(can))
		h.Can()
		f := h.File()
		_, _ = f.(api.Writer)
		_, _ = f.(api.Cutter)
		_, _ = f.(api.Holer)
		_, _ = f.(api.Syncer)
		h.Only(255).Can()
		face.Make(f, nil, nil, nil, nil).Can()
		other, otherLog := watch(t, h)
		other.Can()
		newTee(t, h, other).Can()
		for _, op := range []api.Op{{Do: -1}, {Do: 6}, {Do: 127, B: []byte("x")}, {Do: -128}} {
			wantTold(t, h, op, api.Told{E: api.ErrArg})
			h.Must(op)
		}
		for do := int8(2); do < 6; do++ {
			op := api.Op{Do: do, At: 1, N: 1, B: []byte("x")}
			wantTold(t, h.Only(0), op, api.Told{E: api.ErrCan})
			if cannot(can, op) == api.OK {
				continue
			}
			wantTold(t, h, op, api.Told{E: api.ErrCan})
			if _, fell := h.Must(op); !fell {
				t.Errorf("set %d: Must of %d does not fall", can, do)
			}
		}
		wantOps(t, log)
		wantOps(t, otherLog)
	}
}

// A call is written down ahead of being done: the file below finds it in the log, and it stays there though the file falls.
func TestP72AheadOfBeingDone(t *testing.T) {
	r := newRefuser(t, "abc")
	h, log := watch(t, r.handle(15))
	var want []api.Op
	r.note = func(api.Op) { wantOps(t, log, want...) }
	for do := int8(0); do < 6; do++ {
		op := api.Op{Do: do, At: 1, N: 1, B: []byte("x")}
		want = append(want, written(op))
		h.Do(op)
	}
	r.note = func(api.Op) { panic("the part falls") }
	for do := int8(0); do < 6; do++ {
		op := api.Op{Do: do, At: 2, N: 2, B: []byte("y")}
		want = append(want, written(op))
		func() {
			defer func() {
				if recover() == nil {
					t.Errorf("the panic of Do %d did not come through", do)
				}
			}()
			h.Do(op)
		}()
	}
	wantOps(t, log, want...)
}

// Two logs of one file are apart, what is done beside a log is not in it, and what is done through a narrowed handle is.
func TestP72LogsApart(t *testing.T) {
	f := newFile(t, "abc", 15)
	h, log := watch(t, f)
	g, other := watch(t, f)
	if h == g || h == f || log == other || h.File() == g.File() || h.File() == f.File() {
		t.Error("two handles, or two logs, are the same")
	}
	wantWrite(t, f, 0, "F", api.OK)
	wantWrite(t, h, 1, "H", api.OK)
	wantWrite(t, g, 2, "G", api.OK)
	wantWrite(t, h.Only(api.CanWrite), 3, "h", api.OK)
	wantAll(t, "FHGh", f)
	wantOps(t, log, api.Op{Do: api.DoWrite, At: 1, B: []byte("H")}, api.Op{Do: api.DoWrite, At: 3, B: []byte("h")})
	wantOps(t, other, api.Op{Do: api.DoWrite, At: 2, B: []byte("G")})
}

func TestP73NilLog(t *testing.T) {
	var none *tee.Log
	if l := none.Ops(); len(l) != 0 {
		t.Errorf("a nil log has %v", l)
	}
	if l := new(tee.Log).Ops(); len(l) != 0 {
		t.Errorf("an empty log has %v", l)
	}
}

// Of more than MaxOps the last MaxOps are told, the earliest first; they stay written down.
func TestP73Many(t *testing.T) {
	at := func(i int) api.Op { return api.Op{Do: api.DoNext, At: int64(i)} }
	h, log := watch(t, newFile(t, "abc", 15))
	done := 0
	for _, n := range []int{0, 1, 2, 4094, 4095, 4096, 4097, 4098, 5000, 8191, 8192, 8193, 12288, 20000} {
		for ; done < n; done++ {
			h.Do(at(done))
		}
		var want []api.Op
		for i := max(0, n-api.MaxOps); i < n; i++ {
			want = append(want, at(i))
		}
		wantOps(t, log, want...)
		wantOps(t, log, want...)
		if t.Failed() {
			t.Fatalf("behind %d calls", n)
		}
	}
}

// Behind each single call past MaxOps the oldest one is forgotten, of all kinds, with its bytes.
func TestP73OldestIsForgotten(t *testing.T) {
	h, log := watch(t, newFile(t, "", 15))
	c := chance(73)
	var want []api.Op
	for i := range api.MaxOps + 40 {
		op := c.op()
		op.Do = int8(c.below(6))
		op.B = fmt.Append(nil, "op ", i)
		h.Do(op)
		if want = append(want, written(op)); len(want) > api.MaxOps {
			want = want[1:]
		}
		if i%512 == 0 || i > api.MaxOps-3 {
			wantOps(t, log, want...)
		}
	}
}

// Bytes that were written, and are changed by the caller behind that, stay in the log as they were.
func TestP73BytesStay(t *testing.T) {
	h, log := watch(t, newFile(t, "", 15))
	w, ok := h.File().(api.Writer)
	if !ok {
		t.Fatal("it can't be written")
	}
	room := []byte("abcdef")
	var want []api.Op
	for i := range 6 {
		if w.WriteAt(0, room[:i]) != api.OK {
			t.Fatal("a write failed")
		}
		want = append(want, api.Op{Do: api.DoWrite, B: bytes.Clone(room[:i])})
		room[0]++
	}
	if string(room[1:]) != "bcdef" {
		t.Errorf("the caller's bytes are %q", room)
	}
	clear(room)
	wantOps(t, log, want...)
	big := bytes.Repeat([]byte("x"), api.MaxText+1) // refused, and written down whole
	if w.WriteAt(0, big) != api.ErrLong {
		t.Error("a write was taken")
	}
	want = append(want, api.Op{Do: api.DoWrite, B: bytes.Clone(big)})
	clear(big)
	wantOps(t, log, want...)
}

// A file below that spoils the bytes that it gets does not spoil the log's.
func TestP73BytesOfTheFile(t *testing.T) {
	g := &greedy{*newRefuser(t, "abc")}
	h, log := watch(t, face.Make(g, g, g, g, g))
	wantWrite(t, h, 1, "xyz", api.OK)
	wantOps(t, log, api.Op{Do: api.DoWrite, At: 1, B: []byte("xyz")})
}

// What Ops hands out is new memory, with the room behind it, at each call; no two lists of it share any; the log keeps what it has and goes on.
func TestP73NewMemory(t *testing.T) {
	for _, n := range []int{5, api.MaxOps, api.MaxOps + 7} {
		h, log := watch(t, newFile(t, "", 15))
		var want []api.Op
		for i := range n {
			op := api.Op{Do: api.DoWrite, At: int64(i % 9), B: []byte("wxyz")[:i%5]}
			h.Do(op)
			want = append(want, op)
		}
		want = want[max(0, n-api.MaxOps):]
		one, two := log.Ops(), log.Ops()
		for i := range one {
			b := one[i].B[:cap(one[i].B)]
			for k := range b {
				b[k] = '#'
			}
			for k := range one {
				if k > i && k < i+6 && bytes.ContainsRune(one[k].B, '#') {
					t.Fatalf("the bytes of the ops %d and %d share memory", i, k)
				}
			}
			one[i] = api.Op{Do: 99, At: 99, N: 99}
		}
		room := one[:cap(one)]
		clear(room[len(one):])
		if !slices.EqualFunc(two, want, sameOp) {
			t.Error("two answers share memory")
		}
		wantOps(t, log, want...)
		_ = append(two[:2], api.Op{Do: 98})
		h.Do(api.Op{Do: api.DoSync})
		want = append(want, api.Op{Do: api.DoSync})
		wantOps(t, log, want[max(0, len(want)-api.MaxOps):]...)
		if len(two) > api.MaxOps || sameOp(two[len(two)-1], api.Op{Do: api.DoSync}) {
			t.Error("an answer shows what came behind it")
		}
	}
}

// A log over a log: both have all that is done through the upper one, the lower one what is done through it besides.
func TestLogOverLog(t *testing.T) {
	f := newFile(t, "abc", 15)
	low, lower := watch(t, f)
	high, upper := watch(t, low)
	c := chance(9)
	var all, some []api.Op
	for range 2000 {
		op := c.op()
		h := high
		if c.below(3) == 0 {
			h = low
		}
		h.Do(op)
		if cannot(15, op) == api.OK {
			if all = append(all, written(op)); h == high {
				some = append(some, written(op))
			}
		}
	}
	wantOps(t, lower, all...)
	wantOps(t, upper, some...)
	for i := range api.MaxOps + 1 {
		high.Do(api.Op{Do: api.DoRead, At: int64(i)})
	}
	if !slices.EqualFunc(lower.Ops(), upper.Ops(), sameOp) {
		t.Error("the logs are unlike")
	}
}

// A log over a tee has what is asked of the tee, what its rules refuse too; logs below it have what came to each file.
func TestLogsOverAndBelowTee(t *testing.T) {
	for a := range uint8(16) {
		for b := range uint8(16) {
			s, p := patterned('a', 5, 0b11011)
			r, q := patterned('p', 7, 0b0110111)
			first, one := watch(t, fileOf(t, s, a))
			mirror, two := watch(t, fileOf(t, r, b))
			h, top := watch(t, newTee(t, first, mirror))
			can := over(t, a, b)
			wantOps(t, one)
			wantOps(t, two)
			wantCan(t, h.Only(0), 0)
			want, below, beside := top.Ops(), one.Ops(), []api.Op(nil)
			for _, op := range append(edges(), changes()...) {
				wantTold(t, h, op, couple{p, q, can}.do(op))
				if cannot(can, op) != api.OK {
					continue
				}
				want = append(want, written(op))
				if refuses(op) == api.OK {
					if below = append(below, written(op)); op.Do == api.DoWrite || op.Do == api.DoCut || op.Do == api.DoSync {
						beside = append(beside, written(op))
					}
				}
			}
			wantOps(t, top, want...)
			wantOps(t, one, below...)
			wantOps(t, two, beside...)
			if t.Failed() {
				t.Fatalf("sets %d and %d", a, b)
			}
		}
	}
}

// Where the mirror refuses, the log of the first file has nothing; where the first file refuses, both logs have the call.
func TestTeeOverLogsRefused(t *testing.T) {
	for _, op := range changes() {
		a, b := newRefuser(t, "abc"), newRefuser(t, "abc")
		first, one := watch(t, a.handle(15))
		mirror, two := watch(t, b.handle(15))
		h := newTee(t, first, mirror)
		b.no[op.Do] = api.ErrQuota
		wantTold(t, h, op, api.Told{E: api.ErrQuota})
		wantOps(t, one)
		wantOps(t, two, written(op))
		a.no[op.Do], b.no[op.Do] = api.ErrSum, api.OK
		wantTold(t, h, op, api.Told{E: api.ErrSum})
		wantOps(t, one, written(op))
		wantOps(t, two, written(op), written(op))
	}
}

// sameBytes holds two files of memory against each other, their holes too.
func sameBytes(t *testing.T, a, b *span.Bytes) {
	t.Helper()
	if a.Size() != b.Size() || a.Held() != b.Held() || !bytes.Equal(a.Get(0, 99), b.Get(0, 99)) {
		t.Errorf("the files are %q and %q", a.Get(0, 99), b.Get(0, 99))
	}
	for at := range a.Size() {
		f1, t1 := a.Next(at)
		if f2, t2 := b.Next(at); f1 != f2 || t1 != t2 {
			t.Errorf("Next(%d) tells %d %d, and %d %d", at, f1, t1, f2, t2)
		}
	}
}

// What is told through Watched is what is told without; its ops, done to a file that is like the first one was, make it like that is, and tell the same.
func TestP75DoneAgain(t *testing.T) {
	c := chance(75)
	for can := range uint8(16) {
		for range 25 {
			size, bits := int64(c.below(8)), c.below(256)
			s, _ := patterned('a', size, bits)
			plain, _ := patterned('a', size, bits)
			again, _ := patterned('a', size, bits)
			h, log := watch(t, fileOf(t, s, can))
			without, third := fileOf(t, plain, can), fileOf(t, again, can)
			var told []api.Told
			for range 120 {
				op := c.op()
				x := without.Do(op)
				wantTold(t, h, op, x)
				if cannot(can, op) == api.OK {
					told = append(told, x)
				}
			}
			sameBytes(t, s, plain)
			for i, op := range log.Ops() {
				wantTold(t, third, op, told[i])
			}
			sameBytes(t, s, again)
			if t.Failed() {
				t.Fatalf("set %d, size %d, bits %b", can, size, bits)
			}
		}
	}
}

// The same of a log over a tee: done again to another tee, they make both files alike.
func TestP75DoneAgainToTees(t *testing.T) {
	c := chance(57)
	for range 60 {
		sizes, bits := [2]int64{int64(c.below(8)), int64(c.below(8))}, [2]int{c.below(256), c.below(256)}
		cans := [2]uint8{uint8(c.below(16)), uint8(c.below(16))}
		x, y := newShelf(t, sizes, bits, cans), newShelf(t, sizes, bits, cans)
		h, log := watch(t, x.tee)
		for range 150 {
			op := c.op()
			wantTold(t, h, op, x.both.do(op))
			x.wantState(t)
		}
		for _, op := range log.Ops() {
			wantTold(t, y.tee, op, y.both.do(op))
		}
		sameBytes(t, x.spans[0], y.spans[0])
		sameBytes(t, x.spans[1], y.spans[1])
		if t.Failed() {
			t.Fatalf("sizes %v, bits %b, sets %v", sizes, bits, cans)
		}
	}
}

// Of more than MaxOps: the last ones, done to a file that is like the first one was ahead of them, make it like that is.
func TestP75DoneAgainPastMaxOps(t *testing.T) {
	for _, n := range []int{api.MaxOps - 1, api.MaxOps, api.MaxOps + 1, api.MaxOps + 500} {
		c := chance(n)
		s, r := span.New([]byte("abc")), span.New([]byte("abc"))
		h, log := watch(t, fileOf(t, s, 15))
		again := fileOf(t, r, 15)
		for i := range n {
			op := c.op()
			op.Do = int8(c.below(6))
			if h.Do(op); i < n-api.MaxOps {
				again.Do(op)
			}
		}
		for _, op := range log.Ops() {
			again.Do(op)
		}
		sameBytes(t, s, r)
	}
}
