package journal_test

import (
	"testing"

	"mantle/api"
	"mantle/face"
	"mantle/span"
)

// Any mixture of ops is told as by data alone, as far as both can it; behind a Sync data reads so, too, and the log's Size is 0.
func TestP136Plain(t *testing.T) {
	c, l := chance(136), edges()
	for range 400 {
		a, b := uint8(c.below(16)), uint8(c.below(16))
		if c.below(4) > 0 {
			a, b = a|api.CanWrite, b|api.CanWrite|api.CanCut
		}
		below, logs := patterned(int64(c.below(40)), uint16(c.below(1<<16))), span.New(nil)
		alone := fileOf(t, below.Twin(), 15)
		h := newJournal(t, fileOf(t, below, a), fileOf(t, logs, b))
		for range 60 {
			op := c.op()
			if c.below(20) == 0 {
				op = l[c.below(len(l))]
			}
			want := api.Told{E: cannot(keeps(a, b), op)}
			if want.E == api.OK {
				want = alone.Do(op)
			}
			wantTold(t, h, op, want)
			wantTold(t, h, api.Op{}, alone.Do(api.Op{}))
			read := api.Op{Do: api.DoRead, At: int64(c.below(30)), N: 60}
			wantTold(t, h, read, alone.Do(read))
			if op.Do == api.DoSync && want.E == api.OK {
				wantSettled(t, below, logs, alone)
			}
			if t.Failed() {
				t.Fatalf("sets %d and %d: Do %d at %d, %d, of %d bytes", a, b, op.Do, op.At, op.N, len(op.B))
			}
		}
	}
}

// wantSettled holds that data reads as the other file does, and the log is empty.
func wantSettled(t *testing.T, below, logs *span.Bytes, alone *face.Handle) {
	t.Helper()
	d := fileOf(t, below, 0)
	if wantSize(t, d, alone.Do(api.Op{}).N); logs.Size() != 0 {
		t.Errorf("the log has %d bytes", logs.Size())
	}
	for _, at := range []int64{0, api.MaxText, 2 * api.MaxText, api.MaxData - 50, api.MaxSize - api.MaxText} {
		op := api.Op{Do: api.DoRead, At: at, N: api.MaxText}
		wantTold(t, d, op, alone.Do(op))
	}
}

// Each op at every bound, one behind the other, through a handle of each set over files of all sets: what is told, what the files are asked, and what stands there.
func TestEdges(t *testing.T) {
	for a := range uint8(16) {
		for _, b := range []uint8{15, 3, 11, 1, 14, 0} {
			for _, only := range []uint8{15, 1, 15 - a} {
				s := patterned(40, 0b10110101)
				k := bookOf(s.Twin(), span.New(nil), a, b)
				w := twoOf(t, s, span.New(nil))
				h := newJournal(t, w.data.handle(a), w.log.handle(b)).Only(only)
				for _, op := range edges() {
					want := api.Told{E: cannot(keeps(a, b)&only, op)}
					if want.E == api.OK {
						want = k.do(op)
					}
					wantTold(t, h, op, want)
					w.wantCalls(t, k.diary.calls...)
					if k.diary.forget(); t.Failed() {
						t.Fatalf("sets %d and %d: Do %d at %d, %d, of %d bytes", a, b, op.Do, op.At, op.N, len(op.B))
					}
				}
				w.wantBook(t, k)
			}
		}
	}
}

// Any ops, with calls that are refused at any place, reads that are refused, and bytes that are changed below: as on paper.
func TestBook(t *testing.T) {
	c := chance(13)
	for range 1500 {
		s := patterned(int64(c.below(30)), uint16(c.below(1<<16)))
		k := bookOf(s.Twin(), span.New(nil), uint8(c.below(16))|api.CanWrite, uint8(c.below(16))|api.CanWrite|api.CanCut)
		w := twoOf(t, s, span.New(nil))
		h := newJournal(t, w.data.handle(k.data.can), w.log.handle(k.log.can))
		for range 25 {
			if c.below(6) == 0 {
				meddle(&c, s, k.data.s)
			}
			if c.below(8) == 0 {
				skip, e := c.below(5), errnos()[c.below(9)]
				w.refuse(skip, e)
				k.diary.refuse(skip, e)
			}
			k.data.noRead = api.OK
			if c.below(8) == 0 {
				k.data.noRead = errnos()[c.below(9)]
			}
			w.data.noRead = k.data.noRead
			op := c.op()
			wantTold(t, h, op, k.do(op))
			if w.wantBook(t, k); t.Failed() {
				t.Fatalf("sets %d and %d: Do %d at %d, %d, of %d bytes", k.data.can, k.log.can, op.Do, op.At, op.N, len(op.B))
			}
		}
		w.data.noRead, k.data.noRead = api.OK, api.OK
		wantTold(t, h, api.Op{Do: api.DoRead, N: 99}, k.do(api.Op{Do: api.DoRead, N: 99}))
	}
}

// meddle changes two twins likewise: a byte, or their Size.
func meddle(c *chance, a, b *span.Bytes) {
	at, data := int64(c.below(30)), c.bytes(1)
	for _, s := range []*span.Bytes{a, b} {
		if at%3 == 0 {
			s.Cut(at)
		} else {
			s.Put(at, data)
		}
	}
}

// Through any ops, refused and not, Recover of what the journal has left in its log at any time is OK, and what it does is as on paper; behind it a new journal begins.
func TestP138Left(t *testing.T) {
	c := chance(138)
	for range 3000 {
		w, h := watched(t, letters(c.below(20)), 15, 15)
		e := errnos()[c.below(9)]
		w.refuse(c.below(40), e)
		for range c.below(12) {
			h.Do(c.op())
		}
		w.forget()
		k := bookOf(w.below.Twin(), w.logs.Twin(), 15, 15)
		done, e := k.recover()
		if e != api.OK {
			t.Fatalf("a journal has left a log of which Recover answers %v on paper", e)
		}
		d, l := w.data.handle(15), w.log.handle(15)
		wantRecover(t, d, l, done, api.OK)
		w.wantBook(t, k)
		wantRecover(t, d, l, 0, api.OK)
		w.wantCalls(t)
		h = newJournal(t, d, l)
		wantWrite(t, h, 0, "new", api.OK)
		if wantSync(t, h, api.OK); string(w.below.Get(0, 3)) != "new" || t.Failed() {
			t.FailNow()
		}
	}
}

// The log that a journal leaves at each single call of a Sync, and how much Recover does of it.
func TestP138EachCall(t *testing.T) {
	for _, records := range scripts() {
		for k := range len(stepsOf(15, 15, records)) {
			w, h := watched(t, "abcdef", 15, 15)
			plain := newFile(t, "abcdef", 15)
			for _, r := range records {
				wantTold(t, h, r, plain.Do(r))
			}
			w.forget()
			w.refuse(k, api.ErrFull)
			wantSync(t, h, api.ErrFull)
			w.forget()
			done := 0
			text := "abcdef" // until the mark is written
			if k >= 2 {
				text = string(plain.Do(api.Op{Do: api.DoRead, N: 999}).Data)
			}
			if k >= 2 && k < len(stepsOf(15, 15, records))-1 { // until the log is cut
				done = len(records)
			}
			wantRecover(t, w.data.handle(15), w.log.handle(15), done, api.OK)
			wantAll(t, w.data.all, text)
			wantAll(t, w.log.all, "")
			w.forget()
			wantRecover(t, w.data.handle(15), w.log.handle(15), 0, api.OK)
			w.wantCalls(t)
		}
	}
}
