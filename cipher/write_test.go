package cipher_test

import (
	"math"
	"testing"

	"mantle/api"
	"mantle/span"
)

// Writes of up to 20 bytes at all places of small files, within, across the end, at it and behind it: what is asked below is ONE WriteAt, and what stands there is the bytes turned, noughts in the gap.
func TestP124EachWrite(t *testing.T) {
	for _, key := range []uint64{0, 5, 1 << 63, math.MaxUint64} {
		for _, size := range []int{0, 1, 7, 8, 9, 16, 21} {
			for at := range 30 {
				for _, n := range []int{1, 2, 7, 8, 9, 20} {
					text := turnedOf(key, 0, []byte(letters(size)))
					s, b := span.New(text), []byte(letters(60)[60-n:])
					r, h := watched(t, s, key)
					wantTold(t, h, api.Op{Do: api.DoWrite, At: int64(at), B: b}, api.Told{})
					from := min(at, size)
					r.wantCalls(t, wrote(int64(from), turnedOf(key, int64(from), append(make([]byte, at-from), b...))))
					p := paperOf([]byte(letters(size)))
					p.write(int64(at), b)
					wantAll(t, h, string(p.data))
					paperOf(turnedOf(key, 0, p.data)).wantState(t, s) // all written: a gap is no hole
					if t.Failed() {
						t.Fatalf("key %x, of %d bytes, at %d, %d", key, size, at, n)
					}
				}
			}
		}
	}
}

// A write of none is taken up to MaxSize, comes to nothing, and asks nothing: the file below may refuse what it likes.
func TestP124WriteOfNone(t *testing.T) {
	for _, b := range [][]byte{nil, {}, make([]byte, 9)[:0]} {
		r, h := watched(t, span.New([]byte("abc")), 2)
		r.refuseBehind(0, api.ErrGone)
		for _, at := range []int64{0, 1, 3, 4, 99, api.MaxText + 3, api.MaxText + 4, api.MaxSize - 1, api.MaxSize} {
			wantTold(t, h, api.Op{Do: api.DoWrite, At: at, B: b}, api.Told{})
		}
		wantTold(t, h, api.Op{Do: api.DoWrite, At: -1, B: b}, api.Told{E: api.ErrArg})
		wantTold(t, h, api.Op{Do: api.DoWrite, At: math.MinInt64, B: b}, api.Told{E: api.ErrArg})
		wantTold(t, h, api.Op{Do: api.DoWrite, At: api.MaxSize + 1, B: b}, api.Told{E: api.ErrLong})
		wantTold(t, h, api.Op{Do: api.DoWrite, At: math.MaxInt64, B: b}, api.Told{E: api.ErrLong})
		r.wantUnasked(t)
		wantAll(t, r.all, "abc")
	}
}

// Behind the end there may be MaxText bytes from Size up to the write's end, and not one more; nothing is written then, and the file is not asked to.
func TestP124MaxText(t *testing.T) {
	for _, size := range []int64{0, 1, 8, 13, 1000} {
		for _, n := range []int64{1, 2, 8, 9, 1000, api.MaxText - 1, api.MaxText} {
			b := []byte(letters(int(n)))
			s := span.New(turnedOf(3, 0, []byte(letters(int(size)))))
			r, h := watched(t, s, 3)
			at := size + api.MaxText - n // just MaxText
			for _, more := range []int64{1, 2, 8, 1000, api.MaxText} {
				if at+more > size {
					wantTold(t, h, api.Op{Do: api.DoWrite, At: at + more, B: b}, api.Told{E: api.ErrLong})
				}
			}
			r.wantCalls(t)
			wantAll(t, h, letters(int(size)))
			r.forget()
			wantTold(t, h, api.Op{Do: api.DoWrite, At: at, B: b}, api.Told{})
			r.wantCalls(t, wrote(size, turnedOf(3, size, append(make([]byte, at-size), b...))))
			p := paperOf([]byte(letters(int(size))))
			p.write(at, b)
			wantAll(t, h, string(p.data))
			paperOf(turnedOf(3, 0, p.data)).wantState(t, s)
			if t.Failed() {
				t.Fatalf("of %d bytes, %d more", size, n)
			}
		}
	}
}

// Up to Size all of MaxText may be written wherever it is; the gap counts only where there is one.
func TestP124MaxTextWithin(t *testing.T) {
	text := letters(2 * api.MaxText)
	b := letters(api.MaxText + 3)[3:]
	for _, at := range []int{0, 1, api.MaxText - 1, api.MaxText, 2*api.MaxText - 1, 2 * api.MaxText} {
		s := span.New(turnedOf(1, 0, []byte(text)))
		r, h := watched(t, s, 1)
		wantWrite(t, h, int64(at), b, api.OK)
		r.wantCalls(t, wrote(int64(at), turnedOf(1, int64(at), []byte(b))))
		p := paperOf([]byte(text))
		p.write(int64(at), []byte(b))
		paperOf(turnedOf(1, 0, p.data)).wantState(t, s)
	}
	r, h := watched(t, span.New([]byte(text)), 1)
	wantWrite(t, h, 2*api.MaxText+1, b, api.ErrLong)
	wantWrite(t, h, 2*api.MaxText+1, b[1:], api.OK)
	r.wantCalls(t, wrote(2*api.MaxText, turnedOf(1, 2*api.MaxText, append([]byte{0}, b[1:]...))))
}

// At MaxSize and behind it, below 0, of more than MaxText bytes: the file's rules refuse these, in their order, ahead of the chapter's ErrLong and of all below, and nothing is asked.
func TestP124OwnErrorsFirst(t *testing.T) {
	for _, size := range []int64{3, api.MaxSize} {
		s := span.New([]byte("abc"))
		s.Cut(size)
		r, h := watched(t, s, 1)
		r.refuseBehind(0, api.ErrGone)
		n := 0
		for _, op := range edges() {
			if e := refuses(op); e != api.OK {
				wantTold(t, h, op, api.Told{E: e})
				n++
			}
		}
		if n < 150 {
			t.Errorf("only %d ops are refused", n)
		}
		long := letters(api.MaxText + 1)
		for _, at := range []int64{-1, -api.MaxSize, math.MinInt64} {
			wantWrite(t, h, at, "x", api.ErrArg)
			wantWrite(t, h, at, long, api.ErrArg)
			wantCut(t, h, at, api.ErrArg)
		}
		for _, at := range []int64{0, 3, api.MaxSize, math.MaxInt64} {
			wantWrite(t, h, at, long, api.ErrLong)
		}
		for _, at := range []int64{api.MaxSize, api.MaxSize + 1, math.MaxInt64 - 1, math.MaxInt64} {
			wantWrite(t, h, at, "x", api.ErrLong)
		}
		wantWrite(t, h, api.MaxSize-1, "xy", api.ErrLong)
		wantWrite(t, h, api.MaxSize-api.MaxText+1, long[1:], api.ErrLong)
		for _, to := range []int64{api.MaxSize + 1, math.MaxInt64} {
			wantCut(t, h, to, api.ErrLong)
		}
		r.wantUnasked(t)
		if s.Size() != size || s.Held() != 3 || string(s.Get(0, 3)) != "abc" {
			t.Errorf("the file has %d bytes, %d of them written", s.Size(), s.Held())
		}
	}
}

// Up to MaxSize all is taken: within, at the end, and behind it.
func TestP124MaxSize(t *testing.T) {
	for _, x := range []struct {
		size, at int64
		b        string
	}{{api.MaxSize, api.MaxSize - 3, "xyz"}, {api.MaxSize - 3, api.MaxSize - 3, "xyz"}, {api.MaxSize - 9, api.MaxSize - 3, "xyz"}, {api.MaxSize - 2, api.MaxSize - 3, "xyz"},
		{api.MaxSize - api.MaxText, api.MaxSize - 1, "z"}, {api.MaxSize - api.MaxText, api.MaxSize - api.MaxText, letters(api.MaxText)}} {
		s := span.New(nil)
		s.Cut(x.size)
		r, h := watched(t, s, 1)
		wantWrite(t, h, x.at, x.b, api.OK)
		from := min(x.at, x.size)
		r.wantCalls(t, wrote(from, turnedOf(1, from, append(make([]byte, x.at-from), x.b...))))
		wantSize(t, h, api.MaxSize)
		wantRead(t, h, x.at, api.MaxText, x.b)
		if held := api.MaxSize - from; s.Held() != held {
			t.Errorf("%d bytes are written below, want %d", s.Held(), held)
		}
	}
	s := span.New(nil)
	s.Cut(api.MaxSize - api.MaxText - 1)
	_, h := watched(t, s, 1)
	wantWrite(t, h, api.MaxSize-1, "z", api.ErrLong)
	wantCut(t, h, api.MaxSize, api.ErrLong)
	wantCut(t, h, api.MaxSize-1, api.OK)
	wantCut(t, h, api.MaxSize, api.OK)
	wantRead(t, h, api.MaxSize-3, 9, "\x00\x00\x00")
}

// A refused write, of whatever kind, is answered by the file's error, and all is as it was; the next one is taken as if it had not been.
func TestP124WriteRefused(t *testing.T) {
	ops := map[string]api.Op{
		"within":            {Do: api.DoWrite, At: 3, B: []byte("xy")},
		"across the end":    {Do: api.DoWrite, At: 18, B: []byte("uvwxyz")},
		"just at the end":   {Do: api.DoWrite, At: 20, B: []byte("xy")},
		"behind the end":    {Do: api.DoWrite, At: 21, B: []byte("xy")},
		"far behind":        {Do: api.DoWrite, At: 99, B: []byte("xy")},
		"shorter":           {Do: api.DoCut, At: 3},
		"to none":           {Do: api.DoCut},
		"to just Size":      {Do: api.DoCut, At: 20},
		"longer":            {Do: api.DoCut, At: 21},
		"longer by MaxText": {Do: api.DoCut, At: 20 + api.MaxText},
		"a sync":            {Do: api.DoSync},
	}
	text := turnedOf(6, 0, []byte(letters(20)))
	for name, op := range ops {
		for _, e := range errnos() {
			s := span.New(text)
			r, h := watched(t, s, 6)
			k := &book{below: paperOf(text), can: 15, key: 6}
			r.refuseBehind(0, e)
			k.diary.refuseBehind(0, e)
			for range 2 {
				wantTold(t, h, op, api.Told{E: e})
				if told := k.do(op); told.E != e {
					t.Errorf("on paper %v is told", told.E)
				}
			}
			if len(k.diary.calls) != 2 || r.sizes > 2 {
				t.Errorf("%d calls on paper, Size was asked %d times", len(k.diary.calls), r.sizes)
			}
			r.wantCalls(t, k.diary.calls...)
			paperOf(text).wantState(t, s)
			wantAll(t, h, letters(20))
			k.diary.forget()
			wantTold(t, h, op, k.do(op))
			if k.below.wantState(t, s); t.Failed() {
				t.Fatal(name, e)
			}
		}
	}
}

// Of many calls the first, a middle or the last one is refused, and all behind it: what was taken stands below, and nothing of the others.
func TestP124RefusedInTheMidst(t *testing.T) {
	ops := []api.Op{
		{Do: api.DoWrite, At: 2, B: []byte("abc")}, {Do: api.DoWrite, At: 30, B: []byte("def")}, {Do: api.DoSync}, {Do: api.DoCut, At: 40},
		{Do: api.DoWrite, At: 39, B: []byte("gh")}, {Do: api.DoCut, At: 17}, {Do: api.DoCut, At: 17}, {Do: api.DoWrite, At: 0, B: []byte("i")}, {Do: api.DoSync}, {Do: api.DoCut},
	}
	for skip := range len(ops) + 1 {
		for _, e := range errnos() {
			s, p := patterned(20, 0b1011)
			r, h := watched(t, s, 1<<63+9)
			k := &book{below: p, can: 15, key: 1<<63 + 9}
			r.refuseBehind(skip, e)
			k.diary.refuseBehind(skip, e)
			for i, op := range ops {
				told := k.do(op)
				wantTold(t, h, op, told)
				if (told.E == e) != (i >= skip) {
					t.Errorf("the call %d tells %v", i, told.E)
				}
				p.wantState(t, s)
			}
			r.wantCalls(t, k.diary.calls...)
			wantAll(t, h, string(turnedOf(k.key, 0, p.data)))
		}
	}
}

// The file's Size is asked anew at each write and cut: what lies between is reckoned from where it ends now.
func TestP124SizeIsAsked(t *testing.T) {
	s := span.New(nil)
	r, h := watched(t, s, 12)
	for _, size := range []int64{10, 0, 25, 3} {
		s.Cut(size)
		wantWrite(t, h, 12, "x", api.OK)
		from := min(size, 12)
		r.wantCalls(t, wrote(from, turnedOf(12, from, append(make([]byte, 12-from), 'x'))))
		s.Cut(size)
		wantCut(t, h, 14, api.OK)
		if size >= 14 {
			r.wantCalls(t, wasCut(14))
		} else {
			r.wantCalls(t, wrote(size, turnedOf(12, size, make([]byte, 14-size))))
		}
	}
}

// A file that tells a Size that no file may have: nothing falls, and what is handed on is reckoned as if it ended at 0, or far behind.
func TestP124OddSizes(t *testing.T) {
	for _, x := range []struct{ size, end int64 }{{math.MinInt64, 0}, {math.MinInt64 + api.MaxText, 0}, {-api.MaxText, 0}, {-1, 0}, {api.MaxSize + 1, api.MaxSize + 1}, {math.MaxInt64, math.MaxInt64}} {
		var d diary
		h := newCipher(t, (&odd{
			size:  func() int64 { return x.size },
			write: func(at int64, b []byte) api.Errno { return d.note(api.Op{Do: api.DoWrite, At: at, B: b}) },
			cut:   func(to int64) api.Errno { return d.note(api.Op{Do: api.DoCut, At: to}) },
		}).handle(), 5)
		for _, at := range []int64{0, 1, 9, api.MaxText - 2, api.MaxText - 1, api.MaxSize - 2} {
			from := min(at, x.end)
			if at+2-from > api.MaxText {
				wantWrite(t, h, at, "xy", api.ErrLong)
				d.wantCalls(t)
			} else {
				wantWrite(t, h, at, "xy", api.OK)
				d.wantCalls(t, wrote(from, turnedOf(5, from, append(make([]byte, at-from), "xy"...))))
			}
		}
		for _, to := range []int64{0, 1, 9, api.MaxText, api.MaxText + 1, api.MaxSize} {
			switch {
			case to <= x.end:
				wantCut(t, h, to, api.OK)
				d.wantCalls(t, wasCut(to))
			case to > api.MaxText:
				wantCut(t, h, to, api.ErrLong)
				d.wantCalls(t)
			default:
				wantCut(t, h, to, api.OK)
				d.wantCalls(t, wrote(0, streamOf(5, 0, int(to))))
			}
		}
	}
}
