package face_test

import (
	"bytes"
	"errors"
	"math"
	"runtime"
	"slices"
	"testing"

	"mantle/api"
	"mantle/face"
)

// wantOp holds Do and Must of op against the chapter's table.
func (l *five) wantOp(t *testing.T, h *face.Handle, can uint8, op api.Op) {
	t.Helper()
	want, calls, falls := l.wantTold(can, op)
	l.notes.take()
	if got := h.Do(op); !sameTold(got, want) {
		t.Errorf("parts %d: Do(%v) tells %v, want %v", can, op, got, want)
	}
	wantNotes(t, &l.notes, "Do", calls...)
	got, fell := h.Must(op)
	if !sameTold(got, want) || fell != falls {
		t.Errorf("parts %d: Must(%v) tells %v, %v, want %v, %v", can, op, got, fell, want, falls)
	}
	wantNotes(t, &l.notes, "Must", calls...)
}

// All sixteen sets of parts, and all numbers that an op's Do can be.
func TestP33P34AllOps(t *testing.T) {
	l := newFive()
	for can := range uint8(16) {
		h := l.make(can)
		for do := -128; do < 128; do++ {
			l.wantOp(t, h, can, api.Op{Do: int8(do), At: 7, N: 8, B: []byte{9, 10}})
			l.wantOp(t, h, can, api.Op{Do: int8(do)})
		}
	}
}

// What is handed in goes to the part as it is: refusing numbers is the part's business.
func TestP33Arguments(t *testing.T) {
	l := newFive()
	h := l.make(15)
	lists := [][]byte{nil, {}, {0}, make([]byte, 5, 50), make([]byte, api.MaxText+1)}
	for do := range int8(6) {
		for _, at := range []int64{math.MinInt64, -1, 0, 1, api.MaxSize, api.MaxSize + 1, math.MaxInt64} {
			for _, n := range []int{math.MinInt, -1, 0, 1, api.MaxText, api.MaxText + 1, math.MaxInt} {
				l.wantOp(t, h, 15, api.Op{Do: do, At: at, N: n, B: lists[0]})
			}
		}
		for _, b := range lists {
			l.wantOp(t, h, 15, api.Op{Do: do, At: 2, N: 3, B: b})
		}
	}
}

// What the parts tell is told, whatever it is; what the table does not name is zero.
func TestP33Told(t *testing.T) {
	l := newFive()
	h := l.make(15)
	for _, n := range []int64{math.MinInt64, -1, 0, 1, math.MaxInt64} {
		for _, e := range []api.Errno{api.OK, api.ErrNil, api.ErrArg, api.ErrCan, api.ErrScript, -1, math.MaxInt} {
			for _, data := range [][]byte{nil, {}, {0}, []byte("abc"), make([]byte, 1<<17)} {
				for _, p := range []*part{l.f, l.w, l.c, l.h, l.s} {
					p.size, p.from, p.to, p.e, p.data = n, -n, n+1, e, data
				}
				for do := range int8(6) {
					l.wantOp(t, h, 15, api.Op{Do: do})
				}
			}
		}
	}
}

func TestP33DataBesideAnError(t *testing.T) {
	l := newFive()
	l.f.e = api.ErrSum
	op := api.Op{Do: api.DoRead, N: 3}
	want := api.Told{E: api.ErrSum, Data: []byte{1, 2, 3}}
	wantTold(t, "Do", l.make(0).Do(op), want)
	told, fell := l.make(0).Must(op)
	if wantTold(t, "Must", told, want); fell {
		t.Error("a read that answered an error fell")
	}
}

// each does op by Do and by Must.
func each(h *face.Handle, op api.Op, f func(told api.Told)) {
	f(h.Do(op))
	told, _ := h.Must(op)
	f(told)
}

func TestP33DataIsNew(t *testing.T) {
	room := []byte("abcdefgh")
	for n := range len(room) + 1 {
		l := newFive()
		l.f.data = room[:n]
		var first []byte
		each(l.make(0), api.Op{Do: api.DoRead, N: 8}, func(told api.Told) {
			if !bytes.Equal(told.Data, room[:n]) {
				t.Fatalf("%q is told, want %q", told.Data, room[:n])
			}
			for i := range told.Data[:cap(told.Data)] {
				told.Data[:cap(told.Data)][i] = '!'
			}
			if first == nil {
				first = told.Data
			} else if n > 0 && &first[0] == &told.Data[0] {
				t.Error("two answers share memory")
			}
			_ = append(told.Data, "!!!!!!!!"...)
		})
		if string(room) != "abcdefgh" {
			t.Fatalf("writing into what was told of %d bytes changed the file's memory: %q", n, room)
		}
	}
}

// keeper keeps the lists that it is handed, and writes into them and the room behind.
type keeper struct {
	part
	kept [][]byte
	scar bool
}

func (k *keeper) WriteAt(at int64, b []byte) api.Errno {
	k.kept = append(k.kept, b)
	if k.scar {
		clear(b[:cap(b)])
		_ = append(b, "????????"...)
	}
	return api.OK
}

func TestP33BIsNew(t *testing.T) {
	for n := range 9 {
		k := &keeper{scar: true}
		room := []byte("abcdefgh")
		each(face.Make(k, k, nil, nil, nil), api.Op{Do: api.DoWrite, B: room[:n]}, func(api.Told) {})
		if len(k.kept) != 2 || string(room) != "abcdefgh" {
			t.Errorf("a part that writes into its %d bytes changed the caller's: %q", n, room)
		}
		k = &keeper{}
		each(face.Make(k, k, nil, nil, nil), api.Op{Do: api.DoWrite, B: room[:n]}, func(api.Told) {})
		clear(room)
		for _, b := range k.kept {
			if string(b) != "abcdefgh"[:n] {
				t.Errorf("a caller who writes into his bytes changed those that a part kept: %q", b)
			}
		}
	}
}

// B stays as it is, whatever is done.
func TestOpIsLeft(t *testing.T) {
	l := newFive()
	b := []byte("abcd")
	for do := -128; do < 128; do++ {
		each(l.make(15), api.Op{Do: int8(do), B: b[:2]}, func(api.Told) {})
	}
	if string(b) != "abcd" {
		t.Errorf("B is %q", b)
	}
}

// burst is a part whose every call panics; Next by an assertion of its own.
type burst struct{ err error }

func (b *burst) Size() int64                           { panic(b.err) }
func (b *burst) ReadAt(int64, int) ([]byte, api.Errno) { panic(b.err) }
func (b *burst) WriteAt(int64, []byte) api.Errno       { panic(b.err) }
func (b *burst) Cut(int64) api.Errno                   { panic(b.err) }
func (b *burst) Next(int64) (from, to int64) {
	return any(b).(interface{ Prev() (from, to int64) }).Prev()
}
func (b *burst) Sync() api.Errno { panic(b.err) }

// panicOf is what f panics with.
func panicOf(f func()) (v any) {
	defer func() { v = recover() }()
	f()
	return nil
}

// A part's own panic is not the assertion's: neither Do nor Must makes a refusal of it.
func TestP34PanicOfAPart(t *testing.T) {
	b := &burst{errors.New("a part's own")}
	for can := range uint8(16) {
		w, c, n, s := pick(can, b, b, b, b)
		h := face.Make(b, w, c, n, s)
		for do := range int8(6) {
			op := api.Op{Do: do}
			if bit, _ := needs(do); can&bit != bit {
				told, fell := h.Must(op)
				if wantTold(t, "Do of what it can't", h.Do(op), api.Told{E: api.ErrCan}); told.E != api.ErrCan || !fell {
					t.Errorf("parts %d, Do %d: Must tells %v, %v", can, do, told, fell)
				}
				continue
			}
			byDo := panicOf(func() { h.Do(op) })
			byMust := panicOf(func() { h.Must(op) })
			for _, v := range []any{byDo, byMust} {
				_, assertion := v.(*runtime.TypeAssertionError)
				if do == api.DoNext && !assertion || do != api.DoNext && v != any(b.err) {
					t.Errorf("parts %d, Do %d: the part's panic came through as %v", can, do, v)
				}
			}
		}
	}
}

// Nothing is called where an op is refused, or a handle asked what it can: these parts would burst.
func TestP36NothingIsCalled(t *testing.T) {
	b := &burst{errors.New("called")}
	for can := range uint8(16) {
		w, c, n, s := pick(can, b, b, b, b)
		h := face.Make(b, w, c, n, s)
		if h.Can() != can || h.File() == nil || h.Only(can).Can() != can {
			t.Errorf("parts %d: Can tells %d", can, h.Can())
		}
		for do := -128; do < 128; do++ {
			op := api.Op{Do: int8(do)}
			bit, known := needs(op.Do)
			if known && can&bit == bit {
				continue
			}
			want := api.Told{E: api.ErrCan}
			if !known {
				want.E = api.ErrArg
			}
			wantTold(t, "Do", h.Do(op), want)
			told, fell := h.Must(op)
			if wantTold(t, "Must", told, want); fell != known {
				t.Errorf("parts %d, Do %d: fell is %v", can, do, fell)
			}
		}
	}
}

// Two handles over the same parts: what is written through one is read through the other.
func TestSharedParts(t *testing.T) {
	f := &plain{[]byte("abc")}
	one, two := face.Make(f, f, nil, nil, nil), face.Make(f, nil, f, nil, nil)
	one.Do(api.Op{Do: api.DoWrite, At: 1, B: []byte("x")})
	two.Must(api.Op{Do: api.DoCut, At: 2})
	for _, h := range []*face.Handle{one, two} {
		each(h, api.Op{Do: api.DoRead, N: 9}, func(told api.Told) {
			if !slices.Equal(told.Data, []byte("ax")) {
				t.Errorf("%q is read", told.Data)
			}
		})
		each(h, api.Op{}, func(told api.Told) { wantTold(t, "Size", told, api.Told{N: 2}) })
	}
}
