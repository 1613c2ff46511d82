package journal_test

import (
	"bytes"
	"math"
	"reflect"
	"slices"
	"testing"

	"mantle/api"
	"mantle/caps"
	"mantle/face"
	"mantle/journal"
	"mantle/memory"
	"mantle/span"
	"mantle/window"
)

func newFile(t *testing.T, b string, can uint8) *face.Handle {
	t.Helper()
	return fileOf(t, span.New([]byte(b)), can)
}

func fileOf(t *testing.T, s *span.Bytes, can uint8) *face.Handle {
	t.Helper()
	h, e := memory.Of(s, can)
	if e != api.OK {
		t.Fatalf("a file of memory that can %d: %v", can, e)
	}
	return h
}

func newJournal(t *testing.T, data, log *face.Handle) *face.Handle {
	t.Helper()
	h, e := journal.New(data, log)
	if e != api.OK || h == nil {
		t.Fatalf("New answers %v, %v", h, e)
	}
	return h
}

func sameTold(a, b api.Told) bool {
	return a.E == b.E && a.N == b.N && a.M == b.M && bytes.Equal(a.Data, b.Data)
}

func wantTold(t *testing.T, h *face.Handle, op api.Op, want api.Told) {
	t.Helper()
	if got := h.Do(op); !sameTold(got, want) {
		t.Errorf("Do %d at %d, %d, of %d bytes tells %v %d %d %.80q, want %v %d %d %.80q", op.Do, op.At, op.N, len(op.B), got.E, got.N, got.M, got.Data, want.E, want.N, want.M, want.Data)
	}
}

func wantSize(t *testing.T, h *face.Handle, want int64) {
	t.Helper()
	wantTold(t, h, api.Op{Do: api.DoSize}, api.Told{N: want})
}

func wantRead(t *testing.T, h *face.Handle, at int64, n int, want string) {
	t.Helper()
	wantTold(t, h, api.Op{Do: api.DoRead, At: at, N: n}, api.Told{Data: []byte(want)})
}

func wantNoRead(t *testing.T, h *face.Handle, at int64, n int, want api.Errno) {
	t.Helper()
	wantTold(t, h, api.Op{Do: api.DoRead, At: at, N: n}, api.Told{E: want})
}

func wantWrite(t *testing.T, h *face.Handle, at int64, b string, want api.Errno) {
	t.Helper()
	wantTold(t, h, api.Op{Do: api.DoWrite, At: at, B: []byte(b)}, api.Told{E: want})
}

func wantCut(t *testing.T, h *face.Handle, to int64, want api.Errno) {
	t.Helper()
	wantTold(t, h, api.Op{Do: api.DoCut, At: to}, api.Told{E: want})
}

func wantSync(t *testing.T, h *face.Handle, want api.Errno) {
	t.Helper()
	wantTold(t, h, api.Op{Do: api.DoSync}, api.Told{E: want})
}

// wantAll holds all bytes of a file, and its Size.
func wantAll(t *testing.T, h *face.Handle, want string) {
	t.Helper()
	for at := 0; at == 0 || at < len(want); at += api.MaxText {
		wantRead(t, h, int64(at), api.MaxText, want[at:min(at+api.MaxText, len(want))])
	}
	wantSize(t, h, int64(len(want)))
}

func wantRecover(t *testing.T, data, log *face.Handle, done int, e api.Errno) {
	t.Helper()
	if n, got := journal.Recover(data, log); n != done || got != e {
		t.Errorf("Recover answers %d, %v, want %d, %v", n, got, done, e)
	}
}

func TestExamples(t *testing.T) {
	d, l := newFile(t, "abcdef", 15), newFile(t, "", 15)
	h := newJournal(t, d, l)
	wantWrite(t, h, 1, "xy", api.OK)
	wantCut(t, h, 4, api.OK)
	wantRead(t, h, 0, 9, "axyd")
	wantAll(t, d, "abcdef")
	wantSize(t, l, 44)
	wantSync(t, h, api.OK)
	wantAll(t, d, "axyd")
	wantAll(t, h, "axyd")
	wantSize(t, l, 0)
	if h, e := journal.New(d, newFile(t, "x", 15)); h != nil || e != api.ErrLog {
		t.Errorf("New over a log of one byte answers %v, %v", h, e)
	}
	for _, x := range []struct {
		log, data, left string
		done            int
		e               api.Errno
	}{
		{markOf(0), "abcdef", "", 0, api.OK},
		{markOf(13) + cutOf(2), "ab", "", 1, api.OK},
		{markOf(13)[:15] + "\x00" + cutOf(2), "abcdef", "", 0, api.OK},
		{markOf(13)[:15], "abcdef", "", 0, api.OK},
		{markOf(14) + cutOf(2) + "\x00", "abcdef", markOf(14) + cutOf(2) + "\x00", 0, api.ErrLog},
	} {
		d, l := newFile(t, "abcdef", 15), newFile(t, x.log, 15)
		wantRecover(t, d, l, x.done, x.e)
		wantAll(t, d, x.data)
		wantAll(t, l, x.left)
	}
}

// A file that there is not, on either side and on both: no handle, one of no parts, one that New refused.
func TestP131P135Nil(t *testing.T) {
	refused, _ := journal.New(nil, nil)
	for _, none := range []*face.Handle{nil, {}, refused} {
		for _, b := range []string{"", "x", markOf(13) + cutOf(2), markOf(14)} {
			there := &refuser{diary: &diary{}, all: newFile(t, b, 15)}
			for _, x := range [][2]*face.Handle{{none, there.handle(15)}, {there.handle(15), none}, {none, none}, {none, nil}, {nil, none}} {
				if h, e := journal.New(x[0], x[1]); h != nil || e != api.ErrNil {
					t.Errorf("New answers %v, %v", h, e)
				}
				wantRecover(t, x[0], x[1], 0, api.ErrNil)
			}
			if there.diary.wantCalls(t); there.asked > 0 {
				t.Error("the other file is asked")
			}
			wantAll(t, there.all, b)
		}
	}
	for do := int8(-1); do < 7; do++ {
		wantTold(t, refused, api.Op{Do: do, N: 1}, api.Told{E: api.ErrNil})
		if told, fell := refused.Must(api.Op{Do: do}); told.E != api.ErrNil || fell {
			t.Errorf("Must of %d tells %v, %v", do, told, fell)
		}
	}
}

// A log that has bytes, or tells any Size but 0, is refused, whatever it can; what data has makes no difference.
func TestP131Log(t *testing.T) {
	for can := range uint8(16) {
		for _, size := range []int64{1, 2, 15, 16, 17, 44, api.MaxText + 1, api.MaxSize} {
			s := span.New(nil)
			s.Cut(size)
			w := twoOf(t, span.New([]byte("abc")), s)
			if h, e := journal.New(w.data.handle(15-can), w.log.handle(can)); h != nil || e != api.ErrLog {
				t.Errorf("a log of %d bytes that can %d: New answers %v, %v", size, can, h, e)
			}
			w.wantCalls(t)
			if s.Size() != size {
				t.Errorf("the log is cut")
			}
		}
		for _, b := range []string{"", "a", markOf(0)} {
			newJournal(t, newFile(t, b, can), newFile(t, "", 15-can))
		}
	}
	for _, size := range []int64{math.MinInt64, -1, math.MaxInt64} {
		l := (&odd{size: func() int64 { return size }}).handle()
		if h, e := journal.New(newFile(t, "", 15), l); h != nil || e != api.ErrLog {
			t.Errorf("a log that tells %d: New answers %v, %v", size, h, e)
		}
		h := newJournal(t, l, newFile(t, "", 15))
		wantSize(t, h, size)
	}
}

func methods(f api.File) []string {
	var l []string
	for m := range reflect.TypeOf(f).Methods() {
		l = append(l, m.Name)
	}
	return l
}

// wantCan asks a handle in all ways what it can.
func wantCan(t *testing.T, h *face.Handle, can uint8) {
	t.Helper()
	names := []string{"ReadAt", "Size"}
	for i, name := range []string{"WriteAt", "Cut", "Next", "Sync"} {
		if can>>i&1 == 1 {
			names = append(names, name)
		}
	}
	slices.Sort(names)
	if got := methods(h.File()); h.Can() != can || !slices.Equal(got, names) {
		t.Errorf("it can %d, by %v, want %d", h.Can(), got, can)
	}
	for do, bit := range []uint8{0, 0, api.CanWrite, api.CanCut, api.CanHoles, api.CanSync} {
		told, fell := h.Must(api.Op{Do: int8(do)})
		if fell != (can&bit != bit) || fell != (told.E == api.ErrCan) {
			t.Errorf("can %d: Must of %d tells %v, %v", can, do, told, fell)
		}
	}
}

// Over each of the sixteen sets of both files it can what chapter 2's table tells.
func TestP131Can(t *testing.T) {
	for a := range uint8(16) {
		for b := range uint8(16) {
			want, e := caps.Over(api.Wrap{Kind: api.WrapJournal}, []uint8{a, b})
			if e != api.OK || want != keeps(a, b) {
				t.Fatalf("the table tells %d of %d and %d", want, a, b)
			}
			wantCan(t, newJournal(t, newFile(t, "abc", a), newFile(t, "", b)), want)
			w, h := watched(t, "", a, b) // their values can more than their handles
			wantCan(t, h, want)
			h = newJournal(t, w.data.handle(a), newFile(t, "", b))
			for less := range uint8(16) {
				wantCan(t, h.Only(less), want&less)
				wantCan(t, newJournal(t, h.Only(less), newFile(t, "", 15)), keeps(want&less, 15))
			}
		}
	}
}

// What it can't is refused, and comes to nothing: neither file is asked.
func TestP131Cannot(t *testing.T) {
	for a := range uint8(16) {
		for b := range uint8(16) {
			w, h := watched(t, "abc", a, b)
			w.data.asked, w.log.asked = 0, 0
			for do := int8(2); do < 6; do++ {
				for _, at := range []int64{-1, 0, 1, 3, 5, api.MaxSize + 1} {
					op := api.Op{Do: do, At: at, N: 1, B: []byte("z")}
					wantTold(t, h.Only(0), op, api.Told{E: api.ErrCan})
					if cannot(keeps(a, b), op) != api.OK {
						wantTold(t, h, op, api.Told{E: api.ErrCan})
					}
				}
			}
			for _, do := range []int8{-128, -1, 6, 127} {
				wantTold(t, h, api.Op{Do: do, B: []byte("z")}, api.Told{E: api.ErrArg})
			}
			if w.wantCalls(t); w.data.asked > 0 || w.log.asked > 0 {
				t.Error("a file is asked")
			}
			wantAll(t, w.data.all, "abc")
			wantAll(t, h, "abc")
		}
	}
}

// New changes nothing; each handle is one of its own, with records of its own.
func TestP131Apart(t *testing.T) {
	w := twoOf(t, span.New([]byte("abc")), span.New(nil))
	d, l := w.data.handle(15), w.log.handle(15)
	h, i := newJournal(t, d, l), newJournal(t, d, l)
	w.wantCalls(t)
	if h == i || h.File() == i.File() || h.File() == d.File() || h.File() == l.File() {
		t.Error("two of them are the same")
	}
	wantWrite(t, h, 0, "xyz", api.OK)
	wantAll(t, h, "xyz")
	wantAll(t, i, "abc")
	wantAll(t, h.Only(0), "xyz")
	if j, e := journal.New(d, l); j != nil || e != api.ErrLog {
		t.Errorf("New over a log that is in use answers %v, %v", j, e)
	}
	other := newJournal(t, d, newFile(t, "", 15))
	wantCut(t, other, 1, api.OK)
	wantAll(t, h, "xyz")
	wantAll(t, other, "a")
	wantSync(t, other, api.OK)
	wantAll(t, d, "a")
	wantAll(t, h, "xyz")
	wantAll(t, i, "a")
}

// One handle as data and as log: every call ends, and is told as its words say.
func TestP131Same(t *testing.T) {
	f := newFile(t, "", 15)
	h := newJournal(t, f, f)
	wantWrite(t, h, 1, "x", api.OK)
	wantAll(t, f, string(make([]byte, 16))+writeOf(1, "x"))
	wantAll(t, h, "\x00x"+string(make([]byte, 14))+writeOf(1, "x"))
	wantCut(t, h, 2, api.OK)
	wantAll(t, h, "\x00x")
	wantSync(t, h, api.OK)
	wantAll(t, f, "")
	wantAll(t, h, "")
	for _, b := range []string{"", "abc", markOf(0), logOf(cutOf(2)), logOf(writeOf(3, "x"), cutOf(500)), markOf(1)} {
		f := newFile(t, b, 15)
		if h, e := journal.New(f, f); b != "" && (h != nil || e != api.ErrLog) {
			t.Errorf("New answers %v, %v", h, e)
		}
		if _, e := journal.Recover(f, f); e == api.OK {
			wantAll(t, f, "")
		} else if e != api.ErrLog || b != markOf(1) {
			t.Errorf("Recover answers %v", e)
		}
	}
}

// What is done through a journal stays its own until the Sync; what is done to data beside it is seen under its records.
func TestShared(t *testing.T) {
	d, l := newFile(t, "abcdef", 15), newFile(t, "", 15)
	h := newJournal(t, d, l)
	less := h.Only(api.CanWrite)
	wantWrite(t, less, 1, "XY", api.OK)
	for _, x := range []*face.Handle{h, less, h.Only(0)} {
		wantAll(t, x, "aXYdef")
	}
	wantWrite(t, d, 0, "uvwxyz", api.OK)
	wantAll(t, h, "uXYxyz")
	wantCut(t, d, 2, api.OK)
	wantAll(t, h, "uXY")
	wantCut(t, d, 0, api.OK)
	wantAll(t, h, "\x00XY")
	wantCut(t, d, 5, api.OK)
	wantAll(t, h, "\x00XY\x00\x00")
	wantSync(t, h, api.OK)
	wantAll(t, d, "\x00XY\x00\x00")
	wantWrite(t, d, 1, "12", api.OK)
	wantAll(t, less, "\x0012\x00\x00")
}

// scratch is a file of one list of bytes, which it hands out as it is, and which keeps the very lists that it is handed.
type scratch struct {
	data []byte
	kept [][]byte
}

func (s *scratch) handle() *face.Handle {
	return (&odd{
		size: func() int64 { return int64(len(s.data)) },
		read: func(at int64, n int) ([]byte, api.Errno) {
			at = min(at, int64(len(s.data)))
			return s.data[at:min(at+int64(n), int64(len(s.data)))], api.OK
		},
		write: func(at int64, b []byte) api.Errno {
			s.kept = append(s.kept, b)
			return api.OK
		},
	}).handle()
}

// What is read is new memory: the data's own bytes, those behind them, and the records stay as they are.
func TestNewMemory(t *testing.T) {
	text := letters(40)
	for _, recs := range [][]api.Op{nil, {{Do: api.DoWrite, At: 30, B: []byte("0123456789ABCDEF")}}, {{Do: api.DoCut, At: 20}, {Do: api.DoWrite, At: 25, B: []byte("0123456789")}}, {{Do: api.DoCut, At: 50}}} {
		s, l := &scratch{data: []byte(text)}, newFile(t, "", 15)
		h := newJournal(t, s.handle(), l)
		plain := newFile(t, text, 15)
		for _, op := range recs {
			h.Do(op)
			plain.Do(op)
		}
		log, _ := memory.All(l)
		f := h.File()
		for at := range int64(60) {
			for _, n := range []int{0, 1, 5, 20, 39, 40, 41, 60} {
				one, e1 := f.ReadAt(at, n)
				two, e2 := f.ReadAt(at, n)
				for i := range one[:cap(one)] {
					one[:cap(one)][i] = 'x'
				}
				want := plain.Do(api.Op{Do: api.DoRead, At: at, N: n}).Data
				if e1 != api.OK || e2 != api.OK || !bytes.Equal(two, want) {
					t.Fatalf("at %d, %d: two answers share memory: %q, want %q", at, n, two, want)
				}
				wantRead(t, h, at, n, string(want))
				if string(s.data) != text {
					t.Fatalf("at %d, %d: the data's own bytes are changed", at, n)
				}
			}
		}
		wantAll(t, l, string(log))
	}
}

// What is handed in is neither changed nor kept, with the room behind it, whatever log and data do to what they are handed.
func TestNothingKept(t *testing.T) {
	s, log := &scratch{data: []byte("abcdef")}, &scratch{}
	h := newJournal(t, s.handle(), log.handle())
	w, ok := h.File().(api.Writer)
	if !ok {
		t.Fatal("it can't be written")
	}
	room := []byte("uvwxyz")
	if e := w.WriteAt(1, room[1:4:5]); e != api.OK || string(room) != "uvwxyz" {
		t.Fatalf("a write is refused, by %v, or changes its bytes: %q", e, room)
	}
	wantRead(t, h, 0, 9, "avwxef")
	clear(room)
	wantRead(t, h, 0, 9, "avwxef")
	if len(log.kept) != 2 || string(log.kept[0]) != headOf(1, 1, 3) || string(log.kept[1]) != "vwx" {
		t.Fatalf("the log has kept %q", log.kept)
	}
	for _, b := range log.kept {
		clear(b[:cap(b)])
	}
	wantRead(t, h, 0, 9, "avwxef")
	if wantSync(t, h, api.OK); len(s.kept) != 1 || string(s.kept[0]) != "vwx" {
		t.Fatalf("data has kept %q", s.kept)
	}
	if len(log.kept) != 3 || string(log.kept[2]) != markOf(16) {
		t.Fatalf("the log has kept %q", log.kept)
	}
}

// Data that spoils what it is handed, and refuses it: the records are as they were.
func TestNothingShared(t *testing.T) {
	s := span.New([]byte("abcdef"))
	data := (&odd{size: s.Size, read: func(at int64, n int) ([]byte, api.Errno) { return s.Get(at, n), api.OK }, write: func(at int64, b []byte) api.Errno {
		clear(b[:cap(b)])
		return api.ErrFull
	}}).handle()
	h := newJournal(t, data, newFile(t, "", 15))
	wantWrite(t, h, 2, "XY", api.OK)
	wantSync(t, h, api.ErrFull)
	wantAll(t, h, "abXYef")
}

// Recover hands on bytes of its own, and changes none of those that the log tells.
func TestRecoverMemory(t *testing.T) {
	text := logOf(writeOf(1, "xyz"), writeOf(3, "uvw"), cutOf(9))
	s, log := &scratch{data: []byte("abcdef")}, &scratch{data: []byte(text)}
	wantRecover(t, s.handle(), log.handle(), 3, api.OK)
	if len(s.kept) != 2 || string(s.kept[0]) != "xyz" || string(s.kept[1]) != "uvw" {
		t.Fatalf("data has kept %q", s.kept)
	}
	for _, b := range s.kept {
		clear(b[:cap(b)])
	}
	if string(log.data) != text || len(log.kept) > 0 {
		t.Error("the log's own bytes are changed")
	}
}

// Other wrappers stand over a journal, and a journal over them, and over a journal.
func TestWrapped(t *testing.T) {
	d := newFile(t, "0123456789", 15)
	w, _ := window.New(d, 2, 5)
	h := newJournal(t, w, newFile(t, "", 15))
	wantCan(t, h, api.CanWrite|api.CanSync)
	wantWrite(t, h, 4, "x", api.OK)
	wantAll(t, h, "2345x")
	wantSync(t, h, api.OK)
	wantAll(t, d, "012345x789")
	inner := newJournal(t, d, newFile(t, "", 15))
	outer := newJournal(t, inner, newFile(t, "", 15))
	wantCut(t, outer, 3, api.OK)
	wantAll(t, inner, "012345x789")
	wantSync(t, outer, api.OK) // the inner one is synced by it, too
	wantAll(t, d, "012")
}

// All bytes of a file of many pieces, through memory.All.
func TestAllOfMany(t *testing.T) {
	text := letters(3*api.MaxText + 5)
	h := newJournal(t, newFile(t, text, 15), newFile(t, "", 15))
	wantWrite(t, h, api.MaxText-2, "abcd", api.OK)
	wantCut(t, h, 3*api.MaxText+2, api.OK)
	want := text[:api.MaxText-2] + "abcd" + text[api.MaxText+2:3*api.MaxText+2]
	if b, e := memory.All(h); e != api.OK || string(b) != want {
		t.Errorf("All answers %d bytes, %v", len(b), e)
	}
}
