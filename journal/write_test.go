package journal_test

import (
	"math"
	"strings"
	"testing"

	"mantle/api"
	"mantle/face"
	"mantle/span"
)

// noughts is the room of the mark, ahead of it.
var noughts = string(make([]byte, 16))

// The log behind each call, byte for byte, and which calls come to it.
func TestP133Records(t *testing.T) {
	w, h := watched(t, "abcdef", 15, 15)
	log := noughts
	for _, x := range []struct {
		op    api.Op
		bytes string
	}{
		{write(1, "xy"), "\x01\x00\x00\x00\x00\x00\x00\x00\x01\x00\x00\x00\x02xy"},
		{cut(4), "\x02\x00\x00\x00\x00\x00\x00\x00\x04\x00\x00\x00\x00"},
		{write(0x01020304, "\x00"), "\x01\x00\x00\x00\x00\x01\x02\x03\x04\x00\x00\x00\x01\x00"},
		{cut(api.MaxSize), "\x02\x00\x00\x00\x00\x40\x00\x00\x00\x00\x00\x00\x00"},
		{write(api.MaxSize-3, "uvw"), "\x01\x00\x00\x00\x00\x3F\xFF\xFF\xFD\x00\x00\x00\x03uvw"},
		{write(0, letters(0x0203)), "\x01\x00\x00\x00\x00\x00\x00\x00\x00\x00\x00\x02\x03" + letters(0x0203)},
		{cut(0), "\x02\x00\x00\x00\x00\x00\x00\x00\x00\x00\x00\x00\x00"},
		{write(7, letters(api.MaxText)), "\x01\x00\x00\x00\x00\x00\x00\x00\x07\x00\x01\x00\x00" + letters(api.MaxText)},
		{write(9, "z"), "\x01\x00\x00\x00\x00\x00\x00\x00\x09\x00\x00\x00\x01z"},
	} {
		at := int64(len(log))
		wantTold(t, h, x.op, api.Told{})
		want := []string{wrote("log", at, x.bytes[:13])}
		if len(x.bytes) > 13 {
			want = append(want, wrote("log", at+13, x.bytes[13:]))
		}
		w.wantCalls(t, want...)
		log += x.bytes
		wantAll(t, w.log.all, log)
		if from, to := w.logs.Next(0); from != 16 || to != int64(len(log)) {
			t.Errorf("the log is written from %d to %d", from, to)
		}
	}
	wantAll(t, w.data.all, "abcdef")
}

// A write of none comes to nothing, of a spoilt journal, too; the file's rules are asked ahead of it.
func TestP133None(t *testing.T) {
	for _, spoilt := range []bool{false, true} {
		w, h := watched(t, "abcdef", 15, 15)
		if spoilt {
			spoil(t, w, h)
		}
		for _, at := range []int64{0, 5, 6, 7, 1000, api.MaxSize} {
			wantWrite(t, h, at, "", api.OK)
		}
		wantWrite(t, h, -1, "", api.ErrArg)
		wantWrite(t, h, math.MinInt64, "", api.ErrArg)
		wantWrite(t, h, api.MaxSize+1, "", api.ErrLong)
		wantWrite(t, h, math.MaxInt64, "", api.ErrLong)
		w.wantCalls(t)
		if !spoilt {
			wantSync(t, h, api.OK)
			w.wantCalls(t, synced("data"))
		}
	}
}

// spoil makes a journal spoilt, by a Sync that is refused at once.
func spoil(t *testing.T, w *two, h *face.Handle) {
	t.Helper()
	wantWrite(t, h, 1, "S", api.OK)
	w.forget()
	w.refuse(0, api.ErrFull)
	wantSync(t, h, api.ErrFull)
	w.forget()
}

// What the file's rules refuse comes to nothing, of a spoilt journal, too: they are asked first.
func TestP133Rules(t *testing.T) {
	for _, spoilt := range []bool{false, true} {
		w, h := watched(t, "abcdef", 15, 15)
		if spoilt {
			spoil(t, w, h)
		}
		log := allOf(w.logs)
		for _, at := range []int64{math.MinInt64, -api.MaxSize, -1} {
			wantCut(t, h, at, api.ErrArg)
			for _, n := range []int{0, 1, api.MaxText, api.MaxText + 1} {
				wantWrite(t, h, at, letters(n), api.ErrArg)
			}
		}
		for _, at := range []int64{0, 6, api.MaxSize, math.MaxInt64} {
			wantWrite(t, h, at, letters(api.MaxText+1), api.ErrLong)
		}
		wantWrite(t, h, api.MaxSize, "x", api.ErrLong)
		wantWrite(t, h, api.MaxSize-1, "xy", api.ErrLong)
		wantWrite(t, h, api.MaxSize-api.MaxText+1, letters(api.MaxText), api.ErrLong)
		wantWrite(t, h, api.MaxSize+1, "x", api.ErrLong)
		wantWrite(t, h, math.MaxInt64, "x", api.ErrLong)
		wantCut(t, h, api.MaxSize+1, api.ErrLong)
		wantCut(t, h, math.MaxInt64, api.ErrLong)
		w.wantCalls(t)
		wantAll(t, w.log.all, string(log))
	}
}

// The bounds themselves are taken.
func TestP133Bounds(t *testing.T) {
	w, h := watched(t, "abcdef", 15, 15)
	wantWrite(t, h, 0, letters(api.MaxText), api.OK)
	wantAll(t, h, letters(api.MaxText))
	wantWrite(t, h, api.MaxSize-1, "x", api.OK)
	wantSize(t, h, api.MaxSize)
	wantWrite(t, h, api.MaxSize-api.MaxText, letters(api.MaxText), api.OK)
	wantRead(t, h, api.MaxSize-api.MaxText, api.MaxText, letters(api.MaxText))
	wantCut(t, h, api.MaxSize, api.OK)
	wantCut(t, h, 0, api.OK)
	wantAll(t, h, "")
	wantCut(t, h, 1, api.OK)
	wantAll(t, h, "\x00")
	wantSync(t, h, api.OK)
	wantAll(t, w.data.all, "\x00")
}

// roomy is a log that keeps nothing but how many bytes it has: it takes more than a file of memory.
func roomy(calls *[]api.Op) *face.Handle {
	size := int64(0)
	return (&odd{
		size: func() int64 { return size },
		write: func(at int64, b []byte) api.Errno {
			*calls = append(*calls, api.Op{Do: api.DoWrite, At: at, N: len(b)})
			size = max(size, at+int64(len(b)))
			return api.OK
		},
		cut: func(to int64) api.Errno {
			*calls = append(*calls, api.Op{Do: api.DoCut, At: to})
			size = to
			return api.OK
		},
	}).handle()
}

// Records of just MaxData bytes in all are taken, one byte more is not, and nothing of it is written down; a shorter record behind it that fits is taken.
func TestP133Full(t *testing.T) {
	for _, last := range []string{"write", "cut"} {
		var calls []api.Op
		s := span.New([]byte("abc"))
		h := newJournal(t, fileOf(t, s, 15), roomy(&calls))
		left := api.MaxData
		for left > 13+api.MaxText {
			wantWrite(t, h, 0, letters(api.MaxText), api.OK)
			left -= 13 + api.MaxText
		}
		leave := 13 + 5
		if last == "cut" {
			leave = 13
		}
		wantWrite(t, h, 0, letters(left-leave-13), api.OK)
		done := len(calls)
		if last == "write" {
			wantWrite(t, h, 0, "123456", api.ErrLong)
			wantWrite(t, h, 0, letters(api.MaxText), api.ErrLong)
			wantWrite(t, h, -1, "123456", api.ErrArg)
			wantWrite(t, h, 0, "", api.OK)
			if wantSize(t, h, api.MaxText); len(calls) != done {
				t.Fatalf("calls of the log for what is refused: %v", calls[done:])
			}
			wantWrite(t, h, 1, "12345", api.OK)
			if l := calls[done:]; len(l) != 2 || l[0].At != 16+api.MaxData-18 || l[0].N != 13 || l[1].At != 16+api.MaxData-5 || l[1].N != 5 {
				t.Fatalf("calls of the log for the last record: %v", l)
			}
		} else {
			wantWrite(t, h, 0, "1", api.ErrLong)
			wantCut(t, h, -1, api.ErrArg)
			wantCut(t, h, 7, api.OK)
			if l := calls[done:]; len(l) != 1 || l[0].At != 16+api.MaxData-13 || l[0].N != 13 {
				t.Fatalf("calls of the log for the last record: %v", l)
			}
		}
		done = len(calls)
		wantCut(t, h, 0, api.ErrLong)
		wantWrite(t, h, 0, "1", api.ErrLong)
		if len(calls) != done {
			t.Fatalf("calls of the log for what is refused: %v", calls[done:])
		}
		before, _ := h.File().ReadAt(0, api.MaxText)
		wantSync(t, h, api.OK)
		wantAll(t, fileOf(t, s, 0), string(before))
		wantWrite(t, h, 0, letters(api.MaxText), api.OK) // there is room again
	}
}

// A cut takes 13 bytes: where 12 are left it is refused.
func TestP133FullOfCuts(t *testing.T) {
	var calls []api.Op
	h := newJournal(t, newFile(t, "abc", 15), roomy(&calls))
	for range api.MaxData / 13 {
		if e := h.File().(api.Cutter).Cut(2); e != api.OK {
			t.Fatal(e)
		}
	}
	if len(calls) != api.MaxData/13 {
		t.Fatalf("%d calls", len(calls))
	}
	wantCut(t, h, 1, api.ErrLong)
	wantWrite(t, h, 1, "x", api.ErrLong)
	wantWrite(t, h, 1, "", api.OK)
	wantAll(t, h, "ab")
	wantSync(t, h, api.OK)
	wantCut(t, h, 1, api.OK)
	wantAll(t, h, "a")
}

// A log that refuses the first or the second call of a record, the first one, one in the middle, the last one: the error is told, there is no such record, the next one takes its place, and the journal is not spoilt.
func TestP133Refused(t *testing.T) {
	records := []api.Op{write(1, "xy"), cut(4), write(6, "uvwxyz"), write(0, "1")}
	for _, e := range errnos() {
		for i, op := range append(records, cut(9)) {
			for call := range 2 {
				if call == 1 && op.Do == api.DoCut {
					continue
				}
				w, h := watched(t, "abcdef", 15, 15)
				plain := newFile(t, "abcdef", 15)
				log := noughts
				for _, r := range records[:min(i, 4)] {
					wantTold(t, h, r, plain.Do(r))
					log += bytesOf(r)
				}
				w.forget()
				w.refuse(call, e)
				wantTold(t, h, op, api.Told{E: e})
				if len(w.calls) != call+1 {
					t.Errorf("calls behind the one that was refused: %q", w.calls)
				}
				w.forget()
				text := string(plain.Do(api.Op{Do: api.DoRead, N: 99}).Data)
				wantAll(t, h, text)
				wantTold(t, h, write(2, "N"), plain.Do(write(2, "N")))
				w.wantCalls(t, wrote("log", int64(len(log)), headOf(1, 2, 1)), wrote("log", int64(len(log))+13, "N"))
				log += writeOf(2, "N")
				if got := string(w.logs.Get(16, 999)); !strings.HasPrefix(got, log[16:]) {
					t.Errorf("the log is %q, want %q", got, log[16:])
				}
				text = string(plain.Do(api.Op{Do: api.DoRead, N: 99}).Data)
				wantAll(t, h, text)
				wantSync(t, h, api.OK)
				wantAll(t, w.data.all, text)
				wantSize(t, w.log.all, 0)
			}
		}
	}
}

// bytesOf is a record as it stands in the log.
func bytesOf(op api.Op) string {
	if op.Do == api.DoCut {
		return cutOf(uint64(op.At))
	}
	return writeOf(uint64(op.At), string(op.B))
}

// If the very first record is refused there is none: a Sync is one without records.
func TestP133RefusedFirst(t *testing.T) {
	for call := range 2 {
		w, h := watched(t, "abcdef", 15, 15)
		w.refuse(call, api.ErrFull)
		wantWrite(t, h, 1, "xy", api.ErrFull)
		w.forget()
		wantAll(t, h, "abcdef")
		wantSync(t, h, api.OK)
		w.wantCalls(t, synced("data"))
	}
}

// A log of memory that has no room left: its error is told, and a shorter record is taken.
func TestP133LogIsFull(t *testing.T) {
	h := newJournal(t, newFile(t, "abc", 15), newFile(t, "", 15))
	left := api.MaxData
	for left > 13+api.MaxText {
		wantWrite(t, h, 0, letters(api.MaxText), api.OK)
		left -= 13 + api.MaxText
	}
	wantWrite(t, h, 0, letters(left-13-16), api.OK) // the mark needs 16
	wantWrite(t, h, 0, "1234", api.ErrLong)
	wantWrite(t, h, 0, "123", api.OK)
	wantSync(t, h, api.ErrLong) // where the log holds no more bytes there is no mark
	wantWrite(t, h, 0, "1", api.ErrGone)
	wantRead(t, h, 0, 3, "123")
}

// Nothing is synced, whatever the files can, and data is not called.
func TestP133NothingElse(t *testing.T) {
	for a := range uint8(16) {
		for b := range uint8(16) {
			if keeps(a, b) == 0 {
				continue
			}
			w, h := watched(t, "abcdef", a, b)
			wantWrite(t, h, 1, "xy", api.OK)
			want := []string{wrote("log", 16, headOf(1, 1, 2)), wrote("log", 29, "xy")}
			if a&api.CanCut != 0 {
				wantCut(t, h, 3, api.OK)
				want = append(want, wrote("log", 31, cutOf(3)))
			}
			w.wantCalls(t, want...)
			wantAll(t, w.data.all, "abcdef")
		}
	}
}
