package buffer_test

import (
	"bytes"
	"math"
	"slices"
	"strings"
	"testing"

	"mantle/api"
	"mantle/face"
	"mantle/span"
)

// desk is a file of memory that writes down what it is asked, a buffer over it, and what plain lists tell of both.
type desk struct {
	span *span.Bytes
	file *refuser
	hand *face.Handle
	book *ledger
}

func newDesk(t *testing.T, size int64, bits uint16, can uint8, most int) *desk {
	t.Helper()
	s, p := patterned(size, bits)
	r := &refuser{all: fileOf(t, s, 15)}
	return &desk{s, r, newBuffer(t, r.handle(can), most), &ledger{paper: p, can: can, most: most}}
}

// refuseBehind makes the file below take so many writes and no more.
func (d *desk) refuseBehind(takes int, e api.Errno) {
	d.file.refuseBehind(takes, e)
	d.book.takes, d.book.e = takes, e
}

// wantDo does op through the buffer: what is told, which writes come to the file below, and what it has then.
func (d *desk) wantDo(t *testing.T, op api.Op) {
	t.Helper()
	d.file.calls, d.book.wrote = nil, nil
	wantTold(t, d.hand, op, d.book.do(op))
	wrote := slices.DeleteFunc(slices.Clone(d.file.calls), func(s string) bool { return !strings.HasPrefix(s, "2 ") })
	if want := calls(d.book.wrote); !slices.Equal(wrote, want) {
		t.Errorf("to the file below is written %q, want %q", wrote, want)
	}
	d.book.paper.wantState(t, d.span)
}

// wantBeside does op to the file below.
func (d *desk) wantBeside(t *testing.T, op api.Op) {
	t.Helper()
	wantTold(t, d.file.all.Only(d.book.can), op, d.book.paper.do(d.book.can, op))
	d.book.paper.wantState(t, d.span)
}

// wantSeen holds all that the buffer tells.
func (d *desk) wantSeen(t *testing.T) {
	t.Helper()
	wantAll(t, d.hand, string(d.book.seen().data))
}

// put is a write of these bytes.
func put(at int64, b string) api.Op { return api.Op{Do: api.DoWrite, At: at, B: []byte(b)} }

func cutTo(size int64) api.Op { return api.Op{Do: api.DoCut, At: size} }

func readOf(at int64, n int) api.Op { return api.Op{Do: api.DoRead, At: at, N: n} }

// wantReads reads all pieces of what is wanted, and behind it.
func wantReads(t *testing.T, h *face.Handle, want string) {
	t.Helper()
	for at := range len(want) + 3 {
		from := min(at, len(want))
		for n := range len(want) + 4 {
			wantRead(t, h, int64(at), n, want[from:min(from+n, len(want))])
		}
	}
	wantRead(t, h, math.MaxInt64, api.MaxText, "")
	wantSize(t, h, int64(len(want)))
}

// All reads of ten bytes, with these writes gathered: within one, across several and across their borders; later ones lie over earlier ones.
func TestP92Reads(t *testing.T) {
	for name, x := range map[string]struct {
		l    []api.Op
		want string
	}{
		"nothing gathered":           {nil, "0123456789"},
		"one byte":                   {[]api.Op{put(4, "A")}, "0123A56789"},
		"the first byte":             {[]api.Op{put(0, "A")}, "A123456789"},
		"the last byte":              {[]api.Op{put(9, "A")}, "012345678A"},
		"all":                        {[]api.Op{put(0, "ABCDEFGHIJ")}, "ABCDEFGHIJ"},
		"in the midst":               {[]api.Op{put(3, "ABCD")}, "012ABCD789"},
		"two side by side":           {[]api.Op{put(2, "AB"), put(4, "CD")}, "01ABCD6789"},
		"the other way round":        {[]api.Op{put(4, "CD"), put(2, "AB")}, "01ABCD6789"},
		"two apart":                  {[]api.Op{put(1, "AB"), put(6, "CD")}, "0AB345CD89"},
		"a later one over the end":   {[]api.Op{put(2, "ABCD"), put(4, "EFG")}, "01ABEFG789"},
		"a later one over the front": {[]api.Op{put(4, "EFG"), put(2, "ABCD")}, "01ABCDG789"},
		"a later one within":         {[]api.Op{put(2, "ABCDE"), put(4, "z")}, "01ABzDE789"},
		"a later one over all of it": {[]api.Op{put(4, "z"), put(2, "ABCDE")}, "01ABCDE789"},
		"the same place":             {[]api.Op{put(5, "AB"), put(5, "CD"), put(5, "EF")}, "01234EF789"},
		"one between two":            {[]api.Op{put(0, "AB"), put(4, "EF"), put(1, "xyzw")}, "AxyzwF6789"},
		"byte by byte":               {[]api.Op{put(3, "A"), put(2, "B"), put(3, "C"), put(1, "D"), put(2, "E")}, "0DEC456789"},
		"noughts":                    {[]api.Op{put(3, "\x00\x00"), put(4, "A")}, "012\x00A56789"},
	} {
		r := newRefuser(t, "0123456789")
		h := newBuffer(t, r.handle(15), 20)
		for _, op := range x.l {
			wantTold(t, h, op, api.Told{})
		}
		r.wantCalls(t)
		wantReads(t, h, x.want)
		wantAll(t, r.all, "0123456789")
		r.calls = nil
		wantSync(t, h, api.OK)
		r.wantCalls(t, append(calls(x.l), "5 0 0 ")...)
		if wantReads(t, h, x.want); t.Failed() {
			t.Fatal(name)
		}
	}
}

// Reads change nothing: what is gathered is not given away by them, nor by Size.
func TestP92GivesNothingAway(t *testing.T) {
	r := newRefuser(t, "abcdef")
	h := newBuffer(t, r.handle(15), 4)
	wantWrite(t, h, 1, "XY", api.OK)
	for range 9 {
		wantRead(t, h, 0, 3, "aXY")
		wantSize(t, h, 6)
	}
	wantAll(t, r.all, "abcdef")
	r.calls = nil
	wantSync(t, h, api.OK)
	r.wantCalls(t, "2 1 0 XY", "5 0 0 ")
}

// An error that the file below tells of a read is told as it is, and no bytes beside it, be they gathered or the file's; of none and behind Size, too. What is gathered stays.
func TestP92Refused(t *testing.T) {
	for i, e := range errnos() {
		for _, gather := range []bool{false, true} {
			r := newRefuser(t, "abcdef")
			r.data = []byte("beside")[:i%7]
			h := newBuffer(t, r.handle(15), 6)
			if gather {
				wantWrite(t, h, 0, "123456", api.OK)
			}
			r.no[api.DoRead] = e
			for _, at := range []int64{0, 2, 6, 9} {
				for _, n := range []int{0, 1, 6} {
					wantNoRead(t, h, at, n, e)
					if b, _ := h.File().ReadAt(at, n); len(b) > 0 {
						t.Errorf("%q is told beside an error", b)
					}
				}
			}
			wantSize(t, h, 6)
			r.no[api.DoRead] = api.OK
			if gather {
				wantAll(t, h, "123456")
			} else {
				wantAll(t, h, "abcdef")
			}
			wantAll(t, r.all, "abcdef")
		}
	}
}

// A file that was changed below, while writes are gathered: it is told as it is now, with them over it.
func TestP92ChangedBelow(t *testing.T) {
	f := newFile(t, "abcdef", 15)
	h := newBuffer(t, f, 9)
	wantWrite(t, h, 1, "XY", api.OK)
	wantWrite(t, f, 0, "123456", api.OK)
	wantReads(t, h, "1XY456")
	wantWrite(t, f, 6, "78", api.OK)
	wantReads(t, h, "1XY45678")
	wantCut(t, f, 10, api.OK)
	wantReads(t, h, "1XY45678\x00\x00")
	wantCut(t, f, 4, api.OK)
	wantReads(t, h, "1XY4")
	wantWrite(t, h, 0, "!", api.OK) // it ends right ahead of Size, and is gathered
	wantAll(t, f, "1234")
	wantSync(t, h, api.OK)
	wantAll(t, f, "!XY4")
}

// A file that was cut below, into the gathered writes and ahead of them: Size and what is read are what they will be behind a flush, noughts between.
func TestP92CutBelow(t *testing.T) {
	for size := range int64(12) {
		f := newFile(t, "0123456789", 15)
		h := newBuffer(t, f, 20)
		wantWrite(t, h, 3, "ABC", api.OK)
		wantWrite(t, h, 7, "XY", api.OK)
		wantWrite(t, h, 2, "z", api.OK)
		wantCut(t, f, size, api.OK)
		want := []byte("0123456789\x00\x00")[:max(size, 9)]
		clear(want[min(size, 9):9])
		copy(want[3:], "ABC")
		copy(want[7:], "XY")
		copy(want[2:], "z")
		wantReads(t, h, string(want))
		wantSize(t, f, size)
		wantSync(t, h, api.OK)
		wantReads(t, f, string(want))
		if wantReads(t, h, string(want)); t.Failed() {
			t.Fatal(size)
		}
	}
}

// Where a file was cut below, a write is held against the Size that the buffer tells.
func TestP92WriteBehindCutBelow(t *testing.T) {
	for _, x := range []struct {
		op     api.Op
		writes []string
		below  string
	}{
		{put(4, "z"), nil, "ab"},
		{put(1, "12345"), nil, "ab"},
		{put(5, "z"), nil, "ab"},
		{put(5, "zz"), []string{"2 4 0 XY", "2 5 0 zz"}, "ab\x00\x00Xzz"},
		{put(6, "z"), []string{"2 4 0 XY", "2 6 0 z"}, "ab\x00\x00XYz"},
	} {
		r := newRefuser(t, "abcdef")
		h := newBuffer(t, r.handle(15), 9)
		wantWrite(t, h, 4, "XY", api.OK)
		wantCut(t, r.all, 2, api.OK)
		wantTold(t, h, x.op, api.Told{})
		r.wantCalls(t, x.writes...)
		wantAll(t, r.all, x.below)
		p := &paper{[]byte("ab\x00\x00XY"), make([]bool, 6)}
		p.write(x.op.At, x.op.B)
		wantReads(t, h, string(p.data))
	}
}

// A read behind the end of a file that was cut below, ahead of a gathered write: noughts, as many as are asked.
func TestP92NoughtsBetween(t *testing.T) {
	f := newFile(t, "", 15)
	h := newBuffer(t, f, 4)
	wantCut(t, f, api.MaxSize, api.OK)
	wantWrite(t, h, api.MaxSize-2, "XY", api.OK)
	wantCut(t, f, 3, api.OK)
	wantWrite(t, f, 0, "abc", api.OK)
	wantSize(t, h, api.MaxSize)
	wantRead(t, h, 0, api.MaxText, "abc"+strings.Repeat("\x00", api.MaxText-3))
	wantRead(t, h, 1<<20, 5, "\x00\x00\x00\x00\x00")
	wantRead(t, h, api.MaxSize-4, 9, "\x00\x00XY")
	wantRead(t, h, api.MaxSize-1, 9, "Y")
	wantRead(t, h, api.MaxSize, 9, "")
	wantSize(t, f, 3)
	wantSync(t, h, api.OK)
	wantSize(t, f, api.MaxSize)
}

// A file that tells more or fewer bytes than it was asked, or by its Size has: no more than were asked are told, and gathered ones in their places.
func TestP92OddReads(t *testing.T) {
	o := &odd{size: func() int64 { return 10 }}
	for more := range 14 {
		o.read = func(at int64, n int) ([]byte, api.Errno) {
			return []byte("0123456789abcdefghijklmno")[at:][:more], api.OK
		}
		h := newBuffer(t, o.handle(), 20)
		wantRead(t, h, 0, 10, "0123456789"[:min(more, 10)])
		wantWrite(t, h, 3, "ABC", api.OK)
		want := []byte("0123456789")
		clear(want[min(more, 10):])
		copy(want[3:], "ABC")
		wantRead(t, h, 0, 10, string(want[:max(min(more, 10), 6)]))
		wantRead(t, h, 4, 1, "B")
		wantRead(t, h, 4, 0, "")
	}
}

// Whatever Size a file tells: each call ends, and none panics; a write that ends behind it goes through.
func TestP92OddSizes(t *testing.T) {
	wrote := 0
	o := &odd{
		read:  func(at int64, n int) ([]byte, api.Errno) { return bytes.Repeat([]byte("z"), n), api.OK },
		write: func(at int64, b []byte) api.Errno { wrote++; return api.OK },
	}
	for _, size := range []int64{math.MinInt64, math.MinInt64 + 1, -api.MaxSize, -1, 0, 1, 9, 10, api.MaxSize, api.MaxSize + 1, math.MaxInt64 - 1, math.MaxInt64} {
		o.size, wrote = func() int64 { return size }, 0
		h := newBuffer(t, o.handle(), 20)
		wantSize(t, h, max(size, 0))
		for _, at := range []int64{0, 1, api.MaxSize, math.MaxInt64 - 1, math.MaxInt64} {
			wantRead(t, h, at, 3, "zzz")
		}
		wantWrite(t, h, 7, "abc", api.OK)
		if want := size < 10; want != (wrote == 1) {
			t.Errorf("size %d: %d writes", size, wrote)
		}
		if size >= 10 {
			wantRead(t, h, 6, 5, "zabcz")
			wantRead(t, h, 8, api.MaxText, "bc"+strings.Repeat("z", api.MaxText-2))
		}
		wantRead(t, h, math.MaxInt64, 3, "zzz")
		wantSize(t, h, max(size, 0))
		wantWrite(t, h, api.MaxSize-1, "x", api.OK)
		wantCut(t, h, 64, api.OK)
		if wrote != 2 {
			t.Errorf("size %d: %d writes", size, wrote)
		}
	}
}

// A file that reads through the buffer while it is written: it is told the same at any time of a flush.
func TestP92ReadWithin(t *testing.T) {
	var h *face.Handle
	f := newFile(t, "0123456789", 15)
	n := 0
	o := &odd{
		size: func() int64 { return 10 },
		read: f.File().ReadAt,
		write: func(at int64, b []byte) api.Errno {
			n++
			wantAll(t, h, "AzCDE56789")
			return f.Do(put(at, string(b))).E
		},
	}
	h = newBuffer(t, o.handle(), 20)
	wantWrite(t, h, 0, "ABC", api.OK)
	wantWrite(t, h, 3, "DE", api.OK)
	wantWrite(t, h, 1, "z", api.OK)
	wantSync(t, h, api.OK)
	if n != 3 {
		t.Errorf("%d writes", n)
	}
	wantAll(t, f, "AzCDE56789")
}

// A file that syncs the buffer, cuts it, or writes through it, while it is written: the calls end, none panics, and in the end nothing is gathered.
func TestP92FlushWithin(t *testing.T) {
	for _, within := range []api.Op{{Do: api.DoSync}, {Do: api.DoCut, At: 10}, put(9, "!"), put(8, "!!")} {
		var h *face.Handle
		f := newFile(t, "0123456789", 15)
		busy := false
		o := &odd{
			size: func() int64 { return 10 },
			read: f.File().ReadAt,
			write: func(at int64, b []byte) api.Errno {
				if !busy {
					busy = true
					h.Do(within)
					busy = false
				}
				return f.Do(put(at, string(b))).E
			},
		}
		h = newBuffer(t, o.handle(), 20)
		wantWrite(t, h, 0, "ABC", api.OK)
		wantWrite(t, h, 3, "DE", api.OK)
		wantWrite(t, h, 1, "z", api.OK)
		wantSync(t, h, api.OK)
		busy = true
		wantSync(t, h, api.OK)
		wantAll(t, h, string(f.Do(readOf(0, 99)).Data))
	}
}
