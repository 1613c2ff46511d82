package window_test

import (
	"bytes"
	"math"
	"reflect"
	"slices"
	"testing"

	"mantle/api"
	"mantle/caps"
	"mantle/face"
	"mantle/memory"
	"mantle/span"
	"mantle/window"
)

func newFile(t *testing.T, b string, can uint8) *face.Handle {
	t.Helper()
	h, e := memory.New([]byte(b), can)
	if e != api.OK {
		t.Fatalf("a file of memory that can %d: %v", can, e)
	}
	return h
}

func fileOf(t *testing.T, s *span.Bytes, can uint8) *face.Handle {
	t.Helper()
	h, e := memory.Of(s, can)
	if e != api.OK {
		t.Fatalf("a file of memory that can %d: %v", can, e)
	}
	return h
}

func newWindow(t *testing.T, h *face.Handle, at, n int64) *face.Handle {
	t.Helper()
	w, e := window.New(h, at, n)
	if e != api.OK || w == nil {
		t.Fatalf("New(h, %d, %d) answers %v, %v", at, n, w, e)
	}
	return w
}

func sameTold(a, b api.Told) bool {
	return a.E == b.E && a.N == b.N && a.M == b.M && bytes.Equal(a.Data, b.Data)
}

func wantTold(t *testing.T, h *face.Handle, op api.Op, want api.Told) {
	t.Helper()
	if got := h.Do(op); !sameTold(got, want) {
		t.Errorf("Do %d at %d, %d, of %d bytes tells %.50v, want %.50v", op.Do, op.At, op.N, len(op.B), got, want)
	}
}

func wantSize(t *testing.T, h *face.Handle, want int64) {
	t.Helper()
	wantTold(t, h, api.Op{Do: api.DoSize}, api.Told{N: want})
}

func wantRead(t *testing.T, h *face.Handle, at int64, n int, want string) {
	t.Helper()
	wantTold(t, h, api.Op{Do: api.DoRead, At: at, N: n}, api.Told{Data: []byte(want)})
}

func wantWrite(t *testing.T, h *face.Handle, at int64, b string, want api.Errno) {
	t.Helper()
	wantTold(t, h, api.Op{Do: api.DoWrite, At: at, B: []byte(b)}, api.Told{E: want})
}

func wantNext(t *testing.T, h *face.Handle, at, from, to int64) {
	t.Helper()
	wantTold(t, h, api.Op{Do: api.DoNext, At: at}, api.Told{N: from, M: to})
}

func TestExamples(t *testing.T) {
	h := newFile(t, "0123456789", 15)
	w := newWindow(t, h, 3, 4)
	wantSize(t, w, 4)
	wantRead(t, w, 1, 9, "456")
	wantRead(t, w, 4, 1, "")
	w = newWindow(t, h, 8, 5)
	wantSize(t, w, 2)
	wantWrite(t, w, 4, "ab", api.ErrLong)
	wantWrite(t, w, 4, "a", api.OK)
	wantRead(t, h, 0, 99, "0123456789\x00\x00a")
	h = newFile(t, "0123456789", 15)
	w = newWindow(t, h, 20, 5)
	wantSize(t, w, 0)
	wantWrite(t, w, 0, "x", api.OK)
	wantSize(t, h, 21)
	wantSize(t, w, 1)
	for _, x := range []struct {
		h     *face.Handle
		at, n int64
		e     api.Errno
	}{{nil, 0, 1, api.ErrNil}, {h, -1, 1, api.ErrArg}, {h, 1, api.MaxSize, api.ErrLong}} {
		if w, e := window.New(x.h, x.at, x.n); w != nil || e != x.e {
			t.Errorf("New(.., %d, %d) answers %v, %v", x.at, x.n, w, e)
		}
	}
	if w := newWindow(t, h, 0, 4); caps.Text(w.Can()) != "write holes sync" {
		t.Errorf("a window can %s", caps.Text(w.Can()))
	}
	if r := window.Read(h); caps.Text(r.Can()) != "holes" {
		t.Errorf("what is read alone can %s", caps.Text(r.Can()))
	}
}

// The third of the whole's examples.
func TestExampleOfTheWhole(t *testing.T) {
	h := newFile(t, "abcdef", 15)
	w := newWindow(t, h, 1, 3)
	wantRead(t, w, 0, 9, "bcd")
	wantWrite(t, w, 2, "xy", api.ErrLong)
	wantWrite(t, w, 1, "xy", api.OK)
	wantRead(t, h, 0, 9, "abxyef")
}

// numbers are places and lengths of all kinds.
func numbers() []int64 {
	return []int64{math.MinInt64, math.MinInt64 + 1, -api.MaxSize, -1, 0, 1, 9, 10, 11, api.MaxText, api.MaxSize / 2, api.MaxSize/2 + 1,
		api.MaxSize - 1, api.MaxSize, api.MaxSize + 1, math.MaxInt64 - api.MaxSize, math.MaxInt64 - 1, math.MaxInt64}
}

func TestP51Errors(t *testing.T) {
	h := newFile(t, "0123456789", 15)
	for _, at := range numbers() {
		for _, n := range numbers() {
			for _, none := range []*face.Handle{nil, {}} {
				if w, e := window.New(none, at, n); w != nil || e != api.ErrNil {
					t.Errorf("New(nil, %d, %d) answers %v, %v", at, n, w, e)
				}
			}
			want := api.OK
			if at < 0 || n < 0 {
				want = api.ErrArg
			} else if at > api.MaxSize || n > api.MaxSize || at+n > api.MaxSize {
				want = api.ErrLong
			}
			w, e := window.New(h, at, n)
			if e != want || (w != nil) != (want == api.OK) {
				t.Errorf("New(h, %d, %d) answers %v, %v, want %v", at, n, w, e, want)
			}
		}
	}
	wantRead(t, h, 0, 99, "0123456789")
}

// New asks nothing of the file: neither does Read.
func TestP51NothingIsAsked(t *testing.T) {
	r := newRefuser(t, "0123456789")
	if w := newWindow(t, r.handle(15), 3, 4); w.Can() != 13 {
		t.Errorf("a window can %d", w.Can())
	}
	if x := window.Read(r.handle(15)); x.Can() != api.CanHoles || len(r.calls) != 0 {
		t.Errorf("it can %d; %d calls were made", x.Can(), len(r.calls))
	}
}

func methods(f api.File) []string {
	var l []string
	for m := range reflect.TypeOf(f).Methods() {
		l = append(l, m.Name)
	}
	return l
}

// wantCan asks a handle in all ways what it can.
func wantCan(t *testing.T, h *face.Handle, can uint8) {
	t.Helper()
	names := []string{"ReadAt", "Size"}
	for i, name := range []string{"WriteAt", "Cut", "Next", "Sync"} {
		if can>>i&1 == 1 {
			names = append(names, name)
		}
	}
	slices.Sort(names)
	if got := methods(h.File()); h.Can() != can || !slices.Equal(got, names) {
		t.Errorf("it can %d, by %v, want %d", h.Can(), got, can)
	}
	for do, bit := range []uint8{0, 0, api.CanWrite, api.CanCut, api.CanHoles, api.CanSync} {
		told, fell := h.Must(api.Op{Do: int8(do)})
		if fell != (can&bit != bit) || fell != (told.E == api.ErrCan) {
			t.Errorf("can %d: Must of %d tells %v, %v", can, do, told, fell)
		}
	}
}

// What they can is the table's, of all sixteen sets below.
func TestP51P54Can(t *testing.T) {
	for can := range uint8(16) {
		h := newFile(t, "0123456789", can)
		below := []uint8{can}
		of, _ := caps.Over(api.Wrap{Kind: api.WrapWindow}, below)
		for _, x := range []api.Stretch{{From: 3, To: 4}, {From: 0, To: 0}, {From: 50, To: 5}, {From: 0, To: api.MaxSize}} {
			wantCan(t, newWindow(t, h, x.From, x.To), of)
			wantCan(t, newWindow(t, newWindow(t, h, x.From, x.To), 0, x.To), of)
		}
		alone, _ := caps.Over(api.Wrap{Kind: api.WrapRead}, below)
		wantCan(t, window.Read(h), alone)
		wantCan(t, window.Read(window.Read(h)), alone)
		wantCan(t, window.Read(newWindow(t, h, 3, 4)), alone)
		wantCan(t, newWindow(t, window.Read(h), 3, 4), alone)
		wantRead(t, h, 0, 99, "0123456789")
	}
}

// What stands over a handle stands over its file; it is a handle of its own each time.
func TestHandlesApart(t *testing.T) {
	h := newFile(t, "0123456789", 15)
	l := []*face.Handle{h, newWindow(t, h, 3, 4), newWindow(t, h, 3, 4), window.Read(h), window.Read(h)}
	for i, a := range l {
		for j, b := range l {
			if i != j && (a == b || a.File() == b.File()) {
				t.Errorf("the handles %d and %d are the same", i, j)
			}
		}
	}
}

// A window that is wide open over a file that is as long as can be.
func TestP51MaxSize(t *testing.T) {
	h := newFile(t, "abc", 15)
	whole, last, none := newWindow(t, h, 0, api.MaxSize), newWindow(t, h, api.MaxSize-4, 4), newWindow(t, h, api.MaxSize, 0)
	wantSize(t, whole, 3)
	wantWrite(t, last, 1, "wxyz", api.ErrLong)
	wantSize(t, h, 3)
	wantWrite(t, last, 0, "wxyz", api.OK)
	wantSize(t, h, api.MaxSize)
	wantSize(t, whole, api.MaxSize)
	wantSize(t, last, 4)
	wantSize(t, none, 0)
	wantRead(t, last, 1, api.MaxText, "xyz")
	wantRead(t, whole, api.MaxSize-3, 9, "xyz")
	wantRead(t, none, 0, 9, "")
	wantNext(t, whole, 3, api.MaxSize-4, api.MaxSize)
	wantNext(t, last, 2, 2, 4)
	wantNext(t, none, 0, 0, 0)
	wantWrite(t, none, 0, "x", api.ErrLong)
	wantWrite(t, whole, api.MaxSize-1, "AB", api.ErrLong)
	wantWrite(t, whole, api.MaxSize-2, "AB", api.OK)
	wantRead(t, last, 0, 9, "wxAB")
}

// One read, one write has at most MaxText bytes, however wide the window is.
func TestP52P53MaxText(t *testing.T) {
	h := newFile(t, "", 15)
	w := newWindow(t, h, 1, api.MaxSize-1)
	b := bytes.Repeat([]byte("0123456789abcdefX"), api.MaxText)[:api.MaxText]
	wantTold(t, w, api.Op{Do: api.DoWrite, B: append(bytes.Clone(b), 'y')}, api.Told{E: api.ErrLong})
	wantTold(t, w, api.Op{Do: api.DoWrite, At: -1, B: append(bytes.Clone(b), 'y')}, api.Told{E: api.ErrArg})
	wantSize(t, h, 0)
	wantTold(t, w, api.Op{Do: api.DoWrite, B: b}, api.Told{})
	wantSize(t, h, api.MaxText+1)
	wantTold(t, w, api.Op{Do: api.DoRead, N: api.MaxText}, api.Told{Data: b})
	wantTold(t, w, api.Op{Do: api.DoRead, N: api.MaxText + 1}, api.Told{E: api.ErrLong})
	wantTold(t, w, api.Op{Do: api.DoRead, At: -1, N: api.MaxText + 1}, api.Told{E: api.ErrArg})
	wantTold(t, h, api.Op{Do: api.DoRead, N: 2}, api.Told{Data: []byte{0, '0'}})
}

// Sizes are asked at each call.
func TestP52SizeIsAsked(t *testing.T) {
	s := span.New([]byte("0123456789"))
	h := fileOf(t, s, 15)
	w := newWindow(t, h, 3, 4)
	for _, x := range []struct{ size, want int64 }{{10, 4}, {7, 4}, {6, 3}, {4, 1}, {3, 0}, {2, 0}, {0, 0}, {5, 2}, {99, 4}} {
		s.Cut(x.size)
		wantSize(t, w, x.want)
		wantTold(t, w, api.Op{Do: api.DoRead, N: 9}, api.Told{Data: s.Get(3, int(x.want))})
	}
	wantNext(t, w, 0, 4, 4)
	s.Put(5, []byte("x"))
	wantNext(t, w, 0, 2, 3)
	wantRead(t, w, 0, 9, "\x00\x00x\x00")
}

// What is told is new memory, and what is written is not kept.
func TestNewMemory(t *testing.T) {
	h := newFile(t, "0123456789", 15)
	for _, f := range []api.File{newWindow(t, h, 3, 4).File(), window.Read(h).File()} {
		one, _ := f.ReadAt(0, 4)
		two, _ := f.ReadAt(0, 4)
		kept := bytes.Clone(two)
		clear(one[:cap(one)])
		if !bytes.Equal(two, kept) {
			t.Error("two answers share memory")
		}
		wantRead(t, h, 0, 99, "0123456789")
	}
	room := []byte("xyz")
	w, ok := newWindow(t, h, 3, 4).File().(api.Writer)
	if !ok || w.WriteAt(1, room[:2]) != api.OK || string(room) != "xyz" {
		t.Fatalf("a write failed, or changed its bytes: %q", room)
	}
	clear(room)
	wantRead(t, h, 0, 99, "0123xy6789")
}
