package buffer_test

import (
	"bytes"
	"math"
	"reflect"
	"slices"
	"testing"

	"mantle/api"
	"mantle/buffer"
	"mantle/caps"
	"mantle/face"
	"mantle/memory"
	"mantle/span"
)

func newFile(t *testing.T, b string, can uint8) *face.Handle {
	t.Helper()
	h, e := memory.New([]byte(b), can)
	if e != api.OK {
		t.Fatalf("a file of memory that can %d: %v", can, e)
	}
	return h
}

func fileOf(t *testing.T, s *span.Bytes, can uint8) *face.Handle {
	t.Helper()
	h, e := memory.Of(s, can)
	if e != api.OK {
		t.Fatalf("a file of memory that can %d: %v", can, e)
	}
	return h
}

func newBuffer(t *testing.T, below *face.Handle, most int) *face.Handle {
	t.Helper()
	h, e := buffer.New(below, most)
	if e != api.OK || h == nil {
		t.Fatalf("New of %d bytes answers %v, %v", most, h, e)
	}
	return h
}

func sameTold(a, b api.Told) bool {
	return a.E == b.E && a.N == b.N && a.M == b.M && bytes.Equal(a.Data, b.Data)
}

func wantTold(t *testing.T, h *face.Handle, op api.Op, want api.Told) {
	t.Helper()
	if got := h.Do(op); !sameTold(got, want) {
		t.Errorf("Do %d at %d, %d, of %d bytes tells %v %d %d %.80q, want %v %d %d %.80q", op.Do, op.At, op.N, len(op.B), got.E, got.N, got.M, got.Data, want.E, want.N, want.M, want.Data)
	}
}

func wantSize(t *testing.T, h *face.Handle, want int64) {
	t.Helper()
	wantTold(t, h, api.Op{Do: api.DoSize}, api.Told{N: want})
}

func wantRead(t *testing.T, h *face.Handle, at int64, n int, want string) {
	t.Helper()
	wantTold(t, h, api.Op{Do: api.DoRead, At: at, N: n}, api.Told{Data: []byte(want)})
}

func wantNoRead(t *testing.T, h *face.Handle, at int64, n int, want api.Errno) {
	t.Helper()
	wantTold(t, h, api.Op{Do: api.DoRead, At: at, N: n}, api.Told{E: want})
}

func wantWrite(t *testing.T, h *face.Handle, at int64, b string, want api.Errno) {
	t.Helper()
	wantTold(t, h, api.Op{Do: api.DoWrite, At: at, B: []byte(b)}, api.Told{E: want})
}

func wantCut(t *testing.T, h *face.Handle, size int64, want api.Errno) {
	t.Helper()
	wantTold(t, h, api.Op{Do: api.DoCut, At: size}, api.Told{E: want})
}

func wantSync(t *testing.T, h *face.Handle, want api.Errno) {
	t.Helper()
	wantTold(t, h, api.Op{Do: api.DoSync}, api.Told{E: want})
}

// wantAll holds all bytes of a file, and its Size.
func wantAll(t *testing.T, h *face.Handle, want string) {
	t.Helper()
	wantRead(t, h, 0, api.MaxText, want)
	wantSize(t, h, int64(len(want)))
}

func TestExamples(t *testing.T) {
	f := newFile(t, "abcdef", 15)
	for _, x := range []struct {
		h    *face.Handle
		most int
		e    api.Errno
	}{{nil, 4, api.ErrNil}, {f, -1, api.ErrArg}, {f, 65537, api.ErrArg}} {
		if h, e := buffer.New(x.h, x.most); h != nil || e != x.e {
			t.Errorf("New(h, %d) answers %v, %v", x.most, h, e)
		}
	}
	b := newBuffer(t, f, 4)
	wantCan(t, b, 11)
	wantWrite(t, b, 1, "XY", api.OK)
	wantAll(t, b, "aXYdef")
	wantAll(t, f, "abcdef")
	wantWrite(t, b, 4, "UVW", api.OK)
	wantAll(t, b, "aXYdUVW")
	wantAll(t, f, "aXYdUVW")
	wantWrite(t, b, 0, "123", api.OK)
	wantWrite(t, b, 3, "45", api.OK)
	wantAll(t, f, "123dUVW")
	wantAll(t, b, "12345VW")
	wantSync(t, b, api.OK)
	wantAll(t, f, "12345VW")
	wantCan(t, newBuffer(t, newFile(t, "abc", 0), 4), 0)
}

// numbers are bounds of what is gathered that are let in, and such as are not.
func numbers() (right, wrong []int) {
	return []int{0, 1, 2, 64, 4096, 65535, 65536}, []int{-1, -2, -65536, 65537, 65538, 1 << 20, 1 << 32, math.MinInt, math.MaxInt}
}

// A nil file, as a handle that there is not, or that New answered, is told ahead of a wrong number.
func TestP91Nil(t *testing.T) {
	refused, _ := buffer.New(nil, 1)
	right, wrong := numbers()
	for _, below := range []*face.Handle{nil, {}, refused} {
		for _, n := range append(right, wrong...) {
			if h, e := buffer.New(below, n); h != nil || e != api.ErrNil {
				t.Errorf("New(nil, %d) answers %v, %v", n, h, e)
			}
		}
	}
	for do := int8(-1); do < 7; do++ {
		wantTold(t, refused, api.Op{Do: do, N: 1}, api.Told{E: api.ErrNil})
		if told, fell := refused.Must(api.Op{Do: do}); told.E != api.ErrNil || fell {
			t.Errorf("Must of %d tells %v, %v", do, told, fell)
		}
	}
}

// New asks nothing of the file, whichever number it is handed.
func TestP91Numbers(t *testing.T) {
	right, wrong := numbers()
	r := newRefuser(t, "abcdef")
	for _, n := range wrong {
		if h, e := buffer.New(r.handle(15), n); h != nil || e != api.ErrArg {
			t.Errorf("New(h, %d) answers %v, %v", n, h, e)
		}
	}
	for _, n := range right {
		newBuffer(t, r.handle(15), n).Can()
	}
	r.wantUnasked(t)
}

func methods(f api.File) []string {
	var l []string
	for m := range reflect.TypeOf(f).Methods() {
		l = append(l, m.Name)
	}
	return l
}

// wantCan asks a handle in all ways what it can.
func wantCan(t *testing.T, h *face.Handle, can uint8) {
	t.Helper()
	names := []string{"ReadAt", "Size"}
	for i, name := range []string{"WriteAt", "Cut", "Next", "Sync"} {
		if can>>i&1 == 1 {
			names = append(names, name)
		}
	}
	slices.Sort(names)
	if got := methods(h.File()); h.Can() != can || !slices.Equal(got, names) {
		t.Errorf("it can %d, by %v, want %d", h.Can(), got, can)
	}
	for do, bit := range []uint8{0, 0, api.CanWrite, api.CanCut, api.CanHoles, api.CanSync} {
		told, fell := h.Must(api.Op{Do: int8(do), At: 6}) // a cut to the same size
		if fell != (can&bit != bit) || fell != (told.E == api.ErrCan) {
			t.Errorf("can %d: Must of %d tells %v, %v", can, do, told, fell)
		}
	}
}

// Over each of the sixteen sets it can what chapter 2's table tells, over a buffer too, and through Only: no holes; a Sync where there is one below or a write.
func TestP91Can(t *testing.T) {
	wants := [16]uint8{0, 9, 2, 11, 0, 9, 2, 11, 8, 9, 10, 11, 8, 9, 10, 11}
	for can := range uint8(16) {
		want, e := caps.Over(api.Wrap{Kind: api.WrapBuffer}, []uint8{can})
		if e != api.OK || want != wants[can] {
			t.Fatalf("the table tells %d of %d", want, can)
		}
		h := newBuffer(t, newFile(t, "abcdef", can), 1)
		wantCan(t, h, want)
		wantCan(t, newBuffer(t, h, 2), want)
		wantCan(t, newBuffer(t, newRefuser(t, "abcdef").handle(can), 65536), want) // its value can more than its handle
		for less := range uint8(16) {
			wantCan(t, h.Only(less), want&less)
			wantCan(t, newBuffer(t, newFile(t, "abcdef", 15).Only(can).Only(less), 0), wants[can&less])
		}
	}
}

// What it can't is refused, and comes to nothing: the file below is not asked, what is gathered stays gathered.
func TestP91Cannot(t *testing.T) {
	for can := range uint8(16) {
		r := newRefuser(t, "abcdef")
		h := newBuffer(t, r.handle(can), 9)
		book := &ledger{can: can}
		h.Do(api.Op{Do: api.DoWrite, At: 1, B: []byte("XY")})
		r.sizes, r.calls = 0, nil
		for do := int8(2); do < 6; do++ {
			op := api.Op{Do: do, At: 1, N: 1, B: []byte("z")}
			wantTold(t, h.Only(0), op, api.Told{E: api.ErrCan})
			if cannot(book.over(), op) != api.OK {
				wantTold(t, h, op, api.Told{E: api.ErrCan})
			}
		}
		for _, do := range []int8{-128, -1, 6, 127} {
			wantTold(t, h, api.Op{Do: do, B: []byte("z")}, api.Told{E: api.ErrArg})
		}
		r.wantUnasked(t)
		wantAll(t, r.all, "abcdef")
		if can&api.CanWrite != 0 {
			wantAll(t, h, "aXYdef")
		}
	}
}

// Each handle is one of its own, with nothing gathered at first.
func TestP91Apart(t *testing.T) {
	r := newRefuser(t, "abcdef")
	below := r.handle(15)
	g, h := newBuffer(t, below, 4), newBuffer(t, below, 4)
	if g == h || g == below || g.File() == h.File() || g.File() == below.File() {
		t.Error("two of them are the same")
	}
	wantAll(t, g, "abcdef")
	r.calls = nil
	wantSync(t, g, api.OK)
	r.wantCalls(t, "5 0 0 ")
	wantWrite(t, g, 0, "X", api.OK)
	wantAll(t, g, "Xbcdef")
	wantAll(t, h, "abcdef")
}

// Handles of one buffer that can unlike much gather together.
func TestP91Only(t *testing.T) {
	f := newFile(t, "abcdef", 15)
	h := newBuffer(t, f, 4)
	wantWrite(t, h.Only(api.CanWrite), 0, "X", api.OK)
	wantAll(t, h.Only(0), "Xbcdef")
	wantAll(t, f, "abcdef")
	wantSync(t, h.Only(api.CanSync), api.OK)
	wantAll(t, f, "Xbcdef")
}

// What is handed in is neither changed nor kept, be it gathered or handed on.
func TestNothingKept(t *testing.T) {
	for _, most := range []int{0, 2, 3, 65536} {
		for _, at := range []int64{0, 1, 3, 4, 6, 9} {
			f := newFile(t, "abcdef", 15)
			h := newBuffer(t, f, most)
			w, ok := h.File().(api.Writer)
			if !ok {
				t.Fatal("it can't be written")
			}
			room := []byte("vwxyz")
			if e := w.WriteAt(at, room[:3]); e != api.OK || string(room) != "vwxyz" {
				t.Fatalf("a write is refused, by %v, or changes its bytes: %q", e, room)
			}
			p := &paper{[]byte("abcdef"), make([]bool, 6)}
			p.write(at, []byte("vwx"))
			clear(room)
			wantAll(t, h, string(p.data))
			wantSync(t, h, api.OK)
			wantAll(t, f, string(p.data))
		}
	}
}

// What is handed out is new memory each time, with the room behind it.
func TestNewMemory(t *testing.T) {
	f := newFile(t, "abcdefghij", 15)
	h := newBuffer(t, f, 9)
	wantWrite(t, h, 2, "XYZ", api.OK)
	want := "abXYZfghij"
	for at := range 10 {
		for n := range 11 {
			one, _ := h.File().ReadAt(int64(at), n)
			two, _ := h.File().ReadAt(int64(at), n)
			clear(one[:cap(one)])
			if string(two) != want[at:min(at+n, 10)] {
				t.Errorf("two answers share memory: %q", two)
			}
			clear(two[:cap(two)])
			wantAll(t, h, want)
		}
	}
	wantSync(t, h, api.OK)
	wantAll(t, f, want)
}

// A file that hands out the same memory each time: an answer stays as it was.
func TestNewMemoryOverOdd(t *testing.T) {
	room := []byte("abcdef")
	o := &odd{size: func() int64 { return 6 }, read: func(at int64, n int) ([]byte, api.Errno) { return room, api.OK }}
	h := newBuffer(t, o.handle(), 4)
	for _, n := range []int{3, 6} {
		one, _ := h.File().ReadAt(0, n)
		wantWrite(t, h, 1, "X", api.OK)
		two, _ := h.File().ReadAt(0, n)
		clear(two[:cap(two)])
		clear(one[:cap(one)])
		if string(room) != "abcdef" {
			t.Fatalf("the file's bytes are %q", room)
		}
		wantRead(t, h, 0, n, "aXcdef"[:n])
	}
}

// A file that changes the bytes that it is handed: what it refuses stays gathered as it was.
func TestSpoiled(t *testing.T) {
	r := newRefuser(t, "abcdef")
	r.spoil = true
	h := newBuffer(t, r.handle(15), 6)
	wantWrite(t, h, 0, "12", api.OK)
	wantWrite(t, h, 2, "34", api.OK)
	for range 3 {
		r.refuseBehind(0, api.ErrQuota)
		wantSync(t, h, api.ErrQuota)
		wantAll(t, h, "1234ef")
	}
	r.refuseBehind(1, api.ErrQuota)
	wantSync(t, h, api.ErrQuota)
	wantAll(t, h, "1234ef")
	wantAll(t, r.all, "12cdef")
	r.no[api.DoWrite] = api.OK
	wantSync(t, h, api.OK)
	wantAll(t, r.all, "1234ef")
}
