package cipher_test

import (
	"bytes"
	"reflect"
	"slices"
	"testing"

	"mantle/api"
	"mantle/caps"
	"mantle/cipher"
	"mantle/face"
	"mantle/memory"
	"mantle/span"
	"mantle/window"
)

func newFile(t *testing.T, b string, can uint8) *face.Handle {
	t.Helper()
	return fileOf(t, span.New([]byte(b)), can)
}

func fileOf(t *testing.T, s *span.Bytes, can uint8) *face.Handle {
	t.Helper()
	h, e := memory.Of(s, can)
	if e != api.OK {
		t.Fatalf("a file of memory that can %d: %v", can, e)
	}
	return h
}

func newCipher(t *testing.T, h *face.Handle, key uint64) *face.Handle {
	t.Helper()
	c, e := cipher.New(h, key)
	if e != api.OK || c == nil {
		t.Fatalf("New answers %v, %v", c, e)
	}
	return c
}

func sameTold(a, b api.Told) bool {
	return a.E == b.E && a.N == b.N && a.M == b.M && bytes.Equal(a.Data, b.Data)
}

func wantTold(t *testing.T, h *face.Handle, op api.Op, want api.Told) {
	t.Helper()
	if got := h.Do(op); !sameTold(got, want) {
		t.Errorf("Do %d at %d, %d, of %d bytes tells %v %d %d %.80x, want %v %d %d %.80x", op.Do, op.At, op.N, len(op.B), got.E, got.N, got.M, got.Data, want.E, want.N, want.M, want.Data)
	}
}

func wantSize(t *testing.T, h *face.Handle, want int64) {
	t.Helper()
	wantTold(t, h, api.Op{Do: api.DoSize}, api.Told{N: want})
}

func wantRead(t *testing.T, h *face.Handle, at int64, n int, want string) {
	t.Helper()
	wantTold(t, h, api.Op{Do: api.DoRead, At: at, N: n}, api.Told{Data: []byte(want)})
}

func wantNoRead(t *testing.T, h *face.Handle, at int64, n int, want api.Errno) {
	t.Helper()
	wantTold(t, h, api.Op{Do: api.DoRead, At: at, N: n}, api.Told{E: want})
}

func wantWrite(t *testing.T, h *face.Handle, at int64, b string, want api.Errno) {
	t.Helper()
	wantTold(t, h, api.Op{Do: api.DoWrite, At: at, B: []byte(b)}, api.Told{E: want})
}

func wantCut(t *testing.T, h *face.Handle, to int64, want api.Errno) {
	t.Helper()
	wantTold(t, h, api.Op{Do: api.DoCut, At: to}, api.Told{E: want})
}

func wantSync(t *testing.T, h *face.Handle, want api.Errno) {
	t.Helper()
	wantTold(t, h, api.Op{Do: api.DoSync}, api.Told{E: want})
}

// wantAll holds all bytes of a file, and its Size.
func wantAll(t *testing.T, h *face.Handle, want string) {
	t.Helper()
	for at := 0; at == 0 || at < len(want); at += api.MaxText {
		wantRead(t, h, int64(at), api.MaxText, want[at:min(at+api.MaxText, len(want))])
	}
	wantSize(t, h, int64(len(want)))
}

func TestExamples(t *testing.T) {
	if h, e := cipher.New(nil, 1); h != nil || e != api.ErrNil {
		t.Errorf("New(nil, 1) answers %v, %v", h, e)
	}
	f := newFile(t, "\x00\x00", 15)
	c := newCipher(t, f, 0)
	wantRead(t, c, 0, 9, "\xAF\xCD")
	wantWrite(t, c, 3, "\x05", api.OK)
	wantRead(t, f, 0, 9, "\x00\x00\x1D\x7E")
	wantRead(t, c, 0, 9, "\xAF\xCD\x00\x05")
	wantCut(t, c, 70000, api.ErrLong)
}

// The second one of the whole's examples.
func TestExampleOfTheWhole(t *testing.T) {
	c := newCipher(t, newFile(t, "abc", 15), 9)
	if caps.Text(c.Can()) != "write cut sync" {
		t.Errorf("it can %s", caps.Text(c.Can()))
	}
	if w, e := window.New(c, 1, 2); e != api.OK || caps.Text(w.Can()) != "write sync" {
		t.Errorf("a window over it can %s, %v", caps.Text(w.Can()), e)
	}
}

// A file that there is not: no handle, one of no parts, one that New refused.
func TestP122Nil(t *testing.T) {
	refused, _ := cipher.New(nil, 0)
	for _, key := range keys() {
		for _, none := range []*face.Handle{nil, {}, refused} {
			if h, e := cipher.New(none, key); h != nil || e != api.ErrNil {
				t.Errorf("New answers %v, %v", h, e)
			}
		}
	}
	for do := int8(-1); do < 7; do++ {
		wantTold(t, refused, api.Op{Do: do, N: 1}, api.Told{E: api.ErrNil})
		if told, fell := refused.Must(api.Op{Do: do}); told.E != api.ErrNil || fell {
			t.Errorf("Must of %d tells %v, %v", do, told, fell)
		}
	}
}

func methods(f api.File) []string {
	var l []string
	for m := range reflect.TypeOf(f).Methods() {
		l = append(l, m.Name)
	}
	return l
}

// wantCan asks a handle in all ways what it can.
func wantCan(t *testing.T, h *face.Handle, can uint8) {
	t.Helper()
	names := []string{"ReadAt", "Size"}
	for i, name := range []string{"WriteAt", "Cut", "Next", "Sync"} {
		if can>>i&1 == 1 {
			names = append(names, name)
		}
	}
	slices.Sort(names)
	if got := methods(h.File()); h.Can() != can || !slices.Equal(got, names) {
		t.Errorf("it can %d, by %v, want %d", h.Can(), got, can)
	}
	for do, bit := range []uint8{0, 0, api.CanWrite, api.CanCut, api.CanHoles, api.CanSync} {
		told, fell := h.Must(api.Op{Do: int8(do)})
		if fell != (can&bit != bit) || fell != (told.E == api.ErrCan) {
			t.Errorf("can %d: Must of %d tells %v, %v", can, do, told, fell)
		}
	}
}

// Over each of the sixteen sets it can what chapter 2's table tells: cut only where it can be written, too, and no holes.
func TestP122Can(t *testing.T) {
	for can := range uint8(16) {
		want, e := caps.Over(api.Wrap{Kind: api.WrapCipher}, []uint8{can})
		if e != api.OK || want != keeps(can) {
			t.Fatalf("the table tells %d of %d", want, can)
		}
		for _, key := range keys() {
			h := newCipher(t, newFile(t, "abc", can), key)
			wantCan(t, h, want)
			wantCan(t, newCipher(t, newFile(t, "", can), key), want)
			wantCan(t, newCipher(t, newCipher(t, newFile(t, "", can), 5), key), want)
			wantCan(t, newCipher(t, (&refuser{all: newFile(t, "", 15)}).handle(can), key), want) // its value can more than its handle
			for less := range uint8(16) {
				wantCan(t, h.Only(less), want&less)
				wantCan(t, newCipher(t, h.Only(less), key), keeps(want&less))
			}
		}
	}
}

// What it can't is refused, and comes to nothing: the file below is not asked.
func TestP122Cannot(t *testing.T) {
	for can := range uint8(16) {
		s := span.New([]byte("abc"))
		r, _ := watched(t, s, 3)
		h := newCipher(t, r.handle(can), 3)
		for do := int8(2); do < 6; do++ {
			for _, at := range []int64{-1, 0, 1, 3, 5, api.MaxSize + 1} {
				op := api.Op{Do: do, At: at, N: 1, B: []byte("z")}
				wantTold(t, h.Only(0), op, api.Told{E: api.ErrCan})
				if cannot(keeps(can), op) != api.OK {
					wantTold(t, h, op, api.Told{E: api.ErrCan})
				}
			}
		}
		for _, do := range []int8{-128, -1, 6, 127} {
			wantTold(t, h, api.Op{Do: do, B: []byte("z")}, api.Told{E: api.ErrArg})
		}
		r.wantUnasked(t)
		wantAll(t, r.all, "abc")
	}
}

// New asks nothing of the file; each handle is one of its own.
func TestP122Apart(t *testing.T) {
	r, g := watched(t, span.New([]byte("abc")), 7)
	below := r.handle(15)
	h, i := newCipher(t, below, 7), newCipher(t, below, 7)
	g.Can()
	r.wantUnasked(t)
	if h == i || h == below || h.File() == i.File() || h.File() == below.File() {
		t.Error("two of them are the same")
	}
}

// Two handles over one file below see what one of them writes, each by its own key; so do those that can less.
func TestShared(t *testing.T) {
	for _, key := range keys() {
		f := newFile(t, "", 15)
		g, h, other := newCipher(t, f, key), newCipher(t, f, key), newCipher(t, f, key+12345)
		wantWrite(t, g, 2, "cdef", api.OK)
		for _, x := range []*face.Handle{g, h, h.Only(0)} {
			wantAll(t, x, "\x00\x00cdef")
		}
		wantAll(t, f, string(turnedOf(key, 0, []byte("\x00\x00cdef"))))
		wantAll(t, other, string(turnedOf(key+12345, 0, turnedOf(key, 0, []byte("\x00\x00cdef")))))
		wantWrite(t, h.Only(api.CanWrite), 9, "XY", api.OK)
		wantAll(t, g, "\x00\x00cdef\x00\x00\x00XY")
		wantCut(t, g, 4, api.OK)
		wantCut(t, h, 5, api.OK)
		wantWrite(t, other, 0, "ab", api.OK)
		wantRead(t, other, 0, 2, "ab")
		wantRead(t, g, 2, 9, "cd\x00")
		wantAll(t, h, string(turnedOf(key, 0, f.Do(api.Op{Do: api.DoRead, N: 9}).Data)))
		wantWrite(t, f, 0, "\x00\x00\x00", api.OK)
		wantRead(t, g, 0, 3, string(streamOf(key, 0, 3)))
	}
}

// scratch is a file of one list of bytes, which it hands out as it is, and which keeps the very lists that it is handed.
type scratch struct {
	data []byte
	kept [][]byte
}

func (s *scratch) handle() *face.Handle {
	return (&odd{
		size: func() int64 { return int64(len(s.data)) },
		read: func(at int64, n int) ([]byte, api.Errno) {
			at = min(at, int64(len(s.data)))
			return s.data[at:min(at+int64(n), int64(len(s.data)))], api.OK
		},
		write: func(at int64, b []byte) api.Errno {
			s.kept = append(s.kept, b)
			return api.OK
		},
		cut: func(int64) api.Errno { return api.OK },
	}).handle()
}

// What the file below tells is turned in new memory: its own bytes, and those behind them, stay as they are.
func TestNewMemory(t *testing.T) {
	text := letters(40)
	for _, key := range keys() {
		s := &scratch{data: []byte(text)}
		f := newCipher(t, s.handle(), key).File()
		for at := range int64(42) {
			for _, n := range []int{0, 1, 5, 8, 39, 40, 41} {
				from, to := min(at, 40), min(at+int64(n), 40)
				one, e1 := f.ReadAt(at, n)
				two, e2 := f.ReadAt(at, n)
				for i := range one[:cap(one)] {
					one[:cap(one)][i] = 'x'
				}
				if e1 != api.OK || e2 != api.OK || !bytes.Equal(two, turnedOf(key, from, []byte(text[from:to]))) {
					t.Fatalf("at %d, %d: two answers share memory: %x", at, n, two)
				}
				if string(s.data) != text {
					t.Fatalf("at %d, %d: the file's own bytes are changed", at, n)
				}
			}
		}
	}
}

// What is handed in is neither changed nor kept, with the room behind it, wherever a write goes; nor has the file below what a later write changes.
func TestNothingKept(t *testing.T) {
	for _, at := range []int64{0, 1, 8, 37, 38, 40, 41, 48, 60} {
		s := &scratch{data: []byte(letters(40))}
		w, ok := newCipher(t, s.handle(), 6).File().(api.Writer)
		if !ok {
			t.Fatal("it can't be written")
		}
		room := []byte("uvwxyz")
		for range 2 {
			if e := w.WriteAt(at, room[1:4:5]); e != api.OK || string(room) != "uvwxyz" {
				t.Fatalf("a write is refused, by %v, or changes its bytes: %q", e, room)
			}
		}
		clear(room)
		from := min(at, 40)
		want := turnedOf(6, from, append(make([]byte, at-from), "vwx"...))
		for _, b := range s.kept {
			if !bytes.Equal(b, want) {
				t.Errorf("at %d: what was handed on has become %x, want %x", at, b, want)
			}
		}
		room = []byte("uvwxyz")
		w.WriteAt(at, room[1:4])
		for _, b := range s.kept[:1] {
			clear(b[:cap(b)]) // the file below may do so
		}
		if len(s.kept) != 3 || string(room) != "uvwxyz" || !bytes.Equal(s.kept[1], want) || !bytes.Equal(s.kept[2], want) {
			t.Errorf("at %d: two calls share memory", at)
		}
		for _, b := range s.kept {
			clear(b[:cap(b)])
		}
		if string(room) != "uvwxyz" {
			t.Errorf("at %d: the caller's bytes were handed on", at)
		}
	}
}

// All bytes of a file of many pieces, through memory.All.
func TestAllOfMany(t *testing.T) {
	text := []byte(letters(3*api.MaxText + 5))
	h := newCipher(t, fileOf(t, span.New(text), 0), 1<<63)
	if b, e := memory.All(h); e != api.OK || !bytes.Equal(b, turnedOf(1<<63, 0, text)) {
		t.Errorf("All answers %d bytes, %v", len(b), e)
	}
}
