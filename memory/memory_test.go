package memory_test

import (
	"bytes"
	"reflect"
	"slices"
	"testing"

	"mantle/api"
	"mantle/face"
	"mantle/memory"
	"mantle/span"
)

// letters are n bytes of which no two stretches of MaxText are alike.
func letters(n int) []byte {
	b := make([]byte, n)
	for i := range b {
		b[i] = byte(i%251 + i>>16)
	}
	return b
}

func newFile(t *testing.T, b []byte, can uint8) *face.Handle {
	t.Helper()
	h, e := memory.New(b, can)
	if e != api.OK || h == nil {
		t.Fatalf("New of %d bytes, %d answers %v, %v", len(b), can, h, e)
	}
	return h
}

func fileOf(t *testing.T, s *span.Bytes, can uint8) *face.Handle {
	t.Helper()
	h, e := memory.Of(s, can)
	if e != api.OK || h == nil {
		t.Fatalf("Of with %d answers %v, %v", can, h, e)
	}
	return h
}

func wantAll(t *testing.T, h *face.Handle, want []byte) {
	t.Helper()
	b, e := memory.All(h)
	if e != api.OK || !bytes.Equal(b, want) {
		t.Errorf("All answers %d bytes %.20q, %v, want %d bytes %.20q", len(b), b, e, len(want), want)
	}
}

// wantRefused: beside an error there is no handle.
func wantRefused(t *testing.T, call string, want api.Errno) func(h *face.Handle, e api.Errno) {
	return func(h *face.Handle, e api.Errno) {
		t.Helper()
		if h != nil || e != want {
			t.Errorf("%s answers %v, %v, want %v", call, h, e, want)
		}
	}
}

func wantTold(t *testing.T, h *face.Handle, op api.Op, want api.Told) {
	t.Helper()
	if got := h.Do(op); !sameTold(got, want) {
		t.Errorf("Do %d at %d, %d, of %d bytes tells %.50v, want %.50v", op.Do, op.At, op.N, len(op.B), got, want)
	}
}

func sameTold(a, b api.Told) bool {
	return a.E == b.E && a.N == b.N && a.M == b.M && bytes.Equal(a.Data, b.Data)
}

// state is all that can be told of bytes.
type state struct {
	size, held int64
	data       string
	stretches  []api.Stretch
}

func stateOf(s *span.Bytes) state {
	x := state{size: s.Size(), held: s.Held(), data: string(s.Get(0, api.MaxText))}
	for from, to := s.Next(0); from < to; from, to = s.Next(to) {
		x.stretches = append(x.stretches, api.Stretch{From: from, To: to})
	}
	return x
}

func (x state) same(y state) bool {
	return x.size == y.size && x.held == y.held && x.data == y.data && slices.Equal(x.stretches, y.stretches)
}

// holed is abc, a hole of two bytes, xy, a hole of three.
func holed() *span.Bytes {
	s := span.New([]byte("abc"))
	s.Put(5, []byte("xy"))
	s.Cut(10)
	return s
}

func TestExamples(t *testing.T) {
	h := newFile(t, []byte("abc"), 0)
	wantTold(t, h, api.Op{Do: api.DoRead, At: 1, N: 9}, api.Told{Data: []byte("bc")})
	wantTold(t, h, api.Op{Do: api.DoWrite, B: []byte("x")}, api.Told{E: api.ErrCan})
	if h.Can() != 0 {
		t.Errorf("it can %d", h.Can())
	}
	h = newFile(t, []byte("abc"), 15)
	wantTold(t, h, api.Op{Do: api.DoCut, At: 5}, api.Told{})
	wantAll(t, h, []byte("abc\x00\x00"))
	wantRefused(t, "New(none, 16)", api.ErrArg)(memory.New(nil, 16))
	wantRefused(t, "Of(nil, 0)", api.ErrNil)(memory.Of(nil, 0))
	wantRefused(t, "New of one more than MaxData bytes", api.ErrLong)(memory.New(make([]byte, 1<<22+1), 15))
	if b, e := memory.All(nil); b != nil || e != api.ErrNil {
		t.Errorf("All(nil) answers %q, %v", b, e)
	}
}

func TestP41Errors(t *testing.T) {
	long := make([]byte, api.MaxData+1)
	for can := range 256 {
		if can > 15 {
			wantRefused(t, "New(abc, above 15)", api.ErrArg)(memory.New([]byte("abc"), uint8(can)))
			wantRefused(t, "New(too long, above 15)", api.ErrArg)(memory.New(long, uint8(can)))
			continue
		}
		newFile(t, []byte("abc"), uint8(can))
		wantRefused(t, "New(too long, a set)", api.ErrLong)(memory.New(long, uint8(can)))
	}
}

// MaxData bytes are taken, all of them, and written.
func TestP41MaxData(t *testing.T) {
	b := letters(api.MaxData)
	h := newFile(t, b, 15)
	wantTold(t, h, api.Op{Do: api.DoSize}, api.Told{N: api.MaxData})
	wantTold(t, h, api.Op{Do: api.DoNext}, api.Told{M: api.MaxData})
	wantAll(t, h, b)
}

// Noughts are written as other bytes are; of no bytes there is no stretch.
func TestP41AllIsWritten(t *testing.T) {
	wantTold(t, newFile(t, make([]byte, 7), 4), api.Op{Do: api.DoNext, At: -3}, api.Told{M: 7})
	for _, none := range [][]byte{nil, {}} {
		h := newFile(t, none, 15)
		wantTold(t, h, api.Op{Do: api.DoNext}, api.Told{})
		wantTold(t, h, api.Op{Do: api.DoSize}, api.Told{})
		wantTold(t, h, api.Op{Do: api.DoRead, N: 9}, api.Told{})
		wantAll(t, h, nil)
	}
}

// The caller's bytes are neither changed nor kept, nor is the room behind them.
func TestP41BytesAreCopied(t *testing.T) {
	room := []byte("abcdefgh")
	h := newFile(t, room[:3], 15)
	h.Do(api.Op{Do: api.DoWrite, At: 1, B: []byte("XYZ")})
	h.Do(api.Op{Do: api.DoCut, At: 1 << 20})
	if string(room) != "abcdefgh" {
		t.Errorf("the caller's bytes are %q", room)
	}
	clear(room)
	wantTold(t, h, api.Op{Do: api.DoRead, N: 5}, api.Told{Data: []byte("aXYZ\x00")})
}

// Two files of the same bytes have nothing to do with each other.
func TestP41FilesApart(t *testing.T) {
	b := []byte("abc")
	one, two := newFile(t, b, 15), newFile(t, b, 15)
	if one == two || one.File() == two.File() {
		t.Error("two handles are the same")
	}
	one.Do(api.Op{Do: api.DoWrite, B: []byte("x")})
	two.Do(api.Op{Do: api.DoCut, At: 1})
	wantAll(t, one, []byte("xbc"))
	wantAll(t, two, []byte("a"))
}

func TestP42Errors(t *testing.T) {
	s := holed()
	was := stateOf(s)
	for can := range 256 {
		wantRefused(t, "Of(nil, ..)", api.ErrNil)(memory.Of(nil, uint8(can)))
		if can > 15 {
			wantRefused(t, "Of(s, above 15)", api.ErrArg)(memory.Of(s, uint8(can)))
		} else {
			fileOf(t, s, uint8(can))
		}
	}
	if !stateOf(s).same(was) {
		t.Errorf("Of changed the bytes: %v", stateOf(s))
	}
}

// A set's file is asked by assertion, by Can, and its methods are counted.
func TestP42CanJustThat(t *testing.T) {
	for can := range uint8(16) {
		for _, h := range []*face.Handle{newFile(t, []byte("abc"), can), fileOf(t, holed(), can)} {
			f, names := h.File(), []string{"ReadAt", "Size"}
			_, w := f.(api.Writer)
			_, c := f.(api.Cutter)
			_, n := f.(api.Holer)
			_, s := f.(api.Syncer)
			for i, is := range []bool{w, c, n, s} {
				if is != (can>>i&1 == 1) {
					t.Errorf("set %d: bit %d is asserted to be %v", can, i, is)
				}
				if is {
					names = append(names, [4]string{"WriteAt", "Cut", "Next", "Sync"}[i])
				}
			}
			if h.Can() != can {
				t.Errorf("set %d: Can tells %d", can, h.Can())
			}
			slices.Sort(names)
			if got := methods(f); !slices.Equal(got, names) {
				t.Errorf("set %d: its methods are %v", can, got)
			}
		}
	}
}

func methods(f api.File) []string {
	var l []string
	for m := range reflect.TypeOf(f).Methods() {
		l = append(l, m.Name)
	}
	return l
}

// full is a span that holds MaxData bytes, but for one.
func full() *span.Bytes { return span.New(make([]byte, api.MaxData-1)) }

// A Put's ErrLong is also MaxData's, and changes nothing.
func TestP42HeldBytes(t *testing.T) {
	s := full()
	h := fileOf(t, s, 15)
	wantTold(t, h, api.Op{Do: api.DoCut, At: api.MaxSize}, api.Told{})
	was := stateOf(s)
	wantTold(t, h, api.Op{Do: api.DoWrite, At: api.MaxSize - 2, B: []byte("ab")}, api.Told{E: api.ErrLong})
	wantTold(t, h, api.Op{Do: api.DoWrite, At: api.MaxData - 2, B: []byte("abc")}, api.Told{E: api.ErrLong})
	if !stateOf(s).same(was) {
		t.Error("a write that was refused changed something")
	}
	wantTold(t, h, api.Op{Do: api.DoWrite, At: api.MaxData - 2, B: []byte("ab")}, api.Told{})
	wantTold(t, h, api.Op{Do: api.DoWrite, At: 0, B: letters(api.MaxText)}, api.Told{})
	wantTold(t, h, api.Op{Do: api.DoWrite, At: api.MaxSize - 1, B: []byte("c")}, api.Told{E: api.ErrLong})
	wantTold(t, h, api.Op{Do: api.DoWrite, At: api.MaxSize - 1, B: nil}, api.Told{})
	s.Punch(7, 1)
	wantTold(t, h, api.Op{Do: api.DoWrite, At: api.MaxSize - 1, B: []byte("c")}, api.Told{})
	wantTold(t, h, api.Op{Do: api.DoNext, At: api.MaxData}, api.Told{N: api.MaxSize - 1, M: api.MaxSize})
	wantTold(t, h, api.Op{Do: api.DoCut, At: api.MaxSize - 1}, api.Told{})
	wantTold(t, h, api.Op{Do: api.DoWrite, At: 7, B: []byte("d")}, api.Told{})
	if s.Held() != api.MaxData {
		t.Errorf("%d bytes are held", s.Held())
	}
}

// Sync does nothing, whatever stands there.
func TestP42Sync(t *testing.T) {
	for _, s := range []*span.Bytes{span.New(nil), holed(), full()} {
		was := stateOf(s)
		wantTold(t, fileOf(t, s, api.CanSync), api.Op{Do: api.DoSync, At: 3, N: 4, B: []byte("x")}, api.Told{})
		if !stateOf(s).same(was) {
			t.Error("Sync changed something")
		}
	}
}

// What is told is new memory, spare room too; what is written is not kept.
func TestNewMemory(t *testing.T) {
	h := newFile(t, []byte("abcdefgh"), 1)
	for _, read := range []func() []byte{
		func() []byte { b, _ := h.File().ReadAt(1, 3); return b },
		func() []byte { b, _ := memory.All(h); return b },
	} {
		one, two := read(), read()
		kept := bytes.Clone(two)
		clear(one[:cap(one)])
		if !bytes.Equal(two, kept) {
			t.Error("two answers share memory")
		}
		wantAll(t, h, []byte("abcdefgh"))
	}
	room := []byte("XYZ")
	if w, ok := h.File().(api.Writer); !ok || w.WriteAt(1, room[:2]) != api.OK || string(room) != "XYZ" {
		t.Errorf("a write failed, or changed its bytes: %q", room)
	}
	clear(room)
	wantAll(t, h, []byte("aXYdefgh"))
}
