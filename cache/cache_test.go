package cache_test

import (
	"bytes"
	"math"
	"reflect"
	"slices"
	"testing"

	"mantle/api"
	"mantle/cache"
	"mantle/caps"
	"mantle/face"
	"mantle/memory"
	"mantle/span"
)

func newFile(t *testing.T, b string, can uint8) *face.Handle {
	t.Helper()
	h, e := memory.New([]byte(b), can)
	if e != api.OK {
		t.Fatalf("a file of memory that can %d: %v", can, e)
	}
	return h
}

func fileOf(t *testing.T, s *span.Bytes, can uint8) *face.Handle {
	t.Helper()
	h, e := memory.Of(s, can)
	if e != api.OK {
		t.Fatalf("a file of memory that can %d: %v", can, e)
	}
	return h
}

func newCache(t *testing.T, below *face.Handle, blocks int) (*face.Handle, *cache.Cache) {
	t.Helper()
	h, c, e := cache.New(below, blocks)
	if e != api.OK || h == nil || c == nil {
		t.Fatalf("New of %d blocks answers %v, %v, %v", blocks, h, c, e)
	}
	return h, c
}

func sameTold(a, b api.Told) bool {
	return a.E == b.E && a.N == b.N && a.M == b.M && bytes.Equal(a.Data, b.Data)
}

func wantTold(t *testing.T, h *face.Handle, op api.Op, want api.Told) {
	t.Helper()
	if got := h.Do(op); !sameTold(got, want) {
		t.Errorf("Do %d at %d, %d, of %d bytes tells %v %d %d %.80q, want %v %d %d %.80q", op.Do, op.At, op.N, len(op.B), got.E, got.N, got.M, got.Data, want.E, want.N, want.M, want.Data)
	}
}

func wantSize(t *testing.T, h *face.Handle, want int64) {
	t.Helper()
	wantTold(t, h, api.Op{Do: api.DoSize}, api.Told{N: want})
}

func wantRead(t *testing.T, h *face.Handle, at int64, n int, want string) {
	t.Helper()
	wantTold(t, h, api.Op{Do: api.DoRead, At: at, N: n}, api.Told{Data: []byte(want)})
}

func wantNoRead(t *testing.T, h *face.Handle, at int64, n int, want api.Errno) {
	t.Helper()
	wantTold(t, h, api.Op{Do: api.DoRead, At: at, N: n}, api.Told{E: want})
}

func wantWrite(t *testing.T, h *face.Handle, at int64, b string, want api.Errno) {
	t.Helper()
	wantTold(t, h, api.Op{Do: api.DoWrite, At: at, B: []byte(b)}, api.Told{E: want})
}

func wantCut(t *testing.T, h *face.Handle, size int64, want api.Errno) {
	t.Helper()
	wantTold(t, h, api.Op{Do: api.DoCut, At: size}, api.Told{E: want})
}

func wantNext(t *testing.T, h *face.Handle, at, from, to int64) {
	t.Helper()
	wantTold(t, h, api.Op{Do: api.DoNext, At: at}, api.Told{N: from, M: to})
}

func wantSync(t *testing.T, h *face.Handle, want api.Errno) {
	t.Helper()
	wantTold(t, h, api.Op{Do: api.DoSync}, api.Told{E: want})
}

// wantKept holds all that a cache tells of itself.
func wantKept(t *testing.T, c *cache.Cache, hits, misses int, blocks ...int64) {
	t.Helper()
	if l := c.Blocks(); !slices.Equal(l, blocks) {
		t.Errorf("kept are %v, want %v", l, blocks)
	}
	if h, m := c.Hits(); h != hits || m != misses {
		t.Errorf("%d hits, %d misses, want %d and %d", h, m, hits, misses)
	}
}

func TestExamples(t *testing.T) {
	text := letters(200)
	f := newFile(t, text, 15)
	h, c := newCache(t, f, 2)
	wantRead(t, h, 0, 10, text[:10])
	wantKept(t, c, 0, 1, 0)
	wantRead(t, h, 60, 8, text[60:68])
	wantKept(t, c, 1, 2, 1, 0)
	wantRead(t, h, 130, 1, text[130:131])
	wantKept(t, c, 1, 3, 2, 1)
	wantWrite(t, h, 100, "x", api.OK)
	wantKept(t, c, 1, 3, 2)
	wantRead(t, h, 199, 5, text[199:])
	wantKept(t, c, 1, 4, 3, 2)
	wantRead(t, h, 200, 5, "")
	wantRead(t, h, 5, 0, "")
	wantKept(t, c, 1, 4, 3, 2)
	wantWrite(t, h, 300, "y", api.OK)
	wantKept(t, c, 1, 4, 2)
	for n, want := range map[int]api.Errno{0: api.ErrArg, 1025: api.ErrArg} {
		if h, c, e := cache.New(f, n); h != nil || c != nil || e != want {
			t.Errorf("New(h, %d) answers %v, %v, %v", n, h, c, e)
		}
	}
	if h, c, e := cache.New(nil, 0); h != nil || c != nil || e != api.ErrNil {
		t.Errorf("New(nil, 0) answers %v, %v, %v", h, c, e)
	}
}

// numbers are numbers of blocks that are let in, and such as are not.
func numbers() (right, wrong []int) {
	return []int{1, 2, 3, 63, 64, 1023, 1024}, []int{0, -1, 1025, 1026, -1024, 1 << 16, math.MinInt, math.MaxInt, 1<<32 + 1}
}

// A nil file, as a handle that there is not, or that New answered, is told ahead of a wrong number.
func TestP81Nil(t *testing.T) {
	refused, none, _ := cache.New(nil, 1)
	right, wrong := numbers()
	for _, below := range []*face.Handle{nil, {}, refused} {
		for _, n := range append(right, wrong...) {
			if h, c, e := cache.New(below, n); h != nil || c != nil || e != api.ErrNil {
				t.Errorf("New(nil, %d) answers %v, %v, %v", n, h, c, e)
			}
		}
	}
	for do := int8(-1); do < 7; do++ {
		wantTold(t, refused, api.Op{Do: do, N: 1}, api.Told{E: api.ErrNil})
		if told, fell := refused.Must(api.Op{Do: do}); told.E != api.ErrNil || fell {
			t.Errorf("Must of %d tells %v, %v", do, told, fell)
		}
	}
	wantKept(t, none, 0, 0)
}

func TestP81Numbers(t *testing.T) {
	right, wrong := numbers()
	r := newRefuser(t, letters(200))
	for _, n := range wrong {
		if h, c, e := cache.New(r.handle(15), n); h != nil || c != nil || e != api.ErrArg {
			t.Errorf("New(h, %d) answers %v, %v, %v", n, h, c, e)
		}
	}
	r.wantCalls(t)
	for _, n := range right {
		_, c := newCache(t, r.handle(15), n)
		wantKept(t, c, 0, 0)
	}
	r.wantCalls(t)
}

func methods(f api.File) []string {
	var l []string
	for m := range reflect.TypeOf(f).Methods() {
		l = append(l, m.Name)
	}
	return l
}

// wantCan asks a handle in all ways what it can.
func wantCan(t *testing.T, h *face.Handle, can uint8) {
	t.Helper()
	names := []string{"ReadAt", "Size"}
	for i, name := range []string{"WriteAt", "Cut", "Next", "Sync"} {
		if can>>i&1 == 1 {
			names = append(names, name)
		}
	}
	slices.Sort(names)
	if got := methods(h.File()); h.Can() != can || !slices.Equal(got, names) {
		t.Errorf("it can %d, by %v, want %d", h.Can(), got, can)
	}
	for do, bit := range []uint8{0, 0, api.CanWrite, api.CanCut, api.CanHoles, api.CanSync} {
		told, fell := h.Must(api.Op{Do: int8(do)})
		if fell != (can&bit != bit) || fell != (told.E == api.ErrCan) {
			t.Errorf("can %d: Must of %d tells %v, %v", can, do, told, fell)
		}
	}
}

// Over each of the sixteen sets it can what chapter 2's table tells, over a cache too, and through Only.
func TestP81Can(t *testing.T) {
	for can := range uint8(16) {
		want, e := caps.Over(api.Wrap{Kind: api.WrapCache}, []uint8{can})
		if e != api.OK || want != can {
			t.Fatalf("the table tells %d of %d", want, can)
		}
		h, _ := newCache(t, newFile(t, "abc", can), 1)
		wantCan(t, h, can)
		again, _ := newCache(t, h, 2)
		wantCan(t, again, can)
		r := newRefuser(t, "") // its value can more than its handle
		over, _ := newCache(t, r.handle(can), 1024)
		wantCan(t, over, can)
		for less := range uint8(16) {
			narrow, _ := newCache(t, h.Only(less), 1)
			wantCan(t, narrow, can&less)
			wantCan(t, h.Only(less), can&less)
		}
	}
}

// What it can't is refused, and comes to nothing: not to the file, not to the blocks.
func TestP81Cannot(t *testing.T) {
	for can := range uint8(16) {
		r := newRefuser(t, letters(200))
		h, c := newCache(t, r.handle(can), 4)
		wantRead(t, h, 0, 200, letters(200))
		r.calls = nil
		for do := int8(2); do < 6; do++ {
			op := api.Op{Do: do, At: 1, N: 1, B: []byte("x")}
			wantTold(t, h.Only(0), op, api.Told{E: api.ErrCan})
			if cannot(can, op) != api.OK {
				wantTold(t, h, op, api.Told{E: api.ErrCan})
			}
		}
		for _, do := range []int8{-128, -1, 6, 127} {
			wantTold(t, h, api.Op{Do: do, B: []byte("x")}, api.Told{E: api.ErrArg})
		}
		r.wantCalls(t)
		wantKept(t, c, 0, 4, 3, 2, 1, 0)
	}
}

// Each handle and each cache is one of its own; New asks nothing of the file.
func TestP81Apart(t *testing.T) {
	r := newRefuser(t, letters(200))
	below := r.handle(15)
	h, c := newCache(t, below, 2)
	g, d := newCache(t, below, 2)
	if h == g || h == below || h.File() == g.File() || h.File() == below.File() || c == d {
		t.Error("two of them are the same")
	}
	h.Can()
	r.wantCalls(t)
	wantRead(t, h, 0, 1, "!")
	wantKept(t, c, 0, 1, 0)
	wantKept(t, d, 0, 0)
}

// Size, Next and Sync are the file's: asked once, with the numbers as they are, told as they are, whatever is kept; no block is used.
func TestP81Passed(t *testing.T) {
	s, _ := patterned(200, 0b1101)
	r := newRefuser(t, "")
	r.all = fileOf(t, s, 15)
	h, c := newCache(t, r.handle(15), 2)
	h.Do(api.Op{Do: api.DoRead, N: 100})
	r.calls = nil
	for _, at := range []int64{math.MinInt64, -1, 0, 4, 5, 9, 20, 79, 80, 199, 200, 201, math.MaxInt64} {
		op := api.Op{Do: api.DoNext, At: at}
		wantTold(t, h, op, fileOf(t, s, 15).Do(op))
		r.wantCalls(t, call(op))
	}
	wantNext(t, h, 4, 4, 5)
	wantNext(t, h, 5, 10, 20)
	wantSize(t, h, 200)
	r.wantCalls(t, "4 4 0 ", "4 5 0 ", "0 0 0 ")
	s.Cut(7)
	wantSize(t, h, 7)
	wantNext(t, h, 5, 7, 7)
	for _, e := range append(errnos(), api.OK) {
		r.calls, r.no[api.DoSync] = nil, e
		wantSync(t, h, e)
		r.wantCalls(t, "5 0 0 ")
	}
	wantKept(t, c, 0, 2, 1, 0)
}

// A nil cache tells nothing, nor does one out of which nothing was read, nor one that no call made.
func TestP83NilCache(t *testing.T) {
	var none *cache.Cache
	wantKept(t, none, 0, 0)
	wantKept(t, new(cache.Cache), 0, 0)
	_, c := newCache(t, newFile(t, letters(200), 15), 4)
	wantKept(t, c, 0, 0)
}

// What is handed out is new memory each time, with the room behind it.
func TestNewMemory(t *testing.T) {
	text := letters(200)
	h, c := newCache(t, newFile(t, text, 15), 3)
	for _, x := range []struct {
		at int64
		n  int
	}{{0, 64}, {3, 9}, {60, 10}, {64, 64}, {130, 99}, {0, 200}} {
		want := text[x.at:min(int(x.at)+x.n, 200)]
		one, _ := h.File().ReadAt(x.at, x.n) // missed
		two, _ := h.File().ReadAt(x.at, x.n) // hit, as far as they are kept
		clear(one[:cap(one)])
		if string(two) != want {
			t.Errorf("two answers share memory: %q", two)
		}
		clear(two[:cap(two)])
		wantRead(t, h, x.at, x.n, want)
	}
	a, b := c.Blocks(), c.Blocks()
	for i := range a[:cap(a)] {
		a[:cap(a)][i] = 99
	}
	if !slices.Equal(b, []int64{3, 2, 1}) {
		t.Errorf("two answers share memory: %v", b)
	}
	h.Do(api.Op{Do: api.DoRead, N: 1})
	if !slices.Equal(b, []int64{3, 2, 1}) || !slices.Equal(c.Blocks(), []int64{0, 3, 2}) {
		t.Errorf("an answer shows what came behind it: %v", b)
	}
	room := []byte("vwxyz")
	w, ok := h.File().(api.Writer)
	if !ok || w.WriteAt(1, room[:3]) != api.OK || string(room) != "vwxyz" {
		t.Fatalf("a write failed, or changed its bytes: %q", room)
	}
	clear(room)
	wantRead(t, h, 0, 5, "!vwx%")
}
