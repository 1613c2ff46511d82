package tee_test

import (
	"bytes"
	"reflect"
	"slices"
	"testing"

	"mantle/api"
	"mantle/caps"
	"mantle/face"
	"mantle/memory"
	"mantle/span"
	"mantle/tee"
)

func newFile(t *testing.T, b string, can uint8) *face.Handle {
	t.Helper()
	h, e := memory.New([]byte(b), can)
	if e != api.OK {
		t.Fatalf("a file of memory that can %d: %v", can, e)
	}
	return h
}

func fileOf(t *testing.T, s *span.Bytes, can uint8) *face.Handle {
	t.Helper()
	h, e := memory.Of(s, can)
	if e != api.OK {
		t.Fatalf("a file of memory that can %d: %v", can, e)
	}
	return h
}

func newTee(t *testing.T, a, b *face.Handle) *face.Handle {
	t.Helper()
	h, e := tee.New(a, b)
	if e != api.OK || h == nil {
		t.Fatalf("New answers %v, %v", h, e)
	}
	return h
}

func sameTold(a, b api.Told) bool {
	return a.E == b.E && a.N == b.N && a.M == b.M && bytes.Equal(a.Data, b.Data)
}

func wantTold(t *testing.T, h *face.Handle, op api.Op, want api.Told) {
	t.Helper()
	if got := h.Do(op); !sameTold(got, want) {
		t.Errorf("Do %d at %d, %d, of %d bytes tells %.50v, want %.50v", op.Do, op.At, op.N, len(op.B), got, want)
	}
}

func wantSize(t *testing.T, h *face.Handle, want int64) {
	t.Helper()
	wantTold(t, h, api.Op{Do: api.DoSize}, api.Told{N: want})
}

func wantRead(t *testing.T, h *face.Handle, at int64, n int, want string) {
	t.Helper()
	wantTold(t, h, api.Op{Do: api.DoRead, At: at, N: n}, api.Told{Data: []byte(want)})
}

func wantWrite(t *testing.T, h *face.Handle, at int64, b string, want api.Errno) {
	t.Helper()
	wantTold(t, h, api.Op{Do: api.DoWrite, At: at, B: []byte(b)}, api.Told{E: want})
}

func wantCut(t *testing.T, h *face.Handle, size int64, want api.Errno) {
	t.Helper()
	wantTold(t, h, api.Op{Do: api.DoCut, At: size}, api.Told{E: want})
}

func wantNext(t *testing.T, h *face.Handle, at, from, to int64) {
	t.Helper()
	wantTold(t, h, api.Op{Do: api.DoNext, At: at}, api.Told{N: from, M: to})
}

func wantSync(t *testing.T, h *face.Handle, want api.Errno) {
	t.Helper()
	wantTold(t, h, api.Op{Do: api.DoSync}, api.Told{E: want})
}

// wantAll holds all bytes of files that are to be alike.
func wantAll(t *testing.T, want string, l ...*face.Handle) {
	t.Helper()
	for i, h := range l {
		if b, e := memory.All(h); e != api.OK || string(b) != want {
			t.Errorf("file %d is %q, %v, want %q", i, b, e, want)
		}
	}
}

func TestExamples(t *testing.T) {
	a, b := newFile(t, "abc", 15), newFile(t, "abc", 15)
	wantWrite(t, newTee(t, a, b), 2, "xy", api.OK)
	wantAll(t, "abxy", a, b)
	h := newTee(t, newFile(t, "abc", 15), newFile(t, "abc", 0))
	if h.Can() != api.CanHoles {
		t.Errorf("it can %d", h.Can())
	}
	wantWrite(t, h, 0, "x", api.ErrCan)
	if h, e := tee.New(a, nil); h != nil || e != api.ErrNil {
		t.Errorf("New(A, nil) answers %v, %v", h, e)
	}
	if h, l := tee.Watched(nil); h != nil || l != nil {
		t.Errorf("Watched(nil) answers %v, %v", h, l)
	}
	h, log := tee.Watched(newFile(t, "abc", 15))
	wantRead(t, h, 0, 2, "ab")
	wantCut(t, h, 1, api.OK)
	wantWrite(t, h, -1, "z", api.ErrArg)
	wantOps(t, log, api.Op{Do: api.DoRead, N: 2}, api.Op{Do: api.DoCut, At: 1}, api.Op{Do: api.DoWrite, At: -1, B: []byte("z")})
}

// Nil on either side, or on both, as a handle that there is not, or that New answered.
func TestP71Nil(t *testing.T) {
	r := newRefuser(t, "abc")
	asked := 0
	r.note = func(api.Op) { asked++ }
	refused, _ := tee.New(nil, nil)
	watched, _ := tee.Watched(nil)
	for _, none := range []*face.Handle{nil, {}, refused, watched} {
		for _, x := range [][2]*face.Handle{{none, r.handle(15)}, {r.handle(15), none}, {none, none}, {none, nil}, {nil, none}} {
			if h, e := tee.New(x[0], x[1]); h != nil || e != api.ErrNil {
				t.Errorf("New answers %v, %v", h, e)
			}
		}
	}
	if asked != 0 {
		t.Errorf("%d calls came to the file that is there", asked)
	}
	for do := int8(-1); do < 7; do++ {
		wantTold(t, refused, api.Op{Do: do, N: 1}, api.Told{E: api.ErrNil})
		if told, fell := refused.Must(api.Op{Do: do}); told.E != api.ErrNil || fell {
			t.Errorf("Must of %d tells %v, %v", do, told, fell)
		}
	}
}

func methods(f api.File) []string {
	var l []string
	for m := range reflect.TypeOf(f).Methods() {
		l = append(l, m.Name)
	}
	return l
}

// wantCan asks a handle in all ways what it can.
func wantCan(t *testing.T, h *face.Handle, can uint8) {
	t.Helper()
	names := []string{"ReadAt", "Size"}
	for i, name := range []string{"WriteAt", "Cut", "Next", "Sync"} {
		if can>>i&1 == 1 {
			names = append(names, name)
		}
	}
	slices.Sort(names)
	if got := methods(h.File()); h.Can() != can || !slices.Equal(got, names) {
		t.Errorf("it can %d, by %v, want %d", h.Can(), got, can)
	}
	for do, bit := range []uint8{0, 0, api.CanWrite, api.CanCut, api.CanHoles, api.CanSync} {
		told, fell := h.Must(api.Op{Do: int8(do)})
		if fell != (can&bit != bit) || fell != (told.E == api.ErrCan) {
			t.Errorf("can %d: Must of %d tells %v, %v", can, do, told, fell)
		}
	}
}

// over is what chapter 2's table tells of a tee of files of these sets.
func over(t *testing.T, a, b uint8) uint8 {
	t.Helper()
	can, e := caps.Over(api.Wrap{Kind: api.WrapTee}, []uint8{a, b})
	if e != api.OK {
		t.Fatal(e)
	}
	return can
}

// What it can is the table's, of all pairs of sets: holes are the first file's, all else both files'.
func TestP71Can(t *testing.T) {
	for a := range uint8(16) {
		for b := range uint8(16) {
			h := newTee(t, newFile(t, "abc", a), newFile(t, "de", b))
			wantCan(t, h, over(t, a, b))
			if want := a&b&11 | a&4; h.Can() != want {
				t.Errorf("a tee of %d and %d can %d, want %d", a, b, h.Can(), want)
			}
			for c := range uint8(16) {
				wantCan(t, newTee(t, h, newFile(t, "", c)), over(t, over(t, a, b), c))
				wantCan(t, newTee(t, newFile(t, "", c), h), over(t, c, over(t, a, b)))
				wantCan(t, h.Only(c), over(t, a, b)&c)
			}
		}
	}
}

// A mirror that can more adds nothing to what the first file can; one that can less takes away all but the holes.
func TestP71MirrorCanMoreOrLess(t *testing.T) {
	for can := range uint8(16) {
		wantCan(t, newTee(t, newFile(t, "", can), newFile(t, "", 15)), can)
		wantCan(t, newTee(t, newFile(t, "", 15), newFile(t, "", can)), can|api.CanHoles)
	}
	a, b, h, calls := two(t)
	a.refuseAll(api.ErrGone)
	b.refuseAll(api.ErrGone)
	for can := range uint8(16) {
		for i, x := range []*face.Handle{newTee(t, a.handle(can), b.handle(15)), newTee(t, a.handle(15), b.handle(can)), h.Only(can)} {
			*calls = nil
			for do := int8(0); do < 6; do++ {
				if cannot(x.Can(), api.Op{Do: do}) == api.ErrCan {
					wantTold(t, x, api.Op{Do: do, At: 1, N: 1, B: []byte("x")}, api.Told{E: api.ErrCan})
				}
			}
			if wantCalls(t, calls); t.Failed() {
				t.Fatalf("set %d, tee %d", can, i)
			}
		}
	}
}

// New asks nothing of the files; a tee is a handle of its own each time.
func TestP71NewAsksNothing(t *testing.T) {
	a, b, h, calls := two(t)
	x, y := a.handle(15), b.handle(15)
	l := []*face.Handle{x, y, h, newTee(t, x, y), newTee(t, x, y), newTee(t, y, x), newTee(t, x, x), newTee(t, h, h)}
	for _, h := range l {
		h.Can()
	}
	wantCalls(t, calls)
	for i, a := range l {
		for j, b := range l {
			if i != j && (a == b || a.File() == b.File()) {
				t.Errorf("the handles %d and %d are the same", i, j)
			}
		}
	}
}

// shelf is two files of memory, the tee over them, and what plain lists of bytes tell.
type shelf struct {
	spans [2]*span.Bytes
	files [2]*face.Handle
	tee   *face.Handle
	both  couple
}

// newShelf makes files of these sizes and sets; bits tell of each one's bytes which are written.
func newShelf(t *testing.T, sizes [2]int64, bits [2]int, cans [2]uint8) *shelf {
	t.Helper()
	x := &shelf{both: couple{can: over(t, cans[0], cans[1])}}
	x.spans[0], x.both.first = patterned('a', sizes[0], bits[0])
	x.spans[1], x.both.mirror = patterned('p', sizes[1], bits[1])
	for i, s := range x.spans {
		x.files[i] = fileOf(t, s, cans[i])
	}
	x.tee = newTee(t, x.files[0], x.files[1])
	return x
}

func (x *shelf) wantState(t *testing.T) {
	t.Helper()
	x.both.first.wantState(t, x.spans[0])
	x.both.mirror.wantState(t, x.spans[1])
}

// Each op at all bounds, over files of all pairs of sets, of unlike lengths.
func TestP71Rules(t *testing.T) {
	ops := edges()
	for a := range uint8(16) {
		for b := range uint8(16) {
			for _, sizes := range [][2]int64{{7, 7}, {7, 3}, {0, 5}} {
				x := newShelf(t, sizes, [2]int{0b1110011, 0b0101101}, [2]uint8{a, b})
				for _, op := range ops {
					wantTold(t, x.tee, op, x.both.do(op))
					x.wantState(t)
					if t.Failed() {
						t.Fatalf("sets %d and %d, sizes %v, Do %d at %d, %d, of %d bytes", a, b, sizes, op.Do, op.At, op.N, len(op.B))
					}
				}
			}
		}
	}
}

// All writes and cuts of few bytes, over files of unlike lengths: what is read is the first file's, what is changed stands in both.
func TestP71AllWritesAndCuts(t *testing.T) {
	for _, sizes := range [][2]int64{{0, 0}, {0, 4}, {4, 0}, {4, 4}, {2, 5}, {5, 2}} {
		for at := int64(-1); at < 8; at++ {
			var ops []api.Op
			for n := range 5 {
				ops = append(ops, api.Op{Do: api.DoWrite, At: at, B: []byte("WXYZ")[:n]})
			}
			for _, op := range append(ops, api.Op{Do: api.DoCut, At: at}) {
				x := newShelf(t, sizes, [2]int{0b10110, 0b01101}, [2]uint8{15, 15})
				wantTold(t, x.tee, op, x.both.do(op))
				x.wantState(t)
				wantTold(t, x.tee, api.Op{}, x.both.do(api.Op{}))
				for p := int64(-1); p < 10; p++ {
					for _, look := range []api.Op{{Do: api.DoNext, At: p}, {Do: api.DoRead, At: p, N: 3}} {
						wantTold(t, x.tee, look, x.both.do(look))
					}
				}
				if t.Failed() {
					t.Fatalf("sizes %v, Do %d at %d of %d bytes", sizes, op.Do, at, len(op.B))
				}
			}
		}
	}
}

// The bounds of the file's rules are taken, one past them is not, and then neither file is changed.
func TestP71Bounds(t *testing.T) {
	a, b := newFile(t, "abc", 15), newFile(t, "abc", 15)
	h := newTee(t, a, b)
	most := bytes.Repeat([]byte("m"), api.MaxText)
	wantTold(t, h, api.Op{Do: api.DoWrite, B: append(most, 'm')}, api.Told{E: api.ErrLong})
	wantWrite(t, h, api.MaxSize, "x", api.ErrLong)
	wantWrite(t, h, api.MaxSize+1, "", api.ErrLong)
	wantCut(t, h, api.MaxSize+1, api.ErrLong)
	wantTold(t, h, api.Op{Do: api.DoRead, N: api.MaxText + 1}, api.Told{E: api.ErrLong})
	wantAll(t, "abc", h, a, b)
	wantTold(t, h, api.Op{Do: api.DoWrite, B: most}, api.Told{})
	wantTold(t, h, api.Op{Do: api.DoRead, N: api.MaxText}, api.Told{Data: most})
	wantAll(t, string(most), h, a, b)
	wantWrite(t, h, api.MaxSize, "", api.OK)
	wantSize(t, h, api.MaxText)
	wantCut(t, h, 2, api.OK)
	wantWrite(t, h, api.MaxSize-1, "x", api.OK)
	for _, f := range []*face.Handle{h, a, b} {
		wantSize(t, f, api.MaxSize)
		wantRead(t, f, api.MaxSize-2, 9, "\x00x")
		wantNext(t, f, 2, api.MaxSize-1, api.MaxSize)
	}
	wantCut(t, h, api.MaxSize, api.OK)
	wantCut(t, h, 0, api.OK)
	wantAll(t, "", h, a, b)
}

// Holes that only the first file tells are told; those that only the mirror tells are not.
func TestP71Holes(t *testing.T) {
	for _, cans := range [][2]uint8{{15, 11}, {11, 15}, {15, 15}, {4, 0}, {0, 4}} {
		x := newShelf(t, [2]int64{7, 7}, [2]int{0b1110011, 0b0001100}, cans)
		for p := int64(-2); p < 9; p++ {
			op := api.Op{Do: api.DoNext, At: p}
			told, fell := x.tee.Must(op)
			if want := cans[0]&api.CanHoles == 0; fell != want || fell != (told.E == api.ErrCan) {
				t.Errorf("sets %v: Must tells %v, %v", cans, told, fell)
			}
			wantTold(t, x.tee, op, x.files[0].Do(op))
		}
	}
	x := newShelf(t, [2]int64{7, 0}, [2]int{0b1110011, 0}, [2]uint8{15, 15})
	wantNext(t, x.tee, 0, 0, 2)
	wantNext(t, x.tee, 2, 4, 7)
	wantWrite(t, x.tee, 3, "-", api.OK)
	wantNext(t, x.tee, 2, 3, 7)
	wantNext(t, x.files[1], 0, 3, 4)
	wantCut(t, x.tee, 9, api.OK)
	wantNext(t, x.tee, 7, 9, 9)
	wantNext(t, x.files[1], 4, 9, 9)
}

// What each call asks: of the first file alone what is told, of the mirror and then of the first file what is changed; once, with the numbers as they are.
func TestP71Asked(t *testing.T) {
	_, _, h, calls := two(t)
	wantSize(t, h, 3)
	wantCalls(t, calls, "a 0 0 0 ")
	wantRead(t, h, 1, 9, "bc")
	wantCalls(t, calls, "a 1 1 9 ")
	wantRead(t, h, 1<<62, 0, "")
	wantCalls(t, calls, "a 1 4611686018427387904 0 ")
	wantNext(t, h, 1, 1, 3)
	wantNext(t, h, -5, 0, 3)
	wantCalls(t, calls, "a 4 1 0 ", "a 4 -5 0 ")
	wantWrite(t, h, 4, "xy", api.OK)
	wantCalls(t, calls, "b 2 4 0 xy", "a 2 4 0 xy")
	wantWrite(t, h, 9, "", api.OK)
	wantCalls(t, calls, "b 2 9 0 ", "a 2 9 0 ")
	wantCut(t, h, 5, api.OK)
	wantCalls(t, calls, "b 3 5 0 ", "a 3 5 0 ")
	wantSync(t, h, api.OK)
	wantCalls(t, calls, "b 5 0 0 ", "a 5 0 0 ")
	wantTold(t, h, api.Op{Do: 6}, api.Told{E: api.ErrArg})
	wantCalls(t, calls)
}

// changes are the three ops that go to both files.
func changes() []api.Op {
	return []api.Op{{Do: api.DoWrite, At: 1, B: []byte("xyz")}, {Do: api.DoCut, At: 1}, {Do: api.DoSync}, {Do: api.DoWrite, At: 2}, {Do: api.DoCut, At: 9}}
}

// What the mirror refuses is not asked of the first file, and is told as it is.
func TestP71MirrorRefuses(t *testing.T) {
	for _, op := range changes() {
		for _, e := range errnos() {
			a, b, h, calls := two(t)
			b.no[op.Do] = e
			wantTold(t, h, op, api.Told{E: e})
			wantCalls(t, calls, call("b", op))
			wantRead(t, h, 0, 9, "abc")
			wantSize(t, h, 3)
			wantAll(t, "abc", a.all)
			wantAll(t, "de", b.all)
			a.no[op.Do] = api.ErrLock // of both errors the mirror's is told
			wantTold(t, h, op, api.Told{E: e})
			a.no[op.Do], b.no[op.Do] = api.OK, api.OK
			wantTold(t, h, op, api.Told{})
		}
	}
}

// What only the first file refuses the mirror has done: it is one call ahead, and what is read is as it was.
func TestP71FirstRefuses(t *testing.T) {
	for i, op := range changes() {
		for _, e := range errnos() {
			a, b, h, calls := two(t)
			a.no[op.Do] = e
			wantTold(t, h, op, api.Told{E: e})
			wantCalls(t, calls, call("b", op), call("a", op))
			wantRead(t, h, 0, 9, "abc")
			wantSize(t, h, 3)
			wantNext(t, h, 0, 0, 3)
			wantAll(t, "abc", a.all)
			wantAll(t, []string{"dxyz", "d", "de", "de", "de\x00\x00\x00\x00\x00\x00\x00"}[i], b.all)
			a.no[op.Do] = api.OK
			wantTold(t, h, op, api.Told{})
			wantAll(t, []string{"axyz", "a", "abc", "abc", "abc\x00\x00\x00\x00\x00\x00"}[i], a.all, h)
		}
	}
}

// A read that the first file refuses is refused, with nothing beside the error; the mirror is not read in its place.
func TestP71ReadRefused(t *testing.T) {
	for _, e := range errnos() {
		a, b, h, calls := two(t)
		a.no[api.DoRead], a.data = e, []byte("beside")
		wantTold(t, h, api.Op{Do: api.DoRead, N: 2}, api.Told{E: e})
		wantCalls(t, calls, "a 1 0 2 ")
		if b, _ := h.File().ReadAt(0, 9); len(b) != 0 {
			t.Errorf("%q is told beside an error", b)
		}
		a.no[api.DoRead], b.no[api.DoRead] = api.OK, e
		wantRead(t, h, 0, 9, "abc")
	}
}

// What the file's rules refuse comes to neither file, and is asked ahead of what they refuse.
func TestP71OwnErrorsFirst(t *testing.T) {
	a, b, h, calls := two(t)
	a.refuseAll(api.ErrGone)
	b.refuseAll(api.ErrSum)
	n := 0
	for _, op := range edges() {
		if op.Do < 0 || op.Do > 5 {
			wantTold(t, h, op, api.Told{E: api.ErrArg})
		} else if e := refuses(op); e != api.OK {
			wantTold(t, h, op, api.Told{E: e})
			n++
		}
	}
	wantTold(t, h, api.Op{Do: api.DoWrite, At: -1, B: make([]byte, api.MaxText+1)}, api.Told{E: api.ErrArg})
	wantTold(t, h, api.Op{Do: api.DoRead, At: -1, N: api.MaxText + 1}, api.Told{E: api.ErrArg})
	if wantCalls(t, calls); n < 100 {
		t.Errorf("only %d ops are refused", n)
	}
}

// Files that hold as many bytes as they may refuse more: as the mirror, ahead of the first file; as the first file, behind the mirror.
func TestP71HeldBytes(t *testing.T) {
	full := fileOf(t, span.New(make([]byte, api.MaxData)), 15)
	a := newFile(t, "abc", 15)
	wantWrite(t, newTee(t, a, full), api.MaxData, "x", api.ErrLong)
	wantAll(t, "abc", a)
	wantWrite(t, newTee(t, full, a), api.MaxData, "x", api.ErrLong)
	wantSize(t, full, api.MaxData)
	wantSize(t, a, api.MaxData+1)
	wantWrite(t, newTee(t, full, a), 1, "y", api.OK)
	wantRead(t, full, 0, 3, "\x00y\x00")
	wantRead(t, a, 0, 3, "ayc")
}

// The same file on both sides: by one handle, by two over the same bytes, by a tee of itself.
func TestP71SameFile(t *testing.T) {
	s := span.New([]byte("abc"))
	one, other := fileOf(t, s, 15), fileOf(t, s, 15)
	for _, h := range []*face.Handle{newTee(t, one, one), newTee(t, one, other), newTee(t, newTee(t, one, one), other), newTee(t, one, newTee(t, one, one))} {
		wantCan(t, h.Only(13), 13)
		wantCut(t, h, 3, api.OK)
		wantWrite(t, h, 0, "abc", api.OK)
		wantWrite(t, h, 4, "xy", api.OK)
		wantAll(t, "abc\x00xy", h, one)
		wantNext(t, h, 3, 4, 6)
		wantCut(t, h, 1, api.OK)
		wantAll(t, "a", h, one)
		wantSync(t, h, api.OK)
		wantWrite(t, h, -1, "z", api.ErrArg)
		wantAll(t, "a", h, one)
	}
	r := newRefuser(t, "abc")
	n := 0
	r.note = func(api.Op) { n++ }
	h := newTee(t, r.handle(15), r.handle(15))
	for _, op := range changes() {
		n = 0
		if wantTold(t, h, op, api.Told{}); n != 2 {
			t.Errorf("Do %d came to the file %d times", op.Do, n)
		}
	}
}

// Each of the six ops through tees and beside them, over files of all sets: all tell of the same bytes.
func TestP71Beside(t *testing.T) {
	c := chance(7)
	for range 150 {
		var spans []*span.Bytes
		var papers []*paper
		for i := range 3 {
			s, p := patterned(byte('a'+7*i), int64(c.below(7)), c.below(128))
			spans, papers = append(spans, s), append(papers, p)
		}
		var hands []*face.Handle
		var tells []func(op api.Op) api.Told
		for range 4 {
			i, can := c.below(3), uint8(c.below(16))
			hands = append(hands, fileOf(t, spans[i], can))
			tells = append(tells, func(op api.Op) api.Told { return papers[i].do(can, op) })
		}
		for range 4 { // tees of any two of the files, the same one twice, too
			i, j, a, b := c.below(3), c.below(3), uint8(c.below(16)|1), uint8(c.below(16)|3)
			hands = append(hands, newTee(t, fileOf(t, spans[i], a), fileOf(t, spans[j], b)))
			tells = append(tells, couple{papers[i], papers[j], over(t, a, b)}.do)
		}
		for range 150 {
			k, op := c.below(len(hands)), c.op()
			wantTold(t, hands[k], op, tells[k](op))
			for i, s := range spans {
				papers[i].wantState(t, s)
			}
			if t.Failed() {
				t.Fatalf("%+v through %d", op, k)
			}
		}
	}
}

// What is written is neither changed nor kept, and what is read is new memory.
func TestP71Memory(t *testing.T) {
	a, b := newFile(t, "abcde", 15), newFile(t, "abcde", 15)
	h := newTee(t, a, b)
	room := []byte("vwxyz")
	w, ok := h.File().(api.Writer)
	if !ok || w.WriteAt(1, room[:3]) != api.OK || string(room) != "vwxyz" {
		t.Fatalf("a write failed, or changed its bytes: %q", room)
	}
	clear(room)
	wantAll(t, "avwxe", a, b, h)
	one, _ := h.File().ReadAt(0, 5)
	two, _ := h.File().ReadAt(0, 5)
	clear(one[:cap(one)])
	if string(two) != "avwxe" {
		t.Errorf("two answers share memory: %q", two)
	}
	wantAll(t, "avwxe", a, b, h)
}

// greedy is a file that changes the bytes that it gets, and the room behind them.
type greedy struct{ refuser }

func (g *greedy) WriteAt(at int64, b []byte) api.Errno {
	clear(b)
	_ = append(b, '#')
	return api.OK
}

// A mirror that spoils the bytes that it gets spoils neither the first file's nor the caller's.
func TestP71BytesOfTheMirror(t *testing.T) {
	a, g := newFile(t, "abcde", 15), &greedy{*newRefuser(t, "abcde")}
	w, ok := newTee(t, a, face.Make(g, g, g, g, g)).File().(api.Writer)
	room := []byte("vwxyz")
	if !ok || w.WriteAt(1, room[:3]) != api.OK || string(room) != "vwxyz" {
		t.Fatalf("a write failed, or changed its bytes: %q", room)
	}
	wantAll(t, "avwxe", a)
}

// Tees of tees: what is changed comes to all files, the mirrors' first; and tees that stand deep.
func TestP71TeeOfTees(t *testing.T) {
	var l []*refuser
	var order []int
	for i := range 4 {
		r := newRefuser(t, "abc")
		r.note = func(op api.Op) { order = append(order, i) }
		l = append(l, r)
	}
	h := newTee(t, newTee(t, l[0].handle(15), l[1].handle(15)), newTee(t, l[2].handle(15), l[3].handle(15)))
	for _, x := range []struct {
		no   int
		want []int
	}{{-1, []int{3, 2, 1, 0}}, {0, []int{3, 2, 1, 0}}, {1, []int{3, 2, 1}}, {2, []int{3, 2}}, {3, []int{3}}} {
		for _, op := range changes() {
			e := api.OK
			if x.no >= 0 {
				e = api.ErrGone
				l[x.no].no[op.Do] = e
			}
			order = nil
			wantTold(t, h, op, api.Told{E: e})
			if !slices.Equal(order, x.want) {
				t.Errorf("the files were asked in the order %v, want %v", order, x.want)
			}
			if x.no >= 0 {
				l[x.no].no[op.Do] = api.OK
			}
		}
	}
	deep, first := newFile(t, "abc", 15), newFile(t, "abc", 15)
	all := []*face.Handle{deep, first}
	deep = newTee(t, first, deep)
	for i := range 300 {
		f := newFile(t, "abc", 15)
		all = append(all, f)
		if i%2 == 0 {
			deep = newTee(t, deep, f)
		} else {
			deep = newTee(t, f, deep)
		}
	}
	wantCan(t, deep.Only(13), 13)
	wantWrite(t, deep, 0, "abc", api.OK)
	wantWrite(t, deep, 2, "xy", api.OK)
	wantCut(t, deep, 5, api.OK)
	wantAll(t, "abxy\x00", append(all, deep)...)
}

// If both files read alike, and all that is done goes through the tee and is answered OK, they read alike behind each call.
func TestP74Alike(t *testing.T) {
	c := chance(74)
	for range 200 {
		size, bits := int64(c.below(8)), c.below(256)
		cans := [2]uint8{uint8(c.below(16) | 3), uint8(c.below(16) | 3)}
		s, _ := patterned('a', size, bits)
		text := string(s.Get(0, 99))
		a, b := fileOf(t, s, cans[0]), newFile(t, text, cans[1]) // where one has holes, the other one has noughts
		h := newTee(t, a, b)
		other := newTee(t, a, b)
		for range 60 {
			op := c.op()
			if c.below(2) == 0 {
				op.Do = int8(api.DoWrite + c.below(2))
			}
			if told := []*face.Handle{h, other}[c.below(2)].Do(op); told.E != api.OK {
				if now, _ := memory.All(h); string(now) != text {
					t.Fatalf("%+v is refused by %v, and made %q of %q", op, told.E, now, text)
				}
			}
			now, _ := memory.All(a)
			text = string(now)
			wantAll(t, text, b, h, other)
			wantSize(t, b, a.Do(api.Op{}).N)
			if t.Failed() {
				t.Fatalf("behind %+v", op)
			}
		}
	}
}
