package join_test

import (
	"bytes"
	"math"
	"reflect"
	"slices"
	"testing"

	"mantle/api"
	"mantle/caps"
	"mantle/face"
	"mantle/join"
	"mantle/memory"
	"mantle/span"
)

func newFile(t *testing.T, b string, can uint8) *face.Handle {
	t.Helper()
	h, e := memory.New([]byte(b), can)
	if e != api.OK {
		t.Fatalf("a file of memory that can %d: %v", can, e)
	}
	return h
}

func fileOf(t *testing.T, s *span.Bytes, can uint8) *face.Handle {
	t.Helper()
	h, e := memory.Of(s, can)
	if e != api.OK {
		t.Fatalf("a file of memory that can %d: %v", can, e)
	}
	return h
}

// sized is a file that is one hole.
func sized(t *testing.T, size int64) *face.Handle {
	t.Helper()
	h := newFile(t, "", 15)
	wantTold(t, h, api.Op{Do: api.DoCut, At: size}, api.Told{})
	return h
}

func newJoin(t *testing.T, l ...*face.Handle) *face.Handle {
	t.Helper()
	j, e := join.New(l)
	if e != api.OK || j == nil {
		t.Fatalf("New of %d files answers %v, %v", len(l), j, e)
	}
	return j
}

func sameTold(a, b api.Told) bool {
	return a.E == b.E && a.N == b.N && a.M == b.M && bytes.Equal(a.Data, b.Data)
}

func wantTold(t *testing.T, h *face.Handle, op api.Op, want api.Told) {
	t.Helper()
	if got := h.Do(op); !sameTold(got, want) {
		t.Errorf("Do %d at %d, %d, of %d bytes tells %.50v, want %.50v", op.Do, op.At, op.N, len(op.B), got, want)
	}
}

func wantSize(t *testing.T, h *face.Handle, want int64) {
	t.Helper()
	wantTold(t, h, api.Op{Do: api.DoSize}, api.Told{N: want})
}

func wantRead(t *testing.T, h *face.Handle, at int64, n int, want string) {
	t.Helper()
	wantTold(t, h, api.Op{Do: api.DoRead, At: at, N: n}, api.Told{Data: []byte(want)})
}

func wantWrite(t *testing.T, h *face.Handle, at int64, b string, want api.Errno) {
	t.Helper()
	wantTold(t, h, api.Op{Do: api.DoWrite, At: at, B: []byte(b)}, api.Told{E: want})
}

func wantNext(t *testing.T, h *face.Handle, at, from, to int64) {
	t.Helper()
	wantTold(t, h, api.Op{Do: api.DoNext, At: at}, api.Told{N: from, M: to})
}

// wantError holds that New refuses the list, and answers nothing else.
func wantError(t *testing.T, l []*face.Handle, want api.Errno) {
	t.Helper()
	if j, e := join.New(l); j != nil || e != want {
		t.Errorf("New of %d files answers %v, %v, want %v", len(l), j, e, want)
	}
}

func TestExamples(t *testing.T) {
	a, b := newFile(t, "abc", 15), newFile(t, "de", 15)
	wantError(t, nil, api.ErrArg)
	wantError(t, []*face.Handle{a, nil}, api.ErrNil)
	j := newJoin(t, a, b)
	if j.Can() != 13 {
		t.Errorf("a join can %d", j.Can())
	}
	wantSize(t, j, 5)
	wantRead(t, j, 1, 3, "bcd")
	wantRead(t, j, 5, 1, "")
	wantRead(t, j, 9, 1, "")
	wantWrite(t, j, 2, "XY", api.OK)
	wantRead(t, a, 0, 9, "abX")
	wantRead(t, b, 0, 9, "Ye")
	wantWrite(t, j, 4, "12", api.ErrLong)
	wantRead(t, j, 0, 9, "abXYe")
	wantRead(t, b, 0, 9, "Ye")
	wantNext(t, j, 0, 0, 5)
	wantWrite(t, newJoin(t, a, a), 0, "123456", api.OK)
	wantRead(t, a, 0, 9, "456")
}

// many is that many handles, all the same one.
func many(h *face.Handle, n int) []*face.Handle { return slices.Repeat([]*face.Handle{h}, n) }

func TestP61Errors(t *testing.T) {
	h, big := newFile(t, "ab", 15), sized(t, api.MaxSize)
	wantError(t, nil, api.ErrArg)
	wantError(t, []*face.Handle{}, api.ErrArg)
	wantError(t, many(h, 9)[:0], api.ErrArg)
	wantSize(t, newJoin(t, h), 2)
	wantSize(t, newJoin(t, many(h, api.MaxParts)...), 2*api.MaxParts)
	for _, n := range []int{api.MaxParts + 1, api.MaxParts + 2, 1000} {
		wantError(t, many(h, n), api.ErrLong)
		wantError(t, many(nil, n), api.ErrLong) // ahead of ErrNil
		wantError(t, append(many(h, n-1), nil), api.ErrLong)
		wantError(t, append(many(nil, 1), many(h, n-1)...), api.ErrLong)
	}
	for _, none := range []*face.Handle{nil, {}} {
		wantError(t, many(none, 1), api.ErrNil)
		wantError(t, many(none, api.MaxParts), api.ErrNil)
		for _, n := range []int{1, 2, 3, api.MaxParts} {
			for at := range n {
				l := many(h, n)
				l[at] = none
				wantError(t, l, api.ErrNil)
			}
		}
		wantError(t, []*face.Handle{big, big, none}, api.ErrNil) // ahead of the Sizes' ErrLong
		wantError(t, []*face.Handle{none, big, big}, api.ErrNil)
		wantError(t, []*face.Handle{big, none, h}, api.ErrNil)
	}
	wantRead(t, h, 0, 9, "ab")
}

// Sizes that together are MaxSize are taken, one more is not, however they are parted.
func TestP61Sizes(t *testing.T) {
	none := newFile(t, "", 15)
	for _, x := range [][]int64{
		{api.MaxSize}, {api.MaxSize, 0}, {0, api.MaxSize}, {0, api.MaxSize, 0}, {api.MaxSize - 1, 1}, {1, api.MaxSize - 1},
		{api.MaxSize / 2, api.MaxSize / 2}, {api.MaxSize / 2, 0, api.MaxSize/2 - 1, 1}, {1, 1, api.MaxSize - 2},
	} {
		var l []*face.Handle
		for _, size := range x {
			l = append(l, sized(t, size))
		}
		wantSize(t, newJoin(t, l...), api.MaxSize)
		wantSize(t, newJoin(t, append(l, none)...), api.MaxSize)
		one := newFile(t, "x", 0)
		wantError(t, append(slices.Clone(l), one), api.ErrLong)
		wantError(t, append([]*face.Handle{one}, l...), api.ErrLong)
		wantError(t, append(slices.Clone(l), none, one, none), api.ErrLong)
	}
	wantError(t, many(sized(t, api.MaxSize), api.MaxParts), api.ErrLong)
	wantError(t, many(sized(t, api.MaxSize/api.MaxParts+1), api.MaxParts), api.ErrLong)
	wantSize(t, newJoin(t, many(sized(t, api.MaxSize/api.MaxParts), api.MaxParts)...), api.MaxSize)
}

// New asks nothing of the parts but their Sizes.
func TestP61Asked(t *testing.T) {
	a, b := newRefuser(t, "abc"), newRefuser(t, "de")
	newJoin(t, a.handle(15), b.handle(15))
	for _, r := range []*refuser{a, b} {
		if len(r.calls) != len(r.asked(api.DoSize)) {
			t.Errorf("it was asked %v", r.calls)
		}
	}
	wantError(t, []*face.Handle{a.handle(15), sized(t, api.MaxSize)}, api.ErrLong)
	if len(a.calls) != len(a.asked(api.DoSize)) {
		t.Errorf("it was asked %v", a.calls)
	}
}

func methods(f api.File) []string {
	var l []string
	for m := range reflect.TypeOf(f).Methods() {
		l = append(l, m.Name)
	}
	return l
}

// wantCan asks a handle in all ways what it can.
func wantCan(t *testing.T, h *face.Handle, can uint8) {
	t.Helper()
	names := []string{"ReadAt", "Size"}
	for i, name := range []string{"WriteAt", "Cut", "Next", "Sync"} {
		if can>>i&1 == 1 {
			names = append(names, name)
		}
	}
	slices.Sort(names)
	if got := methods(h.File()); h.Can() != can || !slices.Equal(got, names) {
		t.Errorf("it can %d, by %v, want %d", h.Can(), got, can)
	}
	for do, bit := range []uint8{0, 0, api.CanWrite, api.CanCut, api.CanHoles, api.CanSync} {
		told, fell := h.Must(api.Op{Do: int8(do)})
		if fell != (can&bit != bit) || fell != (told.E == api.ErrCan) {
			t.Errorf("can %d: Must of %d tells %v, %v", can, do, told, fell)
		}
	}
}

// over is what chapter 2's table tells of a join over files of these sets.
func over(t *testing.T, below ...uint8) uint8 {
	t.Helper()
	can, e := caps.Over(api.Wrap{Kind: api.WrapJoin}, below)
	if e != api.OK {
		t.Fatal(e)
	}
	return can
}

// What it can is the table's, of all lists of up to three sets, and of MaxParts with one place unlike the others.
func TestP61Can(t *testing.T) {
	files := make([]*face.Handle, 16)
	for can := range files {
		files[can] = newFile(t, "abc"[:can%4], uint8(can))
	}
	for a := range uint8(16) {
		wantCan(t, newJoin(t, files[a]), over(t, a))
		if got, want := newJoin(t, files[a]).Can(), a&^api.CanCut; got != want {
			t.Errorf("a join of one that can %d can %d, want %d", a, got, want)
		}
		for b := range uint8(16) {
			wantCan(t, newJoin(t, files[a], files[b]), over(t, a, b))
			for c := range uint8(16) {
				wantCan(t, newJoin(t, files[a], files[b], files[c]), over(t, a, b, c))
				wantCan(t, newJoin(t, files[a], newJoin(t, files[b], files[c])), over(t, a, b, c))
			}
		}
		for at := range api.MaxParts {
			l := many(files[15], api.MaxParts)
			l[at] = files[a]
			wantCan(t, newJoin(t, l...), over(t, a))
		}
	}
}

// The list that is handed in is neither changed nor kept, nor is the room behind its end.
func TestP61ListIsTheCallers(t *testing.T) {
	a, b, x := newFile(t, "abc", 15), newFile(t, "de", 15), newFile(t, "other", 15)
	room := []*face.Handle{a, b, x, nil}
	l := room[:2]
	j := newJoin(t, l...)
	k, e := join.New(l)
	if e != api.OK || !slices.Equal(room, []*face.Handle{a, b, x, nil}) {
		t.Fatalf("New answers %v; the list is %v", e, room)
	}
	room[0], room[1], room[2] = x, nil, nil
	for _, h := range []*face.Handle{j, k} {
		wantSize(t, h, 5)
		wantRead(t, h, 0, 9, "abcde")
		wantNext(t, h, 1, 1, 5)
		wantWrite(t, h, 2, "cd", api.OK)
		wantTold(t, h, api.Op{Do: api.DoSync}, api.Told{})
	}
	wantRead(t, x, 0, 9, "other")
	for _, l := range [][]*face.Handle{{a, nil, b}, {a, sized(t, api.MaxSize)}, many(a, api.MaxParts+1)} {
		kept := slices.Clone(l)
		if _, e := join.New(l); e == api.OK || !slices.Equal(l, kept) {
			t.Errorf("New answers %v; the list is %v", e, l)
		}
	}
}

// A join is a handle of its own each time.
func TestHandlesApart(t *testing.T) {
	h := newFile(t, "abc", 15)
	l := []*face.Handle{h, newJoin(t, h), newJoin(t, h), newJoin(t, h, h)}
	for i, a := range l {
		for j, b := range l {
			if i != j && (a == b || a.File() == b.File()) {
				t.Errorf("the handles %d and %d are the same", i, j)
			}
		}
	}
}

// What is told is new memory, and what is written is not kept.
func TestNewMemory(t *testing.T) {
	a, b := newFile(t, "abc", 15), newFile(t, "de", 15)
	for _, j := range []*face.Handle{newJoin(t, a, b), newJoin(t, newJoin(t, a), b)} {
		one, _ := j.File().ReadAt(0, 5)
		two, _ := j.File().ReadAt(0, 5)
		kept := bytes.Clone(two)
		clear(one[:cap(one)])
		if !bytes.Equal(two, kept) {
			t.Error("two answers share memory")
		}
		wantRead(t, a, 0, 9, "abc")
		wantRead(t, b, 0, 9, "de")
	}
	room := []byte("vwxyz")
	w, ok := newJoin(t, a, b).File().(api.Writer)
	if !ok || w.WriteAt(1, room[:3]) != api.OK || string(room) != "vwxyz" {
		t.Fatalf("a write failed, or changed its bytes: %q", room)
	}
	clear(room)
	wantRead(t, a, 0, 9, "avw")
	wantRead(t, b, 0, 9, "xe")
}

// A part's room ends with its share: what it puts behind that is neither the caller's nor the next part's.
func TestP63RoomOfAShare(t *testing.T) {
	g, b := &greedy{}, newFile(t, "de", 15)
	w, ok := newJoin(t, face.Make(g, g, nil, nil, nil), b).File().(api.Writer)
	room := []byte("vwxyz!")
	if !ok || w.WriteAt(1, room[:4]) != api.OK {
		t.Fatal("a write failed")
	}
	if string(room) != "vwxyz!" {
		t.Errorf("the caller's bytes are %q", room)
	}
	wantRead(t, b, 0, 9, "xy")
}

// greedy is a file of three bytes that writes into the room behind what it gets.
type greedy struct{ got []byte }

func (g *greedy) Size() int64                           { return 3 }
func (g *greedy) ReadAt(int64, int) ([]byte, api.Errno) { return []byte("abc"), api.OK }
func (g *greedy) WriteAt(at int64, b []byte) api.Errno {
	g.got = append(b, '#')
	return api.OK
}

// numbers are places and lengths of all kinds.
func numbers() []int64 {
	return []int64{math.MinInt64, math.MinInt64 + 1, -api.MaxSize, -1, 0, 1, 3, api.MaxText, api.MaxSize / 2, api.MaxSize/2 + 1,
		api.MaxSize - 1, api.MaxSize, api.MaxSize + 1, math.MaxInt64 - api.MaxSize, math.MaxInt64 - 1, math.MaxInt64}
}
