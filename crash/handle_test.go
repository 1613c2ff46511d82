package crash_test

import (
	"math"
	"reflect"
	"slices"
	"testing"

	"mantle/api"
	"mantle/face"
)

// There are handles of the files that there are, and of no others.
func TestP231WhichHandles(t *testing.T) {
	for n := 1; n <= 8; n++ {
		p := newPower(t, make([]string, n)...)
		for file := range n {
			if h := p.Handle(file); h == nil || h.File() == nil {
				t.Errorf("of %d files %d has none", n, file)
			}
		}
		for _, file := range []int{math.MinInt, -n, -1, n, n + 1, 8, 9, 256, math.MaxInt} {
			if h := p.Handle(file); h != nil {
				t.Errorf("of %d files %d has a handle", n, file)
			}
		}
	}
}

// A handle can write, cut and sync: it is asked by Can, by assertion, and by its file's methods.
func TestP231Can(t *testing.T) {
	p := newPower(t, "abc", "")
	for file := range 2 {
		h := p.Handle(file)
		f := h.File()
		_, w := f.(api.Writer)
		_, c := f.(api.Cutter)
		_, n := f.(api.Holer)
		_, s := f.(api.Syncer)
		if h.Can() != api.CanWrite|api.CanCut|api.CanSync || !w || !c || n || !s {
			t.Errorf("it can %d: %v %v %v %v", h.Can(), w, c, n, s)
		}
		var names []string
		for m := range reflect.TypeOf(f).Methods() {
			names = append(names, m.Name)
		}
		if !slices.Equal(names, []string{"Cut", "ReadAt", "Size", "Sync", "WriteAt"}) {
			t.Errorf("its methods are %v", names)
		}
		if told, fell := h.Must(api.Op{Do: api.DoNext}); told.E != api.ErrCan || !fell {
			t.Errorf("Must of Next tells %v, %v", told, fell)
		}
	}
}

// numbers are places and sizes at the bounds of all kinds, and wrong ones.
func numbers() []int64 {
	return []int64{math.MinInt64, math.MinInt64 + 1, -api.MaxSize, -1, 0, 1, 2, 3, 4, 5, 9, api.MaxText, api.MaxText + 1,
		api.MaxData - api.MaxText - 1, api.MaxData - api.MaxText, api.MaxData - api.MaxText + 1, api.MaxData - 2, api.MaxData - 1, api.MaxData, api.MaxData + 1,
		api.MaxSize - api.MaxText, api.MaxSize - api.MaxText + 1, api.MaxSize - 2, api.MaxSize - 1, api.MaxSize, api.MaxSize + 1, math.MaxInt64 - api.MaxText, math.MaxInt64 - 1, math.MaxInt64}
}

// edges are ops with these numbers; what is read and written has as many bytes as matter.
func edges() (l []api.Op) {
	for _, at := range numbers() {
		l = append(l, cut(at), api.Op{Do: api.DoNext, At: at})
		for _, n := range []int{math.MinInt, -1, 0, 1, 2, 9, api.MaxText - 1, api.MaxText, api.MaxText + 1, math.MaxInt} {
			l = append(l, read(at, n))
		}
		for _, n := range []int{0, 1, 2, api.MaxText - 1, api.MaxText, api.MaxText + 1, api.MaxData} {
			l = append(l, write(at, letters(n)))
		}
	}
	for _, do := range []int8{-128, -1, api.DoSize, api.DoSync, 6, 127} {
		l = append(l, api.Op{Do: do}, api.Op{Do: do, At: -1, N: -1, B: []byte("x")}, api.Op{Do: do, At: math.MaxInt64, N: math.MaxInt, B: []byte("x")})
	}
	return l
}

// Each op, at each place: by the file's rules, and what it leaves; it is open where it was done and changes something, and only there.
func TestP231Rules(t *testing.T) {
	for _, op := range edges() {
		for _, first := range []string{"", "abcd"} {
			x := bothOf(t, "other", first)
			e := x.want(t, 1, 0, op).E
			want := 0
			if e == api.OK && counted(op) && op.Do != api.DoSync {
				want = 1
			}
			x.wantAs(t)
			if n := len(x.power.Open()); n != want {
				t.Fatalf("behind %s %d are open, want %d", text(op), n, want)
			}
		}
	}
}

// The same on a file that is as long as may be.
func TestP231RulesAtMaxData(t *testing.T) {
	most := letters(api.MaxData)
	x := bothOf(t, most)
	for _, op := range edges() {
		if x.page.refuses(op) == api.OK && counted(op) {
			continue // below
		}
		x.want(t, 0, 0, op)
	}
	x.wantAs(t)
	for _, op := range []api.Op{write(api.MaxData-3, "xyz"), write(api.MaxData-3, "1234"), write(api.MaxData, "!"), write(api.MaxData-1, "??"), write(0, letters(api.MaxText)), cut(api.MaxData), cut(api.MaxData + 1), write(api.MaxData, ""), write(api.MaxSize, "")} {
		x.want(t, 0, 0, op)
	}
	x.wantAs(t)
	x.ops(t, 0, cut(api.MaxData-1), write(api.MaxData-1, "12"), write(api.MaxData-1, "1"), sync())
	x.fail(t, nil, nil)
}

// A file may be made as long as MaxData bytes by a gap alone; the gap reads as noughts.
func TestP231Gap(t *testing.T) {
	for _, gap := range []int64{0, 1, 2, 60, api.MaxText - 1, api.MaxText, api.MaxData - 5, api.MaxData - 4, api.MaxData - 3} {
		x := bothOf(t, "abc")
		x.ops(t, 0, write(3+gap, "x"), size(), read(2, 9), read(3+gap-1, 9), read(3+gap, 9), read(3+gap+1, 9))
		x.wantAs(t)
	}
}

// What a cut took away does not come back when the file is made longer again, by a cut or by a write.
func TestP231CutTakesAway(t *testing.T) {
	for size := range int64(9) {
		for _, longer := range []api.Op{cut(8), write(8, "x"), write(size, "new"), write(0, "o")} {
			x := bothOf(t, "abcdef")
			x.ops(t, 0, cut(size))
			x.wantAs(t)
			x.ops(t, 0, longer)
			x.wantAs(t)
		}
	}
}

// A write of no bytes changes nothing wherever it may stand, not even Size, and is not open.
func TestP231EmptyWrite(t *testing.T) {
	for _, b := range [][]byte{nil, {}, make([]byte, 0, 7)} {
		p := newPower(t, "abc")
		for at, e := range map[int64]api.Errno{-1: api.ErrArg, 0: api.OK, 3: api.OK, 4: api.OK, 90: api.OK, api.MaxData: api.OK, api.MaxData + 1: api.OK, api.MaxSize: api.OK, api.MaxSize + 1: api.ErrLong, math.MaxInt64: api.ErrLong, math.MinInt64: api.ErrArg} {
			wantE(t, p.Handle(0), api.Op{Do: api.DoWrite, At: at, B: b}, e)
			wantImages(t, p, "abc")
			wantOpen(t, p)
		}
	}
}

// All handles of a file are of that file: each sees what is done through the other, at once, and neither sees the other files.
func TestP231TwoHandles(t *testing.T) {
	p := newPower(t, "abc", "def")
	one, two, other := p.Handle(0), p.Handle(0), p.Handle(1)
	wantE(t, one, write(1, "XYZ"), api.OK)
	wantTold(t, two, read(0, 9), api.Told{Data: []byte("aXYZ")})
	wantTold(t, two, size(), api.Told{N: 4})
	wantE(t, two, cut(2), api.OK)
	wantTold(t, one, read(0, 9), api.Told{Data: []byte("aX")})
	wantTold(t, p.Handle(0), size(), api.Told{N: 2})
	wantOpen(t, p, write(1, "XYZ"), cut(2))
	wantE(t, one, sync(), api.OK)
	wantOpen(t, p)
	wantTold(t, other, read(0, 9), api.Told{Data: []byte("def")})
	wantE(t, other, cut(0), api.OK)
	wantTold(t, one.Only(0), read(0, 9), api.Told{Data: []byte("aX")})
}

// Any calls through many handles of several files.
func TestP231Chance(t *testing.T) {
	for seed := range chance(400) {
		c := seed
		x := bothOf(t, c.files(8)...)
		for range 60 {
			x.step(t, &c)
		}
		if x.wantAs(t); t.Failed() {
			t.Fatalf("seed %d", seed)
		}
	}
}

// What is written is neither changed nor kept; what is read is new memory, spare room too.
func TestP231NewMemory(t *testing.T) {
	p := newPower(t, "abcdefgh")
	w, ok := p.Handle(0).File().(api.Writer)
	if !ok {
		t.Fatal("it can't be written")
	}
	room := []byte("XYZ")
	if e := w.WriteAt(1, room[:2]); e != api.OK || string(room) != "XYZ" {
		t.Errorf("a write answers %v, its bytes are %q", e, room)
	}
	clear(room)
	wantImages(t, p, "aXYdefgh")
	wantOpen(t, p, write(1, "XY"))
	wantImages(t, p.Fail([]int{0}, nil), "aXYdefgh")
	f := p.Handle(0).File()
	one, _ := f.ReadAt(1, 3)
	two, _ := f.ReadAt(1, 3)
	clear(one[:cap(one)])
	if string(two) != "XYd" {
		t.Error("two reads share memory")
	}
	wantImages(t, p, "aXYdefgh")
	wantE(t, p.Handle(0), sync(), api.OK)
	wantImages(t, p.Fail(nil, nil), "aXYdefgh")
}

// The file that a handle gives answers without Do, too: nothing beside an error.
func TestP231FileItself(t *testing.T) {
	f := newPower(t, "abc").Handle(0).File()
	for _, x := range []struct {
		at int64
		n  int
		e  api.Errno
	}{{-1, 1, api.ErrArg}, {0, -1, api.ErrArg}, {-1, api.MaxText + 1, api.ErrArg}, {0, api.MaxText + 1, api.ErrLong}, {1, math.MaxInt, api.ErrLong}} {
		if b, e := f.ReadAt(x.at, x.n); b != nil || e != x.e {
			t.Errorf("ReadAt(%d, %d) tells %q, %v", x.at, x.n, b, e)
		}
	}
}

// A handle outlives all that is done to its machine, and what comes of it.
func TestP231HandleStays(t *testing.T) {
	var handles []*face.Handle
	q := newPower(t, "abc")
	for range 5 {
		handles = append(handles, q.Handle(0))
		q = q.Fail(nil, nil)
	}
	for i, h := range handles {
		wantE(t, h, cut(int64(i)), api.OK)
	}
	for i, h := range handles {
		wantTold(t, h, size(), api.Told{N: int64(i)})
	}
	wantImages(t, q, "abc")
}
