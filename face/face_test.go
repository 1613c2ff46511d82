package face_test

import (
	"reflect"
	"slices"
	"testing"

	"mantle/api"
	"mantle/face"
)

// plain is the file of the chapter's examples: it can be written, cut and synced.
type plain struct{ b []byte }

func (f *plain) Size() int64 { return int64(len(f.b)) }

func (f *plain) ReadAt(at int64, n int) ([]byte, api.Errno) {
	from := min(at, f.Size())
	return slices.Clone(f.b[from:min(from+int64(n), f.Size())]), api.OK
}

func (f *plain) WriteAt(at int64, b []byte) api.Errno {
	copy(f.b[at:], b)
	return api.OK
}

func (f *plain) Cut(size int64) api.Errno {
	f.b = f.b[:size]
	return api.OK
}

func (f *plain) Sync() api.Errno { return api.OK }

func wantTold(t *testing.T, call string, got, want api.Told) {
	t.Helper()
	if !sameTold(got, want) {
		t.Errorf("%s tells %v, want %v", call, got, want)
	}
}

func TestExamples(t *testing.T) {
	f := &plain{[]byte{1, 2, 3}}
	h := face.Make(f, f, nil, nil, nil)
	if face.Make(nil, f, f, nil, f) != nil {
		t.Error("a handle without a file")
	}
	if h.Can() != 1 || face.Make(f, nil, nil, nil, nil).Can() != 0 {
		t.Error("Can")
	}
	wantTold(t, "a read", h.Do(api.Op{Do: api.DoRead, At: 1, N: 9}), api.Told{Data: []byte{2, 3}})
	wantTold(t, "a cut", h.Do(api.Op{Do: api.DoCut}), api.Told{E: api.ErrCan})
	told, fell := h.Must(api.Op{Do: api.DoCut})
	if wantTold(t, "Must of a cut", told, api.Told{E: api.ErrCan}); !fell {
		t.Error("Must of a cut did not fall")
	}
	if len(f.b) != 3 {
		t.Error("a cut that was refused was done")
	}
	wantTold(t, "Do 6", h.Do(api.Op{Do: 6}), api.Told{E: api.ErrArg})
	told, fell = h.Must(api.Op{Do: -1})
	if wantTold(t, "Must of Do -1", told, api.Told{E: api.ErrArg}); fell {
		t.Error("Must of Do -1 fell")
	}
	if h.Only(255).Can() != 1 || h.Only(2).Can() != 0 {
		t.Error("Only")
	}
	if h.File() != h.File() || h.File() == h.Only(1).File() {
		t.Error("File")
	}
}

func TestP31NoFile(t *testing.T) {
	l := newFive()
	for can := range uint8(16) {
		w, c, h, s := pick(can, l.w, l.c, l.h, l.s)
		if face.Make(nil, w, c, h, s) != nil {
			t.Errorf("parts %d without a file make a handle", can)
		}
	}
	wantNotes(t, &l.notes, "Make without a file")
}

func TestP31Parts(t *testing.T) {
	l := newFive()
	for can := range uint8(16) {
		h := l.make(can)
		if h == nil {
			t.Fatalf("parts %d make no handle", can)
		}
		if got := asserted(h.File()); got != can {
			t.Errorf("parts %d make a file that can %d", can, got)
		}
	}
	wantNotes(t, &l.notes, "Make")
}

// A nil pointer within an interface is a part that is there; it is left to its methods what they answer.
type hollow struct{ n int }

func (f *hollow) Size() int64                           { return 7 }
func (f *hollow) ReadAt(int64, int) ([]byte, api.Errno) { return []byte{8}, 9 }
func (f *hollow) WriteAt(at int64, b []byte) api.Errno  { return 10 }
func (f *hollow) Cut(size int64) api.Errno              { return 11 }
func (f *hollow) Next(at int64) (from, to int64)        { return 12, 13 }
func (f *hollow) Sync() api.Errno                       { return 14 }
func (f *hollow) make(can uint8) *face.Handle {
	w, c, h, s := pick(can, f, f, f, f)
	return face.Make(f, w, c, h, s)
}

func TestP31NilPointers(t *testing.T) {
	want := [6]api.Told{{N: 7}, {E: 9, Data: []byte{8}}, {E: 10}, {E: 11}, {N: 12, M: 13}, {E: 14}}
	var none *hollow
	for can := range uint8(16) {
		h := none.make(can)
		if h == nil || h.Can() != can || asserted(h.File()) != can {
			t.Fatalf("nil pointers as parts %d: can %d", can, h.Can())
		}
		for do, told := range want {
			op := api.Op{Do: int8(do)}
			bit, _ := needs(op.Do)
			if can&bit != bit {
				told = api.Told{E: api.ErrCan}
			}
			wantTold(t, "Do on nil pointers", h.Do(op), told)
			got, fell := h.Must(op)
			if wantTold(t, "Must on nil pointers", got, told); fell != (can&bit != bit) {
				t.Errorf("parts %d, Do %d: fell is %v", can, do, fell)
			}
		}
	}
}

// lump can't be compared: a list stands in it, and its methods are the value's.
type lump struct{ b []byte }

func (f lump) Size() int64                           { return int64(len(f.b)) }
func (f lump) ReadAt(int64, int) ([]byte, api.Errno) { return f.b, api.OK }
func (f lump) Sync() api.Errno                       { return api.ErrGone }

func TestP31NotCompared(t *testing.T) {
	f := lump{[]byte{1, 2}}
	h := face.Make(f, nil, nil, nil, f)
	if h.Can() != 8 || h.File() != h.File() || h.File() == face.Make(f, nil, nil, nil, f).File() {
		t.Error("a file whose parts can't be compared")
	}
	wantTold(t, "its Size", h.Do(api.Op{}), api.Told{N: 2})
	wantTold(t, "its Sync", h.Do(api.Op{Do: api.DoSync}), api.Told{E: api.ErrGone})
}

func TestP31NoTwoTheSame(t *testing.T) {
	l := newFive()
	seenHandles, seenFiles := map[*face.Handle]bool{}, map[api.File]bool{}
	count := 0
	for can := range uint8(16) {
		for range 3 {
			h := l.make(can)
			for _, x := range []*face.Handle{h, h.Only(can), h.Only(255), h.Only(0)} {
				seenHandles[x], seenFiles[x.File()] = true, true
				count++
			}
		}
	}
	if len(seenHandles) != count || len(seenFiles) != count {
		t.Errorf("of %d handles %d are told apart, of their files %d", count, len(seenHandles), len(seenFiles))
	}
}

func TestP32File(t *testing.T) {
	l := newFive()
	for can := range uint8(16) {
		h := l.make(can)
		f := h.File()
		for do := int8(-1); do < 7; do++ {
			h.Do(api.Op{Do: do})
			h.Must(api.Op{Do: do})
			h.Only(uint8(do))
			if h.File() != f {
				t.Fatalf("parts %d: another file behind Do %d", can, do)
			}
		}
		if reflect.TypeOf(f).Kind() != reflect.Pointer {
			t.Errorf("parts %d: the file is a %v", can, reflect.TypeOf(f))
		}
		if f == api.File(l.f) {
			t.Errorf("parts %d: the file is the part itself", can)
		}
	}
}

func TestP32NoOtherMethods(t *testing.T) {
	l := newFive()
	for can := range uint8(16) {
		want := []string{"ReadAt", "Size"}
		for i, name := range []string{"WriteAt", "Cut", "Next", "Sync"} {
			if can>>i&1 == 1 {
				want = append(want, name)
			}
		}
		slices.Sort(want)
		for _, h := range []*face.Handle{l.make(can), l.make(15).Only(can)} {
			if got := methods(h.File()); !slices.Equal(got, want) {
				t.Errorf("parts %d: methods %q, want %q", can, got, want)
			}
		}
	}
}

// A call of a method of the file is the part's, its lists as they are.
func TestP32Calls(t *testing.T) {
	l := newFive()
	for can := range uint8(16) {
		f := l.make(can).File()
		data, e := f.ReadAt(-3, 4)
		if f.Size() != 11 || e != 41 || !slices.Equal(data, l.f.data) {
			t.Errorf("parts %d: the file's own methods", can)
		}
		want := []string{"f ReadAt -3 4", "f Size"}
		if w, ok := f.(api.Writer); ok {
			if want = append(want, "w WriteAt 5 [6]"); w.WriteAt(5, []byte{6}) != 42 {
				t.Errorf("parts %d: WriteAt", can)
			}
		}
		if c, ok := f.(api.Cutter); ok {
			if want = append(want, "c Cut 7"); c.Cut(7) != 43 {
				t.Errorf("parts %d: Cut", can)
			}
		}
		if n, ok := f.(api.Holer); ok {
			want = append(want, "h Next 8")
			if from, to := n.Next(8); from != 42 || to != 43 {
				t.Errorf("parts %d: Next", can)
			}
		}
		if s, ok := f.(api.Syncer); ok {
			if want = append(want, "s Sync"); s.Sync() != 45 {
				t.Errorf("parts %d: Sync", can)
			}
		}
		wantNotes(t, &l.notes, "the file's methods", want...)
	}
}

func TestP32Can(t *testing.T) {
	l := newFive()
	for can := range uint8(16) {
		h := l.make(can)
		if got := h.Can(); got != can || got != asserted(h.File()) {
			t.Errorf("parts %d: Can tells %d", can, got)
		}
	}
	wantNotes(t, &l.notes, "Can")
}

func TestNilHandle(t *testing.T) {
	var h *face.Handle
	if h.File() != nil || h.Can() != 0 {
		t.Error("File, Can of a nil handle")
	}
	for n := range 256 {
		if h.Only(uint8(n)) != nil {
			t.Errorf("Only(%d) of a nil handle", n)
		}
		op := api.Op{Do: int8(n - 128), At: -1, N: -1, B: []byte{1}}
		wantTold(t, "Do of a nil handle", h.Do(op), api.Told{E: api.ErrNil})
		told, fell := h.Must(op)
		if wantTold(t, "Must of a nil handle", told, api.Told{E: api.ErrNil}); fell {
			t.Errorf("Must of a nil handle fell with Do %d", op.Do)
		}
	}
}

func TestP35Only(t *testing.T) {
	l := newFive()
	for can := range uint8(16) {
		h := l.make(can)
		file := h.File()
		for mask := range 256 {
			o := h.Only(uint8(mask))
			if o == nil || o == h || o.File() == file {
				t.Fatalf("parts %d: Only(%d) is no handle of its own", can, mask)
			}
			if want := can & uint8(mask); o.Can() != want || asserted(o.File()) != want {
				t.Errorf("parts %d: Only(%d) can %d, want %d", can, mask, o.Can(), want)
			}
		}
		if h.Can() != can || h.File() != file {
			t.Errorf("parts %d: Only changed its handle", can)
		}
	}
	wantNotes(t, &l.notes, "Only")
}

func TestP37OnlyOfOnly(t *testing.T) {
	l := newFive()
	masks := []uint8{0x10, 0xf0, 0xff, 0xa5, 0x5a}
	for n := range uint8(16) {
		masks = append(masks, n)
	}
	for can := range uint8(16) {
		h := l.make(can)
		for _, a := range masks {
			for _, b := range masks {
				twice, once := h.Only(a).Only(b), h.Only(a&b)
				if twice.Can() != can&a&b || once.Can() != can&a&b {
					t.Errorf("parts %d: Only(%d).Only(%d) can %d, Only of both %d", can, a, b, twice.Can(), once.Can())
				}
			}
		}
	}
}

// What is done through Only, and through Only of Only, is the same parts' call.
func TestP37SameParts(t *testing.T) {
	l := newFive()
	for can := range uint8(16) {
		for mask := range uint8(16) {
			h := l.make(can).Only(mask)
			for _, x := range []*face.Handle{h, h.Only(255)} {
				for do := int8(-1); do < 7; do++ {
					l.wantOp(t, x, can&mask, api.Op{Do: do, At: 3, N: 4, B: []byte{5}})
				}
			}
		}
	}
	f := &plain{[]byte{1, 2, 3}}
	h := face.Make(f, f, f, nil, f)
	h.Only(1).Do(api.Op{Do: api.DoWrite, At: 1, B: []byte{9}})
	h.Only(3).Only(2).Do(api.Op{Do: api.DoCut, At: 2})
	wantTold(t, "a read behind", h.Do(api.Op{Do: api.DoRead, N: 5}), api.Told{Data: []byte{1, 9}})
}

// However often Only is asked, the way from a call to its part gets no longer.
func TestP37OnlyManyTimes(t *testing.T) {
	l := newFive()
	h := l.make(15)
	for range 1 << 20 {
		h = h.Only(13)
	}
	for range 1 << 10 {
		if told := h.Do(api.Op{Do: api.DoSync}); told.E != 45 || h.Can() != 13 {
			t.Fatal("Only of Only of Only ..")
		}
	}
}

// A handle's file is a part like others: what it hides stays hidden.
func TestFileAsPart(t *testing.T) {
	l := newFive()
	below := l.make(9)
	f := below.File()
	h := face.Make(f, nil, nil, nil, f.(api.Syncer))
	if h.Can() != 8 || h.File() == f {
		t.Errorf("a handle over a handle's file can %d", h.Can())
	}
	l.wantOp(t, h, 8, api.Op{Do: api.DoSync})
	l.wantOp(t, h, 8, api.Op{Do: api.DoWrite})
	l.wantOp(t, h, 8, api.Op{Do: api.DoRead, At: 1, N: 2})
	if bare := face.Make(f, nil, nil, nil, nil); bare.Can() != 0 || asserted(bare.File()) != 0 {
		t.Error("it shows what it must hide")
	}
}
