package memory_test

import (
	"bytes"
	"math"
	"slices"
	"testing"

	"mantle/api"
	"mantle/face"
	"mantle/memory"
)

// noted is a file that notes what it is asked.
type noted struct {
	size  int64
	b     []byte
	asked []api.Op
	tell  func(i int, b []byte) ([]byte, api.Errno) // what the i-th read tells, b by the rules
	reads int
}

func (f *noted) Size() int64 {
	f.asked = append(f.asked, api.Op{Do: api.DoSize})
	return f.size
}

func (f *noted) ReadAt(at int64, n int) ([]byte, api.Errno) {
	f.asked = append(f.asked, api.Op{Do: api.DoRead, At: at, N: n})
	from := min(max(at, 0), int64(len(f.b)))
	b := f.b[from:min(from+int64(max(n, 0)), int64(len(f.b)))]
	f.reads++
	if f.tell != nil {
		return f.tell(f.reads-1, b)
	}
	return b, api.OK
}

func notedOf(b []byte) *noted { return &noted{size: int64(len(b)), b: b} }

// wantAsked: Size once, ahead of all, then these reads.
func (f *noted) wantAsked(t *testing.T, reads ...api.Op) {
	t.Helper()
	want := append([]api.Op{{Do: api.DoSize}}, reads...)
	same := func(a, b api.Op) bool { return a.Do == b.Do && a.At == b.At && a.N == b.N }
	if !slices.EqualFunc(f.asked, want, same) {
		t.Errorf("asked was %v, want %v", f.asked, want)
	}
}

// pieces are the first most reads of a file of size bytes.
func pieces(size, most int) (l []api.Op) {
	for at := 0; at < size && len(l) < most; at += api.MaxText {
		l = append(l, api.Op{Do: api.DoRead, At: int64(at), N: min(api.MaxText, size-at)})
	}
	return l
}

func sizes() []int {
	const m = api.MaxText
	return []int{0, 1, 2, m - 1, m, m + 1, 2*m - 1, 2 * m, 2*m + 1, 3*m + 7, api.MaxData - 1, api.MaxData}
}

func TestP43Pieces(t *testing.T) {
	for _, n := range sizes() {
		f := notedOf(letters(n))
		wantAll(t, face.Make(f, nil, nil, nil, nil), f.b)
		f.wantAsked(t, pieces(n, n)...)
	}
}

// Only Size is asked of a file that is too long, whatever it tells else.
func TestP43Long(t *testing.T) {
	for _, n := range []int64{api.MaxData + 1, api.MaxSize, api.MaxSize + 1, math.MaxInt64} {
		f := &noted{size: n, tell: func(int, []byte) ([]byte, api.Errno) { return nil, api.ErrSum }}
		b, e := memory.All(face.Make(f, nil, nil, nil, nil))
		if b != nil || e != api.ErrLong {
			t.Errorf("Size %d: %d bytes, %v", n, len(b), e)
		}
		f.wantAsked(t)
	}
	h := newFile(t, []byte("abc"), 15)
	for size, want := range map[int64]api.Errno{api.MaxData: api.OK, api.MaxData + 1: api.ErrLong, api.MaxSize: api.ErrLong} {
		h.Do(api.Op{Do: api.DoCut, At: size})
		if b, e := memory.All(h); e != want || e != api.OK && b != nil || e == api.OK && len(b) != api.MaxData {
			t.Errorf("cut to %d: %d bytes, %v", size, len(b), e)
		}
	}
}

// The first error ends it: it is told, and no bytes, not even those that were told beside it.
func TestP43Error(t *testing.T) {
	const n = 3*api.MaxText + 7
	for at := range 4 {
		for _, e := range []api.Errno{api.ErrNil, api.ErrLong, api.ErrGone, api.ErrSum, -1} {
			for _, beside := range []int{0, 1, 7} {
				f := notedOf(letters(n))
				f.tell = func(i int, b []byte) ([]byte, api.Errno) {
					if i == at {
						return b[:beside], e
					}
					return b, api.OK
				}
				b, got := memory.All(face.Make(f, nil, nil, nil, nil))
				if b != nil || got != e {
					t.Errorf("read %d tells %v: %d bytes, %v", at, e, len(b), got)
				}
				f.wantAsked(t, pieces(n, at+1)...)
			}
		}
	}
}

// A read that tells fewer bytes ends it without an error; these bytes are told, too.
func TestP43Fewer(t *testing.T) {
	const n = 3*api.MaxText + 7
	for at := range 4 {
		for _, fewer := range []int{0, 1, 6} {
			f := notedOf(letters(n))
			f.tell = func(i int, b []byte) ([]byte, api.Errno) {
				if i == at {
					return b[:fewer], api.OK
				}
				return b, api.OK
			}
			wantAll(t, face.Make(f, nil, nil, nil, nil), f.b[:at*api.MaxText+fewer])
			f.wantAsked(t, pieces(n, at+1)...)
		}
	}
}

// One byte less than was asked ends it as well: the read that would come next is not made.
func TestP43OneFewer(t *testing.T) {
	f := notedOf(letters(2 * api.MaxText))
	f.tell = func(i int, b []byte) ([]byte, api.Errno) { return b[:len(b)-1], api.OK }
	wantAll(t, face.Make(f, nil, nil, nil, nil), f.b[:api.MaxText-1])
	f.wantAsked(t, pieces(len(f.b), 1)...)
}

// A file that has more or fewer bytes than its Size told is read as far as that goes.
func TestP43OtherSize(t *testing.T) {
	b := letters(api.MaxText + 9)
	f := &noted{size: api.MaxText + 5, b: b}
	wantAll(t, face.Make(f, nil, nil, nil, nil), b[:api.MaxText+5])
	f.wantAsked(t, pieces(api.MaxText+5, 2)...)
	f = &noted{size: api.MaxData, b: b}
	wantAll(t, face.Make(f, nil, nil, nil, nil), b)
	f.wantAsked(t, pieces(api.MaxData, 2)...)
	for _, size := range []int64{-1, math.MinInt64} {
		f = &noted{size: size, b: b}
		wantAll(t, face.Make(f, nil, nil, nil, nil), nil)
		f.wantAsked(t)
	}
}

// Of a read that tells more than was asked no more than that counts.
func TestP43MoreThanAsked(t *testing.T) {
	f := notedOf(letters(2*api.MaxText + 3))
	f.tell = func(i int, b []byte) ([]byte, api.Errno) { return append(slices.Clone(b), "more"...), api.OK }
	wantAll(t, face.Make(f, nil, nil, nil, nil), f.b)
	f.wantAsked(t, pieces(len(f.b), 9)...)
}

// What All answers is its own: the file's own memory, which this one hands out, is not in it.
func TestP43NewMemory(t *testing.T) {
	for _, n := range []int{1, 9, api.MaxText, api.MaxText + 1} {
		f := notedOf(letters(n))
		b, _ := memory.All(face.Make(f, nil, nil, nil, nil))
		clear(b[:cap(b)])
		_ = append(b, 1)
		if !bytes.Equal(f.b, letters(n)) {
			t.Errorf("of %d bytes the answer shares memory with the file", n)
		}
	}
}

func TestP43Nil(t *testing.T) {
	for _, h := range []*face.Handle{nil, face.Make(nil, nil, nil, nil, nil), new(face.Handle)} {
		if b, e := memory.All(h); b != nil || e != api.ErrNil {
			t.Errorf("%d bytes, %v", len(b), e)
		}
	}
}

// Holes are read as noughts, across the pieces' ends.
func TestP43Holes(t *testing.T) {
	h := newFile(t, []byte("abc"), 15)
	h.Do(api.Op{Do: api.DoWrite, At: api.MaxText - 1, B: []byte("xy")})
	h.Do(api.Op{Do: api.DoCut, At: 2*api.MaxText + 4})
	want := make([]byte, 2*api.MaxText+4)
	copy(want, "abc")
	copy(want[api.MaxText-1:], "xy")
	wantAll(t, h, want)
}

func TestP44AllOfNew(t *testing.T) {
	for _, n := range sizes() {
		b := letters(n)
		for can := range uint8(16) {
			if n < api.MaxData-1 || can%5 == 0 {
				wantAll(t, newFile(t, b, can), b)
			}
		}
	}
}
