package quota_test

import (
	"bytes"
	"math"
	"reflect"
	"slices"
	"testing"

	"mantle/api"
	"mantle/caps"
	"mantle/face"
	"mantle/memory"
	"mantle/quota"
	"mantle/span"
)

func newFile(t *testing.T, b string, can uint8) *face.Handle {
	t.Helper()
	return fileOf(t, span.New([]byte(b)), can)
}

func fileOf(t *testing.T, s *span.Bytes, can uint8) *face.Handle {
	t.Helper()
	h, e := memory.Of(s, can)
	if e != api.OK {
		t.Fatalf("a file of memory that can %d: %v", can, e)
	}
	return h
}

// purse is a purse that is asked what is left.
type purse struct{ *quota.Purse }

func newPurse(t *testing.T, most int64) *purse {
	t.Helper()
	p, e := quota.NewPurse(most)
	if e != api.OK || p == nil {
		t.Fatalf("NewPurse(%d) answers %v, %v", most, p, e)
	}
	return &purse{p}
}

func (p *purse) over(t *testing.T, h *face.Handle) *face.Handle {
	t.Helper()
	q, e := quota.New(h, p.Purse)
	if e != api.OK || q == nil {
		t.Fatalf("New answers %v, %v", q, e)
	}
	return q
}

func (p *purse) wantLeft(t *testing.T, want int64) {
	t.Helper()
	if got := p.Left(); got != want {
		t.Errorf("%d is left, want %d", got, want)
	}
}

func sameTold(a, b api.Told) bool {
	return a.E == b.E && a.N == b.N && a.M == b.M && bytes.Equal(a.Data, b.Data)
}

func wantTold(t *testing.T, h *face.Handle, op api.Op, want api.Told) {
	t.Helper()
	if got := h.Do(op); !sameTold(got, want) {
		t.Errorf("Do %d at %d, %d, of %d bytes tells %.50v, want %.50v", op.Do, op.At, op.N, len(op.B), got, want)
	}
}

func wantWrite(t *testing.T, h *face.Handle, at int64, b string, want api.Errno) {
	t.Helper()
	wantTold(t, h, api.Op{Do: api.DoWrite, At: at, B: []byte(b)}, api.Told{E: want})
}

func wantCut(t *testing.T, h *face.Handle, size int64, want api.Errno) {
	t.Helper()
	wantTold(t, h, api.Op{Do: api.DoCut, At: size}, api.Told{E: want})
}

// wantAll holds all bytes of files that are to be alike.
func wantAll(t *testing.T, want string, l ...*face.Handle) {
	t.Helper()
	for i, h := range l {
		if b, e := memory.All(h); e != api.OK || string(b) != want {
			t.Errorf("file %d is %q, %v, want %q", i, b, e, want)
		}
	}
}

func TestExamples(t *testing.T) {
	p := newPurse(t, 10)
	f := newFile(t, "abcde", 15)
	h := p.over(t, f)
	wantWrite(t, h, 3, "abcd", api.OK)
	p.wantLeft(t, 8)
	wantWrite(t, h, 16, "x", api.ErrQuota)
	p.wantLeft(t, 8)
	wantWrite(t, h, 14, "x", api.OK)
	p.wantLeft(t, 0)
	wantAll(t, "abcabcd\x00\x00\x00\x00\x00\x00\x00x", h, f)
	wantCut(t, h, 2, api.OK)
	p.wantLeft(t, 13)
	wantCut(t, h, 0, api.OK)
	p.wantLeft(t, 15)
	wantWrite(t, h, 20, "", api.OK)
	p.wantLeft(t, 15)
	wantAll(t, "", h, f)
}

// bounds are numbers at the bounds of what a purse may have.
func bounds() []int64 {
	return []int64{math.MinInt64, math.MinInt64 + 1, -api.MaxSize - 1, -api.MaxSize, -2, -1, 0, 1, 2, 3, api.MaxData, api.MaxData + 1,
		api.MaxSize - 1, api.MaxSize, api.MaxSize + 1, 2 * api.MaxSize, 1 << 32, 1<<32 + 1, math.MaxInt64 - 1, math.MaxInt64}
}

func TestP141NewPurse(t *testing.T) {
	for _, most := range bounds() {
		p, e := quota.NewPurse(most)
		if most < 0 || most > api.MaxSize {
			if p != nil || e != api.ErrArg {
				t.Errorf("NewPurse(%d) answers %v, %v", most, p, e)
			}
			most = 0 // of a nil purse
		} else if p == nil || e != api.OK {
			t.Errorf("NewPurse(%d) answers %v, %v", most, p, e)
		}
		for range 2 {
			if p.Left() != most {
				t.Errorf("%d is left, want %d", p.Left(), most)
			}
		}
	}
}

func TestP141LeftOfNil(t *testing.T) {
	var p *quota.Purse
	if p.Left() != 0 {
		t.Errorf("of nil %d is left", p.Left())
	}
}

// Each purse is its own, and nothing is left behind in the package.
func TestP141PursesAreApart(t *testing.T) {
	one, two := newPurse(t, 5), newPurse(t, 5)
	if one.Purse == two.Purse {
		t.Error("two purses are the same")
	}
	wantWrite(t, one.over(t, newFile(t, "", 1)), 0, "abc", api.OK)
	one.wantLeft(t, 2)
	two.wantLeft(t, 5)
	newPurse(t, 5).wantLeft(t, 5)
	wantWrite(t, two.over(t, newFile(t, "", 1)), 0, "abcde", api.OK)
	one.wantLeft(t, 2)
	two.wantLeft(t, 0)
}

// Nil on either side, or on both, as what there is not, or as what a refused call answered.
func TestP142Nil(t *testing.T) {
	below, p, _ := watched(t, span.New([]byte("abc")), 7)
	noPurse, _ := quota.NewPurse(-1)
	refused, _ := quota.New(nil, nil)
	for _, none := range []*face.Handle{nil, {}, refused} {
		for _, x := range []*quota.Purse{nil, noPurse, p.Purse} {
			if h, e := quota.New(none, x); h != nil || e != api.ErrNil {
				t.Errorf("New of no file answers %v, %v", h, e)
			}
		}
	}
	for _, none := range []*quota.Purse{nil, noPurse} {
		for can := range uint8(16) {
			if h, e := quota.New(below.handle(can), none); h != nil || e != api.ErrNil {
				t.Errorf("New without a purse answers %v, %v", h, e)
			}
		}
	}
	below.wantUnasked(t)
	p.wantLeft(t, 7)
	for do := int8(-1); do < 7; do++ {
		wantTold(t, refused, api.Op{Do: do, N: 1}, api.Told{E: api.ErrNil})
	}
}

func methods(f api.File) []string {
	var l []string
	for m := range reflect.TypeOf(f).Methods() {
		l = append(l, m.Name)
	}
	return l
}

// wantCan asks a handle in all ways what it can.
func wantCan(t *testing.T, h *face.Handle, can uint8) {
	t.Helper()
	names := []string{"ReadAt", "Size"}
	for i, name := range []string{"WriteAt", "Cut", "Next", "Sync"} {
		if can>>i&1 == 1 {
			names = append(names, name)
		}
	}
	slices.Sort(names)
	if got := methods(h.File()); h.Can() != can || !slices.Equal(got, names) {
		t.Errorf("it can %d, by %v, want %d", h.Can(), got, can)
	}
	for do, bit := range []uint8{0, 0, api.CanWrite, api.CanCut, api.CanHoles, api.CanSync} {
		told, fell := h.Must(api.Op{Do: int8(do)})
		if fell != (can&bit != bit) || fell != (told.E == api.ErrCan) {
			t.Errorf("can %d: Must of %d tells %v, %v", can, do, told, fell)
		}
	}
}

// What it can is the table's, of all sets, over another one and where some of it is hidden, too.
func TestP142Can(t *testing.T) {
	for can := range uint8(16) {
		want, e := caps.Over(api.Wrap{Kind: api.WrapQuota}, []uint8{can})
		if e != api.OK || want != can {
			t.Fatalf("the table tells %d, %v", want, e)
		}
		for _, most := range []int64{0, 9} {
			p := newPurse(t, most)
			h := p.over(t, newFile(t, "abc", can))
			wantCan(t, h, want)
			wantCan(t, p.over(t, h), want)
			wantCan(t, newPurse(t, most).over(t, h), want)
			for only := range uint8(16) {
				wantCan(t, p.over(t, newFile(t, "abc", 15).Only(can).Only(only)), can&only)
				wantCan(t, h.Only(only), can&only)
			}
		}
	}
}

// What it can't comes to no file, and costs nothing.
func TestP142Cannot(t *testing.T) {
	for can := range uint8(16) {
		below, p, _ := watched(t, span.New([]byte("abc")), 9)
		h := p.over(t, below.handle(can))
		for do := int8(0); do < 6; do++ {
			if cannot(can, api.Op{Do: do}) != api.ErrCan {
				continue
			}
			for _, at := range []int64{-1, 0, 1, 8, api.MaxSize + 1} {
				wantTold(t, h, api.Op{Do: do, At: at, N: 1, B: []byte("x")}, api.Told{E: api.ErrCan})
			}
		}
		below.wantUnasked(t)
		p.wantLeft(t, 9)
	}
}

// New asks nothing of the file, and takes nothing for the bytes that it has; a handle is its own each time.
func TestP142NewAsksNothing(t *testing.T) {
	below, p, h := watched(t, span.New([]byte(letters(50))), 9)
	x := below.handle(15)
	l := []*face.Handle{x, h, p.over(t, x), p.over(t, x), p.over(t, h), newPurse(t, 9).over(t, x)}
	for _, h := range l {
		h.Can()
	}
	below.wantUnasked(t)
	p.wantLeft(t, 9)
	for i, a := range l {
		for j, b := range l {
			if i != j && (a == b || a.File() == b.File()) {
				t.Errorf("the handles %d and %d are the same", i, j)
			}
		}
	}
}
