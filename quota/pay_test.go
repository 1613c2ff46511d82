package quota_test

import (
	"math"
	"testing"

	"mantle/api"
	"mantle/face"
	"mantle/span"
)

// desk is a file with a handle of a purse over it, and beside it a like file without, over which the book is kept.
type desk struct {
	bytes, like *span.Bytes
	below       *spy
	quota       *face.Handle
	plain       *face.Handle
	purse       *purse
	book        *book
}

// newDesk makes a desk of a file that can so much.
func newDesk(t *testing.T, s *span.Bytes, can uint8, most int64) *desk {
	t.Helper()
	return (&desk{purse: newPurse(t, most), book: &book{most}}).beside(t, s, can)
}

// beside makes one more desk, of the same purse.
func (d *desk) beside(t *testing.T, s *span.Bytes, can uint8) *desk {
	t.Helper()
	x := &desk{bytes: s, like: s.Twin(), purse: d.purse, book: d.book}
	x.below = &spy{all: fileOf(t, x.bytes, 15)}
	x.quota = x.purse.over(t, x.below.handle(can))
	x.plain = fileOf(t, x.like, can)
	return x
}

// want does op through the handle and in the book, and holds what is told, what is left, and what came to the file.
func (d *desk) want(t *testing.T, op api.Op) api.Errno {
	t.Helper()
	d.below.calls, d.below.sizes = nil, 0
	was := d.purse.Left()
	want := d.book.do(d.plain, op)
	wantTold(t, d.quota, op, want)
	d.purse.wantLeft(t, d.book.left)
	switch {
	case want.E == api.ErrQuota:
		d.below.wantCalls(t)
	case cannot(d.quota.Can(), op) != api.OK || refuses(op) != api.OK:
		d.below.wantUnasked(t)
	case op.Do == api.DoWrite:
		d.below.wantCalls(t, call(api.Op{Do: api.DoWrite, At: op.At, B: op.B}))
	case op.Do == api.DoCut:
		d.below.wantCalls(t, call(api.Op{Do: api.DoCut, At: op.At}))
	}
	if wantAlike(t, d.bytes, d.like); t.Failed() {
		t.Fatalf("Do %d at %d, %d, of %d bytes; %d was left", op.Do, op.At, op.N, len(op.B), was)
	}
	return want.E
}

// around are what may be left where so much is wanted: one byte fewer, just that, and one more.
func around(want int64) (l []int64) {
	for left := want - 1; left <= want+1; left++ {
		if left >= 0 && left <= api.MaxSize {
			l = append(l, left)
		}
	}
	return l
}

// wantAround does op to files of this size with one byte fewer left than it wants, just that, and one more.
func wantAround(t *testing.T, size int64, op api.Op) {
	t.Helper()
	want := wants(size, op)
	for _, left := range around(want) {
		for _, can := range []uint8{15, api.CanWrite | api.CanCut} {
			d := newDesk(t, patterned(size, 0xa5c3), can, left)
			e := d.want(t, op)
			if refuses(op) == api.OK && (e == api.ErrQuota) != (left < want) {
				t.Fatalf("%d bytes wanted, %d left: %v", want, left, e)
			}
			if e == api.OK && want > 0 {
				d.purse.wantLeft(t, left-want)
			}
		}
	}
}

// Writes inside the file, across its end, touching it, and beyond it with a gap, which counts.
func TestP143Writes(t *testing.T) {
	for _, size := range []int64{0, 1, 2, 5, 64} {
		for at := range size + 8 {
			for _, n := range []int{0, 1, 2, 3, 5, 9} {
				wantAround(t, size, api.Op{Do: api.DoWrite, At: at, B: []byte(letters(n))})
			}
		}
	}
}

// Cuts shorter, to just Size, and longer.
func TestP143Cuts(t *testing.T) {
	for _, size := range []int64{0, 1, 2, 5, 64} {
		for to := range size + 8 {
			wantAround(t, size, api.Op{Do: api.DoCut, At: to})
		}
	}
}

// Writes of noughts are writes as all others are.
func TestP143Noughts(t *testing.T) {
	d := newDesk(t, span.New([]byte("abc")), 15, 2)
	d.want(t, api.Op{Do: api.DoWrite, At: 2, B: make([]byte, 3)})
	d.purse.wantLeft(t, 0)
	wantAll(t, "ab\x00\x00\x00", d.quota)
	d.want(t, api.Op{Do: api.DoWrite, At: 5, B: make([]byte, 1)})
	d.want(t, api.Op{Do: api.DoWrite, At: 1, B: make([]byte, 4)})
	wantAll(t, "a\x00\x00\x00\x00", d.quota)
}

// The greatest writes and cuts, and those that end just at MaxSize.
func TestP143Greatest(t *testing.T) {
	for _, size := range []int64{0, 1, api.MaxText, api.MaxSize - api.MaxText, api.MaxSize - 1, api.MaxSize} {
		for _, n := range []int{1, api.MaxText - 1, api.MaxText} {
			b := []byte(letters(n))
			for _, at := range []int64{0, 1, max(size-int64(n), 0), max(size-1, 0), size, api.MaxSize - int64(n)} {
				if op := (api.Op{Do: api.DoWrite, At: at, B: b}); refuses(op) == api.OK {
					wantAround(t, size, op)
				}
			}
		}
		for _, to := range []int64{0, 1, api.MaxText, size, api.MaxSize - 1, api.MaxSize} {
			wantAround(t, size, api.Op{Do: api.DoCut, At: to})
		}
	}
}

// A write of no bytes makes nothing longer, wherever it is, with nothing left, too; it comes to the file.
func TestP143WritesOfNone(t *testing.T) {
	for _, size := range []int64{0, 5, api.MaxSize} {
		for _, most := range []int64{0, 1, 9, api.MaxSize} {
			for _, at := range []int64{0, 1, 4, 5, 6, 20, api.MaxText, api.MaxSize - 1, api.MaxSize} {
				for _, b := range [][]byte{nil, {}, []byte("abc")[:0]} {
					d := newDesk(t, patterned(size, 0x5555), 15, most)
					if e := d.want(t, api.Op{Do: api.DoWrite, At: at, B: b}); e != api.OK {
						t.Errorf("a write of none at %d answers %v", at, e)
					}
					d.purse.wantLeft(t, most)
				}
			}
		}
	}
}

// What the rules refuse is refused ahead of the purse, with much, little and nothing left, and nothing is asked.
func TestP143RulesFirst(t *testing.T) {
	long := []byte(letters(api.MaxText + 1))
	for _, most := range []int64{0, 1, 40, api.MaxSize} {
		d := newDesk(t, patterned(40, 0x5555), 15, most)
		for _, at := range []int64{math.MinInt64, math.MinInt64 + 1, -api.MaxSize, -1} {
			for _, b := range [][]byte{nil, []byte("x"), long[1:], long} {
				if e := d.want(t, api.Op{Do: api.DoWrite, At: at, B: b}); e != api.ErrArg {
					t.Errorf("a write of %d bytes at %d answers %v", len(b), at, e)
				}
			}
			if e := d.want(t, api.Op{Do: api.DoCut, At: at}); e != api.ErrArg {
				t.Errorf("a cut to %d answers %v", at, e)
			}
		}
		for _, at := range []int64{api.MaxSize + 1, api.MaxSize + 2, math.MaxInt64 - api.MaxText - 1, math.MaxInt64 - 1, math.MaxInt64} {
			for _, b := range [][]byte{nil, []byte("x"), long[1:], long} {
				if e := d.want(t, api.Op{Do: api.DoWrite, At: at, B: b}); e != api.ErrLong {
					t.Errorf("a write of %d bytes at %d answers %v", len(b), at, e)
				}
			}
			if e := d.want(t, api.Op{Do: api.DoCut, At: at}); e != api.ErrLong {
				t.Errorf("a cut to %d answers %v", at, e)
			}
		}
		for _, op := range []api.Op{{At: 0, B: long}, {At: 40, B: long}, {At: api.MaxSize, B: long[:1]}, {At: api.MaxSize - 1, B: long[:2]}, {At: api.MaxSize - api.MaxText + 1, B: long[1:]}} {
			op.Do = api.DoWrite
			if e := d.want(t, op); e != api.ErrLong {
				t.Errorf("a write of %d bytes at %d answers %v", len(op.B), op.At, e)
			}
		}
		d.purse.wantLeft(t, most)
	}
}

// All bounds, through files of all sets, with much, little and nothing left.
func TestP143Edges(t *testing.T) {
	for can := range uint8(16) {
		for _, most := range []int64{0, 1, 41, api.MaxText + 1, api.MaxSize - 40, api.MaxSize} {
			d := newDesk(t, patterned(40, 0x5555), can, most)
			for _, op := range edges() {
				d.want(t, op)
			}
		}
	}
}

// A refused call has done nothing: a smaller one behind it is taken, up to just what is left.
func TestP143SmallerBehindRefused(t *testing.T) {
	d := newDesk(t, span.New([]byte("abcde")), 15, 3)
	for _, op := range []api.Op{
		{Do: api.DoWrite, At: 5, B: []byte("1234")}, {Do: api.DoWrite, At: 8, B: []byte("1")}, {Do: api.DoWrite, At: 2, B: []byte("1234567")},
		{Do: api.DoWrite, At: api.MaxSize - 1, B: []byte("1")}, {Do: api.DoCut, At: 9}, {Do: api.DoCut, At: api.MaxSize},
	} {
		if e := d.want(t, op); e != api.ErrQuota {
			t.Errorf("%v answers %v", op, e)
		}
		wantAll(t, "abcde", d.quota)
		d.purse.wantLeft(t, 3)
	}
	d.want(t, api.Op{Do: api.DoWrite, At: 5, B: []byte("1")})
	d.want(t, api.Op{Do: api.DoWrite, At: 6, B: []byte("123")})
	d.want(t, api.Op{Do: api.DoCut, At: 8})
	d.want(t, api.Op{Do: api.DoCut, At: 9})
	d.want(t, api.Op{Do: api.DoWrite, At: 0, B: []byte("12345678")})
	d.want(t, api.Op{Do: api.DoWrite, At: 0, B: []byte("123456789")})
	d.purse.wantLeft(t, 0)
	wantAll(t, "12345678", d.quota)
}

// Bytes that were there when New was called give back when they go: more is left than at first, and more than MaxSize.
func TestP143GivesBack(t *testing.T) {
	d := newDesk(t, span.New([]byte("abcde")), 15, 0)
	d.want(t, api.Op{Do: api.DoCut, At: 2})
	d.purse.wantLeft(t, 3)
	d.want(t, api.Op{Do: api.DoWrite, At: 5, B: []byte("x")})
	d.want(t, api.Op{Do: api.DoWrite, At: 4, B: []byte("x")})
	d.purse.wantLeft(t, 0)
	wantAll(t, "ab\x00\x00x", d.quota)
	full := newDesk(t, patterned(api.MaxSize, 1), 15, api.MaxSize)
	other := full.beside(t, patterned(api.MaxSize, 2), 15)
	full.want(t, api.Op{Do: api.DoCut})
	full.purse.wantLeft(t, 2*api.MaxSize)
	other.want(t, api.Op{Do: api.DoCut, At: 1})
	full.purse.wantLeft(t, 3*api.MaxSize-1)
	full.want(t, api.Op{Do: api.DoCut, At: api.MaxSize})
	full.want(t, api.Op{Do: api.DoCut, At: api.MaxSize + 1})
	other.want(t, api.Op{Do: api.DoCut, At: api.MaxSize})
	full.purse.wantLeft(t, api.MaxSize)
}

// The handle's File does what Do does, and so do Must and a handle of fewer parts.
func TestP143AllWays(t *testing.T) {
	p := newPurse(t, 4)
	h := p.over(t, newFile(t, "abc", 15))
	w, c := h.File().(api.Writer), h.File().(api.Cutter)
	if e := w.WriteAt(3, []byte("xy")); e != api.OK {
		t.Error(e)
	}
	p.wantLeft(t, 2)
	if e := w.WriteAt(5, []byte("xyz")); e != api.ErrQuota {
		t.Error(e)
	}
	if e := c.Cut(8); e != api.ErrQuota {
		t.Error(e)
	}
	if e := c.Cut(6); e != api.OK {
		t.Error(e)
	}
	p.wantLeft(t, 1)
	if told, fell := h.Must(api.Op{Do: api.DoCut, At: 8}); told.E != api.ErrQuota || fell {
		t.Error(told, fell)
	}
	if told, fell := h.Must(api.Op{Do: api.DoWrite, At: 6, B: []byte("z")}); told.E != api.OK || fell {
		t.Error(told, fell)
	}
	p.wantLeft(t, 0)
	wantWrite(t, h.Only(api.CanWrite), 7, "!", api.ErrQuota)
	wantCut(t, h.Only(api.CanCut), 1, api.OK)
	p.wantLeft(t, 6)
	wantAll(t, "a", h)
}
