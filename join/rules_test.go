package join_test

import (
	"bytes"
	"testing"

	"mantle/api"
	"mantle/face"
	"mantle/span"
)

// shelf is files of memory side by side: what stands below, the join over it, and what a plain list of bytes tells.
type shelf struct {
	spans   []*span.Bytes
	handles []*face.Handle
	join    *face.Handle
	book    *book
}

// newShelf makes files of these sizes; bits tell of all their bytes, from the first on, which are written. cans are the files' sets, one behind the other, again and again.
func newShelf(t *testing.T, sizes []int64, bits int, cans ...uint8) *shelf {
	t.Helper()
	x, letter := &shelf{book: &book{}}, byte('a')
	var sets []uint8
	for i, size := range sizes {
		s, p := patterned(letter, size, bits)
		letter, bits = letter+byte(size), bits>>size
		sets = append(sets, cans[i%len(cans)])
		x.spans = append(x.spans, s)
		x.handles = append(x.handles, fileOf(t, s, sets[i]))
		x.book.papers = append(x.book.papers, p)
	}
	x.join, x.book.can = newJoin(t, x.handles...), over(t, sets...)
	return x
}

// wantDo does op through the join, and holds what is told, and what stands below then, against the book.
func (x *shelf) wantDo(t *testing.T, op api.Op) {
	t.Helper()
	wantTold(t, x.join, op, x.book.do(op))
	x.wantState(t)
}

func (x *shelf) wantState(t *testing.T) {
	t.Helper()
	for i, s := range x.spans {
		x.book.papers[i].wantState(t, s)
	}
}

// sizes are lists of files' sizes: some of no bytes at the front, between, at the end.
func sizes() [][]int64 {
	return [][]int64{
		{0}, {7}, {0, 0}, {3, 4}, {0, 7}, {7, 0}, {1, 0, 6}, {0, 3, 0, 0, 2, 0, 2, 0}, {1, 1, 1, 1, 1, 1, 1}, {2, 3, 2}, {0, 0, 0, 5, 2}, {5, 2, 0, 0, 0},
	}
}

// Each op at all bounds, over parts of all sixteen sets, those beside each other unlike or alike.
func TestP62P63P64Rules(t *testing.T) {
	ops := edges()
	for can := range uint8(16) {
		for _, l := range sizes() {
			for _, other := range []uint8{can, 15} {
				for _, op := range ops {
					x := newShelf(t, l, 0b1110011, can, other)
					x.wantDo(t, op)
					if t.Failed() {
						t.Fatalf("sets %d and %d, sizes %v, Do %d at %d, %d, of %d bytes", can, other, l, op.Do, op.At, op.N, len(op.B))
					}
				}
			}
		}
	}
}

// All patterns of seven bytes and holes, parted in many ways: all stretches, and all that is read.
func TestP62P64AllPatterns(t *testing.T) {
	for bits := range 1 << 7 {
		for _, l := range sizes() {
			x := newShelf(t, l, bits, api.CanHoles)
			wantTold(t, x.join, api.Op{}, x.book.do(api.Op{}))
			for at := int64(-2); at < 10; at++ {
				op := api.Op{Do: api.DoNext, At: at}
				wantTold(t, x.join, op, x.book.do(op))
				for _, n := range []int{0, 1, 2, 3, 7, 9} {
					op = api.Op{Do: api.DoRead, At: at, N: n}
					wantTold(t, x.join, op, x.book.do(op))
				}
			}
			if t.Failed() {
				t.Fatalf("pattern %b, sizes %v", bits, l)
			}
		}
	}
}

// All writes of up to nine bytes at all places of seven, and some behind: what stands in each part then.
func TestP63AllWrites(t *testing.T) {
	for _, l := range sizes() {
		for at := int64(-1); at < 10; at++ {
			for n := range 10 {
				x := newShelf(t, l, 0b0110101, 15)
				x.wantDo(t, api.Op{Do: api.DoWrite, At: at, B: []byte("ABCDEFGHI")[:n]})
				x.wantDo(t, api.Op{Do: api.DoSize})
				x.wantDo(t, api.Op{Do: api.DoRead, N: 20})
				x.wantDo(t, api.Op{Do: api.DoNext, At: at})
				if t.Failed() {
					t.Fatalf("sizes %v, %d bytes at %d", l, n, at)
				}
			}
		}
	}
}

// A write ends at Size, and one place behind it; at a border, and one place behind it.
func TestP63Ends(t *testing.T) {
	a, b := newFile(t, "abc", 15), newFile(t, "de", 15)
	j := newJoin(t, a, b)
	for _, x := range []struct {
		at int64
		b  string
	}{{4, "12"}, {5, "1"}, {0, "123456"}, {3, "123"}, {6, "1"}, {api.MaxSize - 1, "1"}, {api.MaxSize, "1"}} {
		wantWrite(t, j, x.at, x.b, api.ErrLong)
	}
	wantRead(t, j, 0, 9, "abcde")
	wantSize(t, a, 3)
	wantSize(t, b, 2)
	wantWrite(t, j, 4, "E", api.OK)
	wantRead(t, b, 0, 9, "dE")
	wantWrite(t, j, 0, "ABC", api.OK)
	wantRead(t, j, 0, 9, "ABCdE")
	wantWrite(t, j, 2, "cD", api.OK)
	wantRead(t, j, 0, 9, "ABcDE")
	wantWrite(t, j, 0, "vwxyz", api.OK)
	wantRead(t, a, 0, 9, "vwx")
	wantRead(t, b, 0, 9, "yz")
}

// A write of none is taken wherever a file's is, behind Size too, and comes to no part.
func TestP63EmptyWrite(t *testing.T) {
	r := newRefuser(t, "abc")
	r.no[api.DoWrite] = api.ErrGone
	for _, j := range []*face.Handle{newJoin(t, r.handle(15)), newJoin(t, newFile(t, "", 15), r.handle(15), newFile(t, "", 15))} {
		for _, at := range []int64{0, 1, 3, 4, 99, api.MaxSize} {
			wantWrite(t, j, at, "", api.OK)
		}
		wantWrite(t, j, -1, "", api.ErrArg)
		wantWrite(t, j, api.MaxSize+1, "", api.ErrLong)
	}
	if l := r.asked(api.DoWrite); len(l) != 0 {
		t.Errorf("a part was asked %v", l)
	}
	wantSize(t, r.all, 3)
}

// One read, one write has at most MaxText bytes, however many parts it goes through.
func TestP62P63MaxText(t *testing.T) {
	var l []*face.Handle
	for range 5 {
		l = append(l, sized(t, api.MaxText/4))
	}
	j := newJoin(t, l...)
	b := bytes.Repeat([]byte("0123456789abcdefX"), api.MaxText)[:api.MaxText]
	long := append(bytes.Clone(b), 'y')
	wantTold(t, j, api.Op{Do: api.DoWrite, B: long}, api.Told{E: api.ErrLong})
	wantTold(t, j, api.Op{Do: api.DoWrite, At: -1, B: long}, api.Told{E: api.ErrArg})
	wantNext(t, j, 0, 5*api.MaxText/4, 5*api.MaxText/4)
	wantTold(t, j, api.Op{Do: api.DoWrite, At: 7, B: b}, api.Told{})
	wantTold(t, j, api.Op{Do: api.DoRead, At: 7, N: api.MaxText}, api.Told{Data: b})
	wantTold(t, j, api.Op{Do: api.DoRead, N: api.MaxText + 1}, api.Told{E: api.ErrLong})
	wantTold(t, j, api.Op{Do: api.DoRead, At: -1, N: api.MaxText + 1}, api.Told{E: api.ErrArg})
	wantNext(t, j, 0, 7, 7+api.MaxText)
	wantTold(t, l[1], api.Op{Do: api.DoRead, N: 3}, api.Told{Data: b[api.MaxText/4-7:][:3]})
}

// Stretches that meet at a border are one, across parts of no bytes too; a hole of one byte at either side of it parts them.
func TestP64Borders(t *testing.T) {
	for _, x := range []struct {
		parts []string // a dot is a hole
		want  []api.Stretch
	}{
		{[]string{"abc", "de"}, []api.Stretch{{From: 0, To: 5}}},
		{[]string{"abc", "", "", "de"}, []api.Stretch{{From: 0, To: 5}}},
		{[]string{"", ".bc", "", "d."}, []api.Stretch{{From: 1, To: 4}}},
		{[]string{"ab.", "de"}, []api.Stretch{{From: 0, To: 2}, {From: 3, To: 5}}},
		{[]string{"abc", ".e"}, []api.Stretch{{From: 0, To: 3}, {From: 4, To: 5}}},
		{[]string{"ab.", "", ".e"}, []api.Stretch{{From: 0, To: 2}, {From: 4, To: 5}}},
		{[]string{"a.c", "de", "f.h"}, []api.Stretch{{From: 0, To: 1}, {From: 2, To: 6}, {From: 7, To: 8}}},
		{[]string{"...", "..", ".g"}, []api.Stretch{{From: 6, To: 7}}},
		{[]string{"abc", "...", "g"}, []api.Stretch{{From: 0, To: 3}, {From: 6, To: 7}}},
		{[]string{"...", "", ".."}, nil},
		{[]string{"", ""}, nil},
		{[]string{"a", "b", "", "c", "d", ""}, []api.Stretch{{From: 0, To: 4}}},
		{[]string{"a", "b", "", "c.", "d", ""}, []api.Stretch{{From: 0, To: 3}, {From: 4, To: 5}}},
	} {
		j := newJoin(t, dotted(t, x.parts)...)
		size, at := j.Do(api.Op{}).N, int64(0)
		for _, s := range x.want {
			for p := at; p < s.To; p++ {
				wantNext(t, j, p, max(p, s.From), s.To)
			}
			at = s.To
		}
		for _, p := range []int64{at, size, size + 1, api.MaxSize, 1 << 62} {
			wantNext(t, j, p, size, size)
		}
		want := j.Do(api.Op{Do: api.DoNext})
		for _, p := range []int64{-1, -9, -1 << 63} {
			wantTold(t, j, api.Op{Do: api.DoNext, At: p}, want)
		}
		if t.Failed() {
			t.Fatalf("parts %q", x.parts)
		}
	}
}

// dotted are files of these bytes, dots being holes.
func dotted(t *testing.T, parts []string) (l []*face.Handle) {
	t.Helper()
	for _, text := range parts {
		s := span.New([]byte(text))
		for i := range len(text) {
			if text[i] == '.' {
				s.Punch(int64(i), 1)
			}
		}
		l = append(l, fileOf(t, s, 15))
	}
	return l
}

// Sizes are asked at each call: where a part begins moves with them.
func TestP62SizesAreAsked(t *testing.T) {
	a, b, c := span.New([]byte("abc")), span.New([]byte("de")), span.New(nil)
	j := newJoin(t, fileOf(t, a, 15), fileOf(t, c, 15), fileOf(t, b, 15))
	wantRead(t, j, 0, 9, "abcde")
	a.Cut(1)
	wantSize(t, j, 3)
	wantRead(t, j, 0, 9, "ade")
	wantNext(t, j, 0, 0, 3)
	c.Put(0, []byte("XYZ"))
	wantRead(t, j, 0, 9, "aXYZde")
	wantWrite(t, j, 3, "zD", api.OK)
	wantRead(t, j, 0, 9, "aXYzDe")
	a.Cut(0)
	c.Cut(4)
	wantRead(t, j, 0, 9, "XYz\x00De")
	wantNext(t, j, 1, 1, 3)
	wantNext(t, j, 3, 4, 6)
	b.Cut(0)
	c.Cut(0)
	wantSize(t, j, 0)
	wantRead(t, j, 0, 9, "")
	wantNext(t, j, 0, 0, 0)
	wantWrite(t, j, 0, "x", api.ErrLong)
}

// Parts that grow beside the join until their Sizes together are above MaxSize: what would lie behind that is not there.
func TestP62GrownPastMaxSize(t *testing.T) {
	a, b, c := span.New([]byte("abc")), span.New([]byte("de")), newRefuser(t, "fgh")
	j := newJoin(t, fileOf(t, a, 15), fileOf(t, b, 15), c.handle(15))
	a.Cut(api.MaxSize - 6)
	a.Put(api.MaxSize-7, []byte("z"))
	wantSize(t, j, api.MaxSize-1)
	wantRead(t, j, api.MaxSize-7, 9, "zdefgh")
	wantWrite(t, j, api.MaxSize-3, "GHI", api.ErrLong)
	b.Put(2, []byte("EE"))
	wantSize(t, j, api.MaxSize)
	wantRead(t, j, api.MaxSize-7, 9, "zdeEEfg")
	wantRead(t, j, api.MaxSize-1, 9, "g")
	wantRead(t, j, api.MaxSize, 9, "")
	wantNext(t, j, 3, api.MaxSize-7, api.MaxSize)
	wantNext(t, j, api.MaxSize-1, api.MaxSize-1, api.MaxSize)
	wantNext(t, j, api.MaxSize, api.MaxSize, api.MaxSize)
	wantWrite(t, j, api.MaxSize-1, "GH", api.ErrLong)
	wantWrite(t, j, api.MaxSize-2, "FG", api.OK)
	wantRead(t, c.all, 0, 9, "FGh")
	b.Cut(api.MaxSize)
	c.calls = nil
	wantSize(t, j, api.MaxSize)
	wantRead(t, j, api.MaxSize-7, 9, "zdeEE\x00\x00")
	wantNext(t, j, 3, api.MaxSize-7, api.MaxSize-2)
	wantNext(t, j, api.MaxSize-2, api.MaxSize, api.MaxSize)
	wantWrite(t, j, api.MaxSize-1, "x", api.OK)
	if len(c.calls) != len(c.asked(api.DoSize)) {
		t.Errorf("a part behind MaxSize was asked %v", c.calls)
	}
	a.Cut(api.MaxSize)
	wantSize(t, j, api.MaxSize)
	wantError(t, []*face.Handle{fileOf(t, a, 15), fileOf(t, b, 15)}, api.ErrLong)
	a.Cut(0)
	b.Cut(1)
	wantRead(t, j, 0, 9, "dFGh")
}

// The same part more than once: each write comes to it in order, and is read at each of its places.
func TestP62P63P64Twice(t *testing.T) {
	s := span.New([]byte("abc"))
	h := fileOf(t, s, 15)
	j := newJoin(t, h, newFile(t, "-", 15), h, fileOf(t, s, 15))
	wantSize(t, j, 10)
	wantRead(t, j, 0, 99, "abc-abcabc")
	wantNext(t, j, 2, 2, 10)
	wantWrite(t, j, 1, "X", api.OK)
	wantRead(t, j, 0, 99, "aXc-aXcaXc")
	wantWrite(t, j, 6, "123", api.OK) // the last of one place, then the first two of another
	wantRead(t, j, 0, 99, "231-231231")
	wantWrite(t, j, 0, "ABC-DEFGHI", api.OK)
	wantRead(t, h, 0, 9, "GHI")
	s.Punch(0, 1)
	wantNext(t, j, 0, 1, 4)
	wantNext(t, j, 4, 5, 7)
	s.Cut(1)
	wantSize(t, j, 4)
	wantNext(t, j, 0, 1, 2)
}

// Where parts begin is as it is at the call, though a part's Size changes while the call is under way.
func TestP62P63P64PlacesAtTheCall(t *testing.T) {
	for _, op := range []api.Op{{Do: api.DoRead, N: 8}, {Do: api.DoWrite, B: []byte("ABCDEFGH")}, {Do: api.DoNext}} {
		for _, size := range []int64{0, 1, 9} {
			l, j, calls := three(t)
			note := l[0].note
			l[0].note = func(op api.Op) {
				note(op)
				if op.Do != api.DoSize { // behind what was asked, so that the first part's own answer is the old one
					l[1].all.Do(api.Op{Do: api.DoCut, At: size})
					l[1].all.Do(api.Op{Do: api.DoWrite, B: []byte("dexyzuvwq")[:size]})
				}
			}
			j.Do(op)
			want := map[int8][]string{
				api.DoRead:  {"0 1 0 3 ", "1 1 0 2 ", "2 1 0 3 "},
				api.DoWrite: {"0 2 0 0 ABC", "1 2 0 0 DE", "2 2 0 0 FGH"},
				api.DoNext:  {"0 4 0 0 ", "1 4 0 0 ", "2 4 0 0 "},
			}[op.Do]
			if size < 2 && op.Do != api.DoWrite { // the part tells less than it had at the call, which ends the call
				want = want[:2]
			}
			wantCalls(t, calls, want...)
		}
	}
}
