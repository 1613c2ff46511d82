package join_test

import (
	"fmt"
	"slices"
	"testing"

	"mantle/api"
	"mantle/face"
	"mantle/join"
)

// Whatever is done through a join: it tells what the parts' bytes tell, one behind the other; each part's bytes are its stretch, and no Size changes.
func TestP65PlainBytes(t *testing.T) {
	c := chance(3)
	for range 150 {
		var l []int64
		for range 1 + c.below(6) {
			l = append(l, int64(c.below(5)))
		}
		x := newShelf(t, l, c.below(1<<24), 13+2*uint8(c.below(2)))
		for range 60 {
			op := c.op()
			x.wantDo(t, op)
			for i, h := range x.handles {
				wantSize(t, h, l[i])
				wantTold(t, h, api.Op{Do: api.DoRead, N: 99}, api.Told{Data: x.stretch(i)})
			}
			if t.Failed() {
				t.Fatalf("sizes %v, %+v", l, op)
			}
		}
	}
}

// stretch is what the join tells of where a part lies.
func (x *shelf) stretch(i int) []byte {
	at := int64(0)
	for _, p := range x.book.papers[:i] {
		at += int64(len(p.data))
	}
	return x.join.Do(api.Op{Do: api.DoRead, At: at, N: len(x.book.papers[i].data)}).Data
}

// Each of the six ops through joins and beside them, over parts of all sets: all tell of the same bytes.
func TestP62P63P64Beside(t *testing.T) {
	c := chance(6)
	for range 100 {
		x := newShelf(t, []int64{int64(c.below(4)), int64(c.below(4)), int64(c.below(4))}, c.below(1<<9), 15)
		hands, books := []*face.Handle{x.join}, []*book{x.book}
		for i, s := range x.spans {
			can := uint8(c.below(16))
			hands, books = append(hands, fileOf(t, s, can)), append(books, &book{[]*paper{x.book.papers[i]}, can, true})
		}
		for range 4 { // joins of some of these, in any order, some twice
			var l []*face.Handle
			b, sets := &book{}, []uint8{}
			for range 1 + c.below(4) {
				i := 1 + c.below(3)
				l, b.papers, sets = append(l, hands[i]), append(b.papers, books[i].papers[0]), append(sets, books[i].can)
			}
			b.can = over(t, sets...)
			hands, books = append(hands, newJoin(t, l...)), append(books, b)
		}
		for range 120 {
			i, op := c.below(len(hands)), c.op()
			wantTold(t, hands[i], op, books[i].do(op))
			x.wantState(t)
			if t.Failed() {
				t.Fatalf("%+v through %d of %d", op, i, len(hands))
			}
		}
	}
}

// nest joins the handles in groups, and the groups: bits tell behind which handle a group ends. Some groups are joined once more by themselves.
func nest(t *testing.T, l []*face.Handle, bits int) *face.Handle {
	t.Helper()
	var outer, group []*face.Handle
	for i, h := range l {
		group = append(group, h)
		if i == len(l)-1 || bits>>i&1 == 1 {
			g := newJoin(t, group...)
			if len(group)%2 == 0 {
				g = newJoin(t, g)
			}
			outer, group = append(outer, g), nil
		}
	}
	return newJoin(t, outer...)
}

// few are ops enough to tell two joins of few bytes from each other, those that change nothing behind each one that does.
func few() (l []api.Op) {
	look := []api.Op{{Do: api.DoSize}, {Do: api.DoRead, N: 20}, {Do: api.DoRead, At: 2, N: 3}, {Do: api.DoNext}, {Do: api.DoNext, At: 3}, {Do: api.DoSync}, {Do: api.DoCut}}
	l = append(l, look...)
	for at := range int64(9) {
		for _, b := range []string{"", "V", "WX", "WXYZ", "1234567"} {
			l = append(append(l, api.Op{Do: api.DoWrite, At: at, B: []byte(b)}), look...)
		}
	}
	return l
}

// wantAlike does each op through both, and holds what is told, and what stands below, against each other.
func wantAlike(t *testing.T, one, two *face.Handle, below, other *shelf, ops []api.Op) {
	t.Helper()
	for _, op := range ops {
		wantTold(t, one, op, two.Do(op))
		for i, s := range below.spans {
			o := other.spans[i]
			if s.Size() != o.Size() || s.Held() != o.Held() || string(s.Get(0, 99)) != string(o.Get(0, 99)) {
				t.Errorf("below %q, and %q", s.Get(0, 99), o.Get(0, 99))
			}
		}
		if t.Failed() {
			t.Fatalf("Do %d at %d, %d, of %d bytes", op.Do, op.At, op.N, len(op.B))
		}
	}
}

// A join of joins, however its parts are grouped, is the join of all parts.
func TestP66JoinOfJoins(t *testing.T) {
	for _, l := range sizes() {
		for bits := range 1 << (len(l) - 1) {
			below, other := newShelf(t, l, 0b1110011, 15), newShelf(t, l, 0b1110011, 15)
			wantAlike(t, nest(t, below.handles, bits), other.join, below, other, few())
		}
	}
}

// At the bounds, and over parts of all sixteen sets.
func TestP66Edges(t *testing.T) {
	l := []int64{2, 0, 3, 2}
	for can := range uint8(16) {
		for _, sets := range [][]uint8{{can}, {can, 15}, {15, 15, can, 15}} {
			for bits := range 1 << (len(l) - 1) {
				below, other := newShelf(t, l, 0b1110011, sets...), newShelf(t, l, 0b1110011, sets...)
				one := nest(t, below.handles, bits)
				wantCan(t, one, other.book.can)
				wantAlike(t, one, other.join, below, other, edges())
			}
		}
	}
}

// Where parts refuse, a join of joins asks them what the join of all asks, in the same order, and tells the same.
func TestP66Refused(t *testing.T) {
	for bits := range 1 << 2 {
		for no := range 1 << 3 {
			l1, _, calls1 := three(t)
			l2, flat, calls2 := three(t)
			for i := range 3 {
				if no>>i&1 == 1 {
					e := api.Errno(1000 + i)
					l1[i].no = [6]api.Errno{0, e, e, e, 0, e}
					l2[i].no = l1[i].no
				}
			}
			one := nest(t, []*face.Handle{l1[0].handle(15), l1[1].handle(15), l1[2].handle(15)}, bits)
			for _, op := range append(few(), edges()...) {
				wantTold(t, one, op, flat.Do(op))
				wantCalls(t, calls1, *calls2...)
				*calls2 = nil
				if t.Failed() {
					t.Fatalf("grouped %b, refused %b, Do %d at %d, %d, of %d bytes", bits, no, op.Do, op.At, op.N, len(op.B))
				}
			}
		}
	}
}

// A join of MaxParts joins of MaxParts files each, one byte in each file; and joins that stand deep.
func TestP66Many(t *testing.T) {
	var outer []*face.Handle
	var want []byte
	for i := range api.MaxParts {
		var l []*face.Handle
		for k := range api.MaxParts {
			want = append(want, byte(i*7+k))
			l = append(l, newFile(t, string(want[len(want)-1:]), 15))
		}
		outer = append(outer, newJoin(t, l...))
	}
	j := newJoin(t, outer...)
	wantSize(t, j, api.MaxParts*api.MaxParts)
	wantTold(t, j, api.Op{Do: api.DoRead, N: api.MaxText}, api.Told{Data: want})
	wantNext(t, j, 99, 99, api.MaxParts*api.MaxParts)
	slices.Reverse(want)
	wantTold(t, j, api.Op{Do: api.DoWrite, B: want}, api.Told{})
	wantTold(t, j, api.Op{Do: api.DoRead, At: 1000, N: 2000}, api.Told{Data: want[1000:3000]})
	deep := newFile(t, "a", 15)
	for range 300 {
		deep = newJoin(t, deep, newFile(t, "b", 13))
	}
	wantCan(t, deep, 13)
	wantSize(t, deep, 301)
	wantWrite(t, deep, 0, "xyz", api.OK)
	wantRead(t, deep, 0, 5, "xyzbb")
	wantNext(t, deep, 7, 7, 301)
}

// The cap at MaxSize is the same, however the parts are grouped.
func TestP66GrownPastMaxSize(t *testing.T) {
	for bits := range 1 << 2 {
		below, other := newShelf(t, []int64{3, 2, 2}, 0b1111111, 15), newShelf(t, []int64{3, 2, 2}, 0b1111111, 15)
		one := nest(t, below.handles, bits)
		for _, x := range []*shelf{below, other} {
			x.spans[1].Cut(api.MaxSize - 4)
			x.spans[1].Put(api.MaxSize-6, []byte("yz"))
		}
		wantSize(t, one, api.MaxSize)
		wantRead(t, one, api.MaxSize-3, 9, "yzf")
		wantAlike(t, one, other.join, below, other, append(few(), edges()...))
		for _, x := range []*shelf{below, other} {
			x.spans[0].Cut(api.MaxSize)
		}
		wantAlike(t, one, other.join, below, other, append(few(), edges()...))
	}
}

// A join of one file tells what the file tells, but for Cut, and for writes that would make it longer.
func TestP67JoinOfOne(t *testing.T) {
	for can := range uint8(16) {
		for _, size := range []int64{0, 1, 7} {
			below, other := newShelf(t, []int64{size}, 0b1110011, can), newShelf(t, []int64{size}, 0b1110011, can)
			file := fileOf(t, other.spans[0], can&^api.CanCut)
			for _, op := range append(edges(), few()...) {
				n := int64(len(op.B))
				if op.Do == api.DoWrite && can&api.CanWrite != 0 && refuses(op) == api.OK && n > 0 && op.At > size-n {
					wantTold(t, below.join, op, api.Told{E: api.ErrLong})
					continue
				}
				wantAlike(t, below.join, file, below, other, []api.Op{op})
			}
		}
	}
}

// Also of one that refuses what falls to it, and of a join of a join of one.
func TestP67Refused(t *testing.T) {
	for no := range 1 << 3 {
		r := newRefuser(t, "0123456")
		for i, do := range []int8{api.DoRead, api.DoWrite, api.DoSync} {
			if no>>i&1 == 1 {
				r.no[do] = api.ErrGone
			}
		}
		h := r.handle(13)
		for _, j := range []*face.Handle{newJoin(t, h), newJoin(t, newJoin(t, h))} {
			for at := range int64(7) {
				for n := 1; int64(n) <= 7-at; n++ {
					op := api.Op{Do: api.DoRead, At: at, N: n}
					wantTold(t, j, op, h.Do(op))
					op = api.Op{Do: api.DoWrite, At: at, B: []byte("ABCDEFG")[:n]}
					wantTold(t, j, op, h.Do(op))
				}
				op := api.Op{Do: api.DoNext, At: at}
				wantTold(t, j, op, h.Do(op))
			}
			wantTold(t, j, api.Op{Do: api.DoSync}, h.Do(api.Op{Do: api.DoSync}))
		}
		if t.Failed() {
			t.Fatalf("refused: %v", r.no)
		}
	}
}

// A nil join, as New answers it beside an error, is a nil handle like any other.
func TestNilJoin(t *testing.T) {
	j, e := join.New(nil)
	if j != nil || e != api.ErrArg || j.File() != nil || j.Can() != 0 || j.Only(15) != nil {
		t.Fatalf("New(nil) answers %v, %v", j, e)
	}
	for do := int8(-1); do < 7; do++ {
		wantTold(t, j, api.Op{Do: do, N: 1}, api.Told{E: api.ErrNil})
		if told, fell := j.Must(api.Op{Do: do}); told.E != api.ErrNil || fell {
			t.Errorf("Must of %d tells %v, %v", do, told, fell)
		}
	}
	wantError(t, []*face.Handle{j}, api.ErrNil)
}

// Only narrows a join like any handle, and over the narrowed one stands a join that can as little.
func TestOnly(t *testing.T) {
	j := newJoin(t, newFile(t, "abc", 15), newFile(t, "de", 15))
	for can := range uint8(16) {
		wantCan(t, j.Only(can), can&13)
		wantCan(t, newJoin(t, j.Only(can), newFile(t, "", 15)), can&13)
		if got := fmt.Sprintf("%s", j.Only(can).Do(api.Op{Do: api.DoRead, N: 9}).Data); got != "abcde" {
			t.Errorf("it reads %q", got)
		}
	}
}
