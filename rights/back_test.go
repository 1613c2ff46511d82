package rights_test

import (
	"slices"
	"testing"

	"mantle/api"
	"mantle/rights"
)

// P17.3, P17.4: of a nil book.
func TestP173P174Nil(t *testing.T) {
	var none *rights.Book
	for _, id := range append(never(1), 0, 1) {
		if n, e := none.Back(id); n != 0 || e != api.ErrNil {
			t.Errorf("Back(%d) answers %d, %v", id, n, e)
		}
		if none.Rights(id) != 0 || len(none.Below(id)) != 0 {
			t.Errorf("of %d it tells %d, %v", id, none.Rights(id), none.Below(id))
		}
	}
}

// P17.3: 0 is never taken back, with grants and without.
func TestP173BackOfNought(t *testing.T) {
	for _, d := range []*desk{newDesk(t), family(t)} {
		for range 3 {
			if n, e := d.back(0); n != 0 || e != api.ErrArg {
				t.Errorf("Back(0) answers %d, %v", n, e)
			}
		}
		d.wantAll()
		d.given(0, 63)
	}
}

// P17.3: of each grant of a family, what goes and how many they are; and a second time.
func TestP173EachOfAFamily(t *testing.T) {
	want := map[int][]int{
		1: {1, 4, 5, 6, 7, 8, 10, 11}, 2: {2, 9}, 3: {3}, 4: {4, 6, 7, 8}, 5: {5, 10}, 6: {6, 7, 8}, 7: {7}, 8: {8}, 9: {9}, 10: {10}, 11: {11},
	}
	for id, gone := range want {
		d := family(t)
		if l := d.book.Below(id); !slices.Equal(l, gone[1:]) {
			t.Errorf("Below(%d) tells %v, want %v", id, l, gone[1:])
		}
		if n, e := d.back(id); n != len(gone) || e != api.OK {
			t.Errorf("Back(%d) answers %d, %v, want %d", id, n, e, len(gone))
		}
		for n := range 12 {
			is := d.book.Rights(n) == 63
			if is == slices.Contains(gone, n) {
				t.Errorf("behind Back(%d) the grant %d is there: %v", id, n, is)
			}
		}
		for _, n := range gone {
			if n, e := d.back(n); n != 0 || e != api.ErrGone {
				t.Errorf("Back of what went with %d answers %d, %v", id, n, e)
			}
		}
		d.wantAll()
	}
}

// P17.3: those below that are gone already are not counted once more.
func TestP173GoneOnesDoNotCount(t *testing.T) {
	d := family(t)
	for _, x := range [][2]int{{7, 1}, {6, 2}, {11, 1}, {1, 4}, {2, 2}, {3, 1}} {
		if n, e := d.back(x[0]); n != x[1] || e != api.OK {
			t.Errorf("Back(%d) answers %d, %v, want %d", x[0], n, e, x[1])
		}
		d.wantAll()
	}
	if l := d.book.Below(0); len(l) != 0 {
		t.Errorf("below 0 there are %v", l)
	}
}

// P17.3: numbers that never were, and ones that come to be later.
func TestP173NeverWere(t *testing.T) {
	d := family(t)
	for _, id := range never(len(d.paper)) {
		if n, e := d.back(id); n != 0 || e != api.ErrGone {
			t.Errorf("Back(%d) answers %d, %v", id, n, e)
		}
	}
	d.wantAll()
	if n := d.given(0, 1); n != 12 { // it was asked for ahead of being made
		t.Errorf("the next number is %d", n)
	}
	if n, e := d.back(12); n != 1 || e != api.OK {
		t.Errorf("Back(12) answers %d, %v", n, e)
	}
}

// P17.3, P17.4: rights do not matter, that there are none neither: such a grant is there until it is taken back.
func TestP173GrantsWithoutRights(t *testing.T) {
	d := newDesk(t)
	a := d.given(0, 0)
	b := d.given(a, 0)
	c := d.given(b, 0)
	d.wantAll()
	if l := d.book.Below(a); !slices.Equal(l, []int{b, c}) {
		t.Errorf("Below tells %v", l)
	}
	if n, e := d.back(b); n != 2 || e != api.OK {
		t.Errorf("Back answers %d, %v", n, e)
	}
	d.given(a, 0)
	d.wantAll()
}

// P17.3, P17.4: as many grants as there may be, each of them out of the one ahead of it.
func TestP173AsDeepAsCanBe(t *testing.T) {
	d := newDesk(t)
	for i := range api.MaxRights - 1 {
		d.given(i, 63)
	}
	for _, id := range []int{0, 1, 2, 2047, 4093, 4094, 4095} {
		if l := d.book.Below(id); len(l) != 4095-id || len(l) > 0 && (l[0] != id+1 || l[len(l)-1] != 4095) {
			t.Errorf("below %d there are %d", id, len(l))
		}
	}
	if n, e := d.book.Back(3000); n != 1096 || e != api.OK {
		t.Errorf("Back(3000) answers %d, %v", n, e)
	}
	if d.book.Rights(2999) != 63 || d.book.Rights(3000) != 0 || d.book.Rights(4095) != 0 {
		t.Error("others went, or too few")
	}
	if n, e := d.book.Back(1); n != 2999 || e != api.OK {
		t.Errorf("Back(1) answers %d, %v", n, e)
	}
	if d.book.Rights(0) != 63 || len(d.book.Below(0)) != 0 {
		t.Error("grant 0 is another one")
	}
}

// P17.4: grants that come by turns of several others lie below their own alone, and are told rising.
func TestP174ByTurns(t *testing.T) {
	d := newDesk(t)
	c := chance(1)
	for range 300 {
		d.given(c.below(len(d.paper)), 63)
	}
	d.wantAll()
	for id := range d.paper {
		if l := d.book.Below(id); !slices.IsSorted(l) {
			t.Errorf("Below(%d) tells %v", id, l)
		}
	}
	d.back(3)
	d.wantAll()
}

// P17.4: what is told of rights, for each set there is.
func TestP174Rights(t *testing.T) {
	d := newDesk(t)
	for r := range uint8(64) {
		id := d.given(0, r)
		for range 2 {
			if got := d.book.Rights(id); got != r {
				t.Errorf("it has %d, want %d", got, r)
			}
		}
	}
	for r := range 64 {
		d.back(r + 1)
		if got := d.book.Rights(r + 1); got != 0 {
			t.Errorf("when it is gone it has %d", got)
		}
	}
	d.wantAll()
}

// P17.4, R3: the caller may write over what Below told, and grow it; the book and other lists stay.
func TestP174NewMemory(t *testing.T) {
	d := family(t)
	for id := range d.paper {
		l, other := d.book.Below(id), d.book.Below(id)
		want := slices.Clone(l)
		room := l[:cap(l)]
		for i := range room {
			room[i] = -7
		}
		l = append(l, 1, 2, 3)
		_ = append(other[:len(other):cap(other)], 99)
		if !slices.Equal(other, want) {
			t.Errorf("another list of Below(%d) became %v", id, other)
		}
		d.wantAll()
	}
	d.given(8, 1)
	d.back(1)
	d.wantAll()
}

// A list that was told stays as it is when grants come and go.
func TestP174ListsStay(t *testing.T) {
	d := family(t)
	l := d.book.Below(1)
	want := slices.Clone(l)
	d.given(1, 63)
	d.given(4, 63)
	d.back(6)
	d.back(1)
	if !slices.Equal(l, want) {
		t.Errorf("it became %v, was %v", l, want)
	}
	d.wantAll()
}
