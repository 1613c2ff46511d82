package rights_test

import (
	"testing"

	"mantle/api"
	"mantle/rights"
)

// P17.1: one grant, that has all, and none besides.
func TestP171(t *testing.T) {
	d := newDesk(t)
	d.wantAll()
	if d.book.Rights(0) != api.RightAll || len(d.book.Below(0)) != 0 {
		t.Errorf("grant 0 has %d, and below it %v", d.book.Rights(0), d.book.Below(0))
	}
	for _, id := range never(1) {
		d.back(id)
		d.give(id, 0)
	}
	d.wantAll()
	if n := d.given(0, 63); n != 1 {
		t.Errorf("the first number is %d", n)
	}
}

// Each book is its own, and nothing is left behind in the package.
func TestP171BooksAreApart(t *testing.T) {
	one, two := newDesk(t), newDesk(t)
	if one.book == two.book {
		t.Error("two books are the same")
	}
	one.given(0, 5)
	one.given(1, 1)
	two.wantAll()
	two.given(0, 9)
	one.back(1)
	one.wantAll()
	two.wantAll()
	newDesk(t).wantAll()
}

// P17.2: each set of rights, and of bits beyond, out of a grant of each set.
func TestP172AllSets(t *testing.T) {
	for has := range uint8(64) {
		d := newDesk(t)
		of := d.given(0, has)
		taken := 0
		for r := range 256 {
			n, e := d.give(of, uint8(r))
			if e == api.OK {
				taken++
				if d.book.Rights(n) != uint8(r) {
					t.Errorf("Give(%d) out of %d has %d", r, has, d.book.Rights(n))
				}
			}
		}
		sets := 1
		for bit := range 6 {
			if has>>bit&1 == 1 {
				sets *= 2
			}
		}
		if taken != sets {
			t.Errorf("out of %d there came %d grants, want %d", has, taken, sets)
		}
		d.wantAll()
	}
}

// P17.2: a grant that has no RightGive gives nevertheless, and so do its own.
func TestP172GivesWithoutRightGive(t *testing.T) {
	d := newDesk(t)
	of := 0
	for _, r := range []uint8{63 - api.RightGive, api.RightRead | api.RightWrite, api.RightRead, 0, 0} {
		of = d.given(of, r)
	}
	d.wantAll()
}

// P17.2: numbers below 0, not yet made, far beyond, and gone.
func TestP172NoGrant(t *testing.T) {
	d := family(t)
	d.back(4)
	for _, id := range append(never(len(d.paper)), 4, 6, 7, 8) {
		for r := range 256 {
			want := api.ErrGone
			if r > 63 {
				want = api.ErrArg
			}
			if n, e := d.give(id, uint8(r)); n != 0 || e != want {
				t.Errorf("Give(%d, %d) answers %d, %v", id, r, n, e)
			}
		}
	}
	d.wantAll()
}

// P17.2: what is refused takes no number.
func TestP172RefusedTakesNoNumber(t *testing.T) {
	d := newDesk(t)
	d.given(0, 3)
	for range 5000 {
		d.give(1, 4)
		d.give(0, 64)
		d.give(9, 0)
	}
	if n := d.given(1, 2); n != 2 {
		t.Errorf("the next number is %d", n)
	}
}

// P17.2: of several errors the first one, in a book with room and in a full one.
func TestP172ErrorsInOrder(t *testing.T) {
	var none *rights.Book
	for _, id := range []int{-1, 0, 1, 9} {
		for _, r := range []uint8{0, 63, 64, 255} {
			if n, e := none.Give(id, r); n != 0 || e != api.ErrNil {
				t.Errorf("of nil Give(%d, %d) answers %d, %v", id, r, n, e)
			}
		}
	}
	d := newDesk(t)
	some := d.given(0, 3)
	gone := d.given(0, 3)
	d.back(gone)
	check := func(last api.Errno) {
		t.Helper()
		for _, x := range []struct {
			id     int
			rights uint8
			want   api.Errno
		}{
			{gone, 64, api.ErrArg}, {some, 64, api.ErrArg}, {some, 67, api.ErrArg}, {-1, 128, api.ErrArg}, {9999, 255, api.ErrArg}, {0, 192, api.ErrArg},
			{gone, 63, api.ErrGone}, {gone, 0, api.ErrGone}, {-1, 4, api.ErrGone}, {9999, 4, api.ErrGone},
			{some, 4, api.ErrRight}, {some, 7, api.ErrRight}, {some, 63, api.ErrRight},
			{some, 3, last}, {some, 0, last}, {0, 63, last},
		} {
			if n, e := d.give(x.id, x.rights); e != x.want || e != api.OK && n != 0 {
				t.Errorf("Give(%d, %d) answers %d, %v, want %v", x.id, x.rights, n, e, x.want)
			}
		}
	}
	check(api.OK)
	for len(d.paper) < api.MaxRights {
		d.given(0, 1)
	}
	check(api.ErrFull)
}

// P17.2: as many as MaxRights, the grant 0 among them, and one more.
func TestP172Full(t *testing.T) {
	d := newDesk(t)
	for i := 1; i < api.MaxRights; i++ {
		if n := d.given(0, uint8(i%64)); n != i {
			t.Fatalf("the number is %d, want %d", n, i)
		}
	}
	for range 3 {
		if _, e := d.give(0, 0); e != api.ErrFull {
			t.Errorf("one more answers %v", e)
		}
	}
	if l := d.book.Below(0); len(l) != api.MaxRights-1 || l[0] != 1 || l[len(l)-1] != api.MaxRights-1 {
		t.Errorf("below 0 there are %d", len(l))
	}
	for _, id := range []int{1, 63, 64, 4094, 4095, 4096} {
		d.wantOne(id)
	}
}

// P17.2: gone ones count, all of them, and those that went with another one.
func TestP172FullOfGoneOnes(t *testing.T) {
	d := newDesk(t)
	for len(d.paper) < api.MaxRights-3 {
		d.back(d.given(0, 63))
	}
	a := d.given(0, 63)
	d.given(a, 63)
	d.given(a, 63)
	if n, e := d.give(0, 1); n != 0 || e != api.ErrFull {
		t.Errorf("with MaxRights made, Give answers %d, %v", n, e)
	}
	if n, e := d.back(a); n != 3 || e != api.OK {
		t.Errorf("Back answers %d, %v", n, e)
	}
	if n, e := d.give(0, 1); n != 0 || e != api.ErrFull {
		t.Errorf("with all of them gone, Give answers %d, %v", n, e)
	}
	if l := d.book.Below(0); len(l) != 0 {
		t.Errorf("below 0 there are %v", l)
	}
	d.wantOne(0)
}

// P17.2: a number never comes again, the greatest one neither, when it is taken back at once.
func TestP172NumbersNeverComeAgain(t *testing.T) {
	for seed := range chance(20) {
		c := seed
		d := newDesk(t)
		seen := map[int]int{0: 1}
		for range 300 {
			if c.below(3) == 0 {
				d.back(c.id(len(d.paper)))
				continue
			}
			n, e := d.give(c.id(len(d.paper)), 63)
			if e != api.OK {
				continue
			}
			if seen[n] != 0 || n != len(seen) {
				t.Fatalf("seed %d: behind %d numbers there comes %d", seed, len(seen), n)
			}
			seen[n] = 1
		}
	}
	d := newDesk(t)
	for i := 1; i < 100; i++ {
		if n := d.given(0, 1); n != i {
			t.Errorf("the number is %d, want %d", n, i)
		}
		d.back(i)
	}
}

// A grant's rights stay what they were, whatever is given out of it.
func TestGiveTakesNothingAway(t *testing.T) {
	d := newDesk(t)
	a := d.given(0, 35)
	for range 5 {
		d.given(a, 35)
		d.given(a, 0)
	}
	if d.book.Rights(a) != 35 || d.book.Rights(0) != 63 {
		t.Errorf("they have %d and %d", d.book.Rights(a), d.book.Rights(0))
	}
	d.wantAll()
}

// A book that is none of New's has no grants, and answers nevertheless.
func TestBookOfNothing(t *testing.T) {
	b := &rights.Book{}
	h := newFile(t, "abc", 15)
	if n, e := b.Give(0, 0); n != 0 || e != api.ErrGone {
		t.Errorf("Give answers %d, %v", n, e)
	}
	if n, e := b.Back(1); n != 0 || e != api.ErrGone {
		t.Errorf("Back answers %d, %v", n, e)
	}
	if g, e := b.Guard(0, h); g != nil || e != api.ErrGone {
		t.Errorf("Guard answers %v, %v", g, e)
	}
	if b.Rights(0) != 0 || len(b.Below(0)) != 0 {
		t.Errorf("it tells %d, %v", b.Rights(0), b.Below(0))
	}
}
