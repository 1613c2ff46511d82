package rights_test

import (
	"slices"
	"testing"

	"mantle/api"
	"mantle/rights"
)

// entry is a grant on paper; grant 0 came of -1.
type entry struct {
	rights uint8
	of     int
	gone   bool
}

// paper is a book as the chapter's words tell it: all grants that were ever made, by their numbers.
type paper []entry

func (p paper) has(id int) bool { return id >= 0 && id < len(p) && !p[id].gone }

// give is P17.2, word for word.
func (p *paper) give(id int, rights uint8) (int, api.Errno) {
	switch l := *p; {
	case rights >= 64:
		return 0, api.ErrArg
	case !l.has(id):
		return 0, api.ErrGone
	case rights|l[id].rights != l[id].rights:
		return 0, api.ErrRight
	case len(l) == 4096:
		return 0, api.ErrFull
	}
	*p = append(*p, entry{rights: rights, of: id})
	return len(*p) - 1, api.OK
}

// under tells whether n came of id, or of one that is under it.
func (p paper) under(n, id int) bool {
	for n = p[n].of; n > id; {
		n = p[n].of
	}
	return n == id
}

// below is P17.4's.
func (p paper) below(id int) (l []int) {
	if !p.has(id) {
		return nil
	}
	for n := range p {
		if p.has(n) && p.under(n, id) {
			l = append(l, n)
		}
	}
	return l
}

// back is P17.3, word for word.
func (p paper) back(id int) (int, api.Errno) {
	if id == 0 {
		return 0, api.ErrArg
	}
	if !p.has(id) {
		return 0, api.ErrGone
	}
	l := append(p.below(id), id)
	for _, n := range l {
		p[n].gone = true
	}
	return len(l), api.OK
}

// rightsOf is P17.4's.
func (p paper) rightsOf(id int) uint8 {
	if !p.has(id) {
		return 0
	}
	return p[id].rights
}

// desk is a book, and beside it what it is to be.
type desk struct {
	t     *testing.T
	book  *rights.Book
	paper paper
}

func newDesk(t *testing.T) *desk {
	t.Helper()
	b := rights.New()
	if b == nil {
		t.Fatal("New answers nil")
	}
	return &desk{t, b, paper{{rights: 63, of: -1}}}
}

// give holds what Give answers.
func (d *desk) give(id int, r uint8) (int, api.Errno) {
	d.t.Helper()
	want, wantE := d.paper.give(id, r)
	n, e := d.book.Give(id, r)
	if n != want || e != wantE {
		d.t.Errorf("Give(%d, %d) answers %d, %v, want %d, %v", id, r, n, e, want, wantE)
	}
	return n, e
}

// given is a Give that is to be taken.
func (d *desk) given(id int, r uint8) int {
	d.t.Helper()
	n, e := d.give(id, r)
	if e != api.OK {
		d.t.Fatalf("Give(%d, %d) answers %v", id, r, e)
	}
	return n
}

// back holds what Back answers.
func (d *desk) back(id int) (int, api.Errno) {
	d.t.Helper()
	want, wantE := d.paper.back(id)
	n, e := d.book.Back(id)
	if n != want || e != wantE {
		d.t.Errorf("Back(%d) answers %d, %v, want %d, %v", id, n, e, want, wantE)
	}
	return n, e
}

// wantOne holds what is told of one number.
func (d *desk) wantOne(id int) {
	d.t.Helper()
	if got, want := d.book.Rights(id), d.paper.rightsOf(id); got != want {
		d.t.Errorf("Rights(%d) tells %d, want %d", id, got, want)
	}
	if got, want := d.book.Below(id), d.paper.below(id); !slices.Equal(got, want) {
		d.t.Errorf("Below(%d) tells %v, want %v", id, got, want)
	}
}

// wantAll holds what is told of every number, of ones that never were too.
func (d *desk) wantAll() {
	d.t.Helper()
	for id := range d.paper {
		d.wantOne(id)
	}
	for _, id := range never(len(d.paper)) {
		d.wantOne(id)
	}
}

// never are numbers that no grant has, of a book with so many.
func never(made int) []int {
	l := []int{-1 << 63, -1<<63 + 1, -1 << 32, -4096, -2, -1}
	for _, n := range []int{made, made + 1, 4095, 4096, 4097, 1 << 16, 1 << 32, 1<<32 + 1, 1<<63 - 1} {
		if n >= made {
			l = append(l, n)
		}
	}
	return l
}

// family gives out a tree of grants: 1 to 3 come of 0, 4 and 5 of 1, 6 of 4, 7 and 8 of 6, 9 of 2, 10 of 5, 11 of 1.
func family(t *testing.T) *desk {
	t.Helper()
	d := newDesk(t)
	for _, of := range []int{0, 0, 0, 1, 1, 4, 6, 6, 2, 5, 1} {
		d.given(of, 63)
	}
	return d
}

// chance tells numbers that are the same at each run.
type chance uint64

func (c *chance) below(n int) int {
	*c = *c*6364136223846793005 + 1442695040888963407
	return int(uint64(*c) >> 33 % uint64(n))
}

// id is mostly a number that was made, sometimes one that never was.
func (c *chance) id(made int) int {
	if c.below(12) == 0 {
		l := never(made)
		return l[c.below(len(l))]
	}
	return c.below(made)
}

// late is a number among the last ones that were made, so that grants come to lie deep.
func (c *chance) late(made int) int { return made - 1 - c.below(min(made, 5)) }

// rights are mostly within r.
func (c *chance) rights(r uint8) uint8 {
	if c.below(6) == 0 {
		return uint8(c.below(256))
	}
	if c.below(2) == 0 {
		return r
	}
	return r & uint8(c.below(64))
}
