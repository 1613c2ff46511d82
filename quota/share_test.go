package quota_test

import (
	"testing"

	"mantle/api"
	"mantle/buffer"
	"mantle/cipher"
	"mantle/face"
	"mantle/journal"
	"mantle/span"
	"mantle/tee"
	"mantle/window"
)

// Two files of one purse: what one takes the other can't have, and what one gives back it can.
func TestTwoFiles(t *testing.T) {
	a := newDesk(t, span.New([]byte("abc")), 15, 5)
	b := a.beside(t, span.New(nil), 15)
	a.want(t, api.Op{Do: api.DoWrite, At: 3, B: []byte("xyz")})
	b.want(t, api.Op{Do: api.DoWrite, B: []byte("123")})
	b.want(t, api.Op{Do: api.DoCut, At: 3})
	b.want(t, api.Op{Do: api.DoWrite, B: []byte("12")})
	a.purse.wantLeft(t, 0)
	a.want(t, api.Op{Do: api.DoWrite, At: 6, B: []byte("!")})
	a.want(t, api.Op{Do: api.DoCut})
	a.purse.wantLeft(t, 6)
	b.want(t, api.Op{Do: api.DoCut, At: 9})
	b.want(t, api.Op{Do: api.DoCut, At: 8})
	a.purse.wantLeft(t, 0)
	wantAll(t, "", a.quota)
	wantAll(t, "12\x00\x00\x00\x00\x00\x00", b.quota)
}

// Many files, each of which takes the same, until nothing is left.
func TestManyFiles(t *testing.T) {
	d := newDesk(t, span.New(nil), 1, 100)
	for i := range 40 {
		x := d.beside(t, span.New([]byte("abc")), 15)
		if e := x.want(t, api.Op{Do: api.DoWrite, At: 3, B: []byte("xyz")}); (e == api.OK) != (i < 33) {
			t.Errorf("file %d: %v", i, e)
		}
	}
	d.purse.wantLeft(t, 1)
	d.want(t, api.Op{Do: api.DoWrite, B: []byte("!")})
	d.purse.wantLeft(t, 0)
}

// The same file twice over one purse: what gets longer through one handle is counted once, and gives back through the other.
func TestSameFileTwice(t *testing.T) {
	p := newPurse(t, 4)
	f := newFile(t, "abc", 15)
	one, two := p.over(t, f), p.over(t, f)
	wantWrite(t, one, 3, "xy", api.OK)
	p.wantLeft(t, 2)
	wantWrite(t, two, 4, "123", api.OK)
	p.wantLeft(t, 0)
	wantAll(t, "abcx123", one, two, f)
	wantWrite(t, one, 0, "ABCDEFG", api.OK)
	wantWrite(t, one, 7, "!", api.ErrQuota)
	wantCut(t, two, 0, api.OK)
	p.wantLeft(t, 7)
	wantCut(t, one, 8, api.ErrQuota)
	wantCut(t, one, 7, api.OK)
	p.wantLeft(t, 0)
}

// The same file over two purses: each counts what is done through its own handle.
func TestSameFileTwoPurses(t *testing.T) {
	p, q := newPurse(t, 4), newPurse(t, 1)
	f := newFile(t, "abc", 15)
	one, two := p.over(t, f), q.over(t, f)
	wantWrite(t, one, 3, "xy", api.OK)
	wantWrite(t, two, 5, "12", api.ErrQuota)
	wantCut(t, two, 2, api.OK)
	p.wantLeft(t, 2)
	q.wantLeft(t, 4)
	wantCut(t, one, 5, api.ErrQuota)
	wantCut(t, two, 5, api.OK)
	p.wantLeft(t, 2)
	q.wantLeft(t, 1)
}

// One handle over another, of two purses: both must have what is wanted, and only then do both give it.
func TestOverAnotherTwoPurses(t *testing.T) {
	for _, most := range [][2]int64{{4, 9}, {9, 4}, {4, 4}} {
		p, q := newPurse(t, most[0]), newPurse(t, most[1])
		f := newFile(t, "abc", 15)
		inner := p.over(t, f)
		outer := q.over(t, inner)
		wantWrite(t, outer, 3, "12345", api.ErrQuota)
		wantCut(t, outer, 8, api.ErrQuota)
		p.wantLeft(t, most[0])
		q.wantLeft(t, most[1])
		wantWrite(t, outer, 5, "12", api.OK)
		p.wantLeft(t, most[0]-4)
		q.wantLeft(t, most[1]-4)
		wantCut(t, inner, 1, api.OK)
		p.wantLeft(t, most[0]+2)
		q.wantLeft(t, most[1]-4)
		wantCut(t, outer, 0, api.OK)
		p.wantLeft(t, most[0]+3)
		q.wantLeft(t, most[1]-3)
		wantAll(t, "", f, inner, outer)
	}
}

// One handle over another, of the same purse: each of them takes what its file got longer by, and both together no more than is left.
func TestOverAnotherSamePurse(t *testing.T) {
	p := newPurse(t, 10)
	f := newFile(t, "abc", 15)
	inner := p.over(t, f)
	outer := p.over(t, inner)
	wantWrite(t, outer, 3, "123", api.OK)
	p.wantLeft(t, 4)
	wantWrite(t, outer, 6, "123", api.ErrQuota)
	wantCut(t, outer, 9, api.ErrQuota)
	p.wantLeft(t, 4)
	wantAll(t, "abc123", f, inner, outer)
	wantWrite(t, outer, 6, "12", api.OK)
	p.wantLeft(t, 0)
	wantWrite(t, outer, 0, "ABCDEFGH", api.OK)
	wantWrite(t, outer, 30, "", api.OK)
	wantCut(t, inner, 7, api.OK)
	p.wantLeft(t, 1)
	wantCut(t, outer, 8, api.ErrQuota)
	p.wantLeft(t, 1)
	wantCut(t, inner, 8, api.OK)
	p.wantLeft(t, 0)
	wantCut(t, outer, 1, api.OK)
	p.wantLeft(t, 14)
}

// Three of the same purse, one over the other: what is wanted is wanted three times.
func TestThreeOverAnother(t *testing.T) {
	for left := range int64(14) {
		p := newPurse(t, left)
		h := newFile(t, "", 15)
		for range 3 {
			h = p.over(t, h)
		}
		want, then := api.OK, left-12
		if left < 12 {
			want, then = api.ErrQuota, left
		}
		wantWrite(t, h, 2, "xy", want)
		p.wantLeft(t, then)
	}
}

// wantNever does ops of all kinds through all handles, and holds that what is left is never below 0.
func wantNever(t *testing.T, p *purse, c *chance, l ...*face.Handle) {
	t.Helper()
	for range 200 {
		op := c.op()
		h := l[c.below(len(l))]
		was := p.Left()
		told := h.Do(op)
		if p.Left() < 0 {
			t.Fatalf("behind %v, which tells %v, %d is left; %d was", op, told, p.Left(), was)
		}
	}
}

// Handles of one purse over one another in all kinds of ways: what is left is never below 0.
func TestP144NeverBelowNought(t *testing.T) {
	for seed := range chance(300) {
		c := seed
		p := newPurse(t, int64(c.below(120)))
		file := func() *face.Handle { return p.over(t, newFile(t, letters(c.below(9)), 15)) }
		a, b, log := file(), file(), p.over(t, newFile(t, "", 15))
		both, e := tee.New(a, b)
		if e != api.OK {
			t.Fatal(e)
		}
		over := p.over(t, both)
		crypt, e := cipher.New(file(), 77)
		if e != api.OK {
			t.Fatal(e)
		}
		gathers, e := buffer.New(p.over(t, crypt), 5)
		if e != api.OK {
			t.Fatal(e)
		}
		logged, e := journal.New(file(), log)
		if e != api.OK {
			t.Fatal(e)
		}
		part, e := window.New(a, 2, 20)
		if e != api.OK {
			t.Fatal(e)
		}
		wantNever(t, p, &c, a, b, over, p.over(t, over), p.over(t, gathers), p.over(t, logged), p.over(t, part))
	}
}
