package quota_test

import (
	"testing"

	"mantle/api"
)

// household is several files of one purse, each beside a like one.
type household []*desk

func newHousehold(t *testing.T, c *chance, most int64, greatest int) household {
	t.Helper()
	first := newDesk(t, patterned(int64(c.below(greatest)), uint16(c.below(1<<16))), 15, most)
	l := household{first}
	for range c.below(4) {
		l = append(l, first.beside(t, patterned(int64(c.below(greatest)), uint16(c.below(1<<16))), uint8(c.below(16))))
	}
	return l
}

// together is what is left and all Sizes.
func (l household) together() int64 {
	sum := l[0].purse.Left()
	for _, d := range l {
		sum += sizeOf(d.quota)
	}
	return sum
}

// wantKept holds that nothing gets lost by op, and that a refused one changes nothing, of no file.
func (l household) wantKept(t *testing.T, d *desk, op api.Op) {
	t.Helper()
	was, left := l.together(), l[0].purse.Left()
	var sizes []int64
	for _, x := range l {
		sizes = append(sizes, sizeOf(x.quota))
	}
	e := d.want(t, op)
	if l.together() != was || l[0].purse.Left() < 0 {
		t.Errorf("%d in all, want %d; %d is left", l.together(), was, l[0].purse.Left())
	}
	for i, x := range l {
		if x != d || e != api.OK {
			wantAlike(t, x.bytes, x.like)
			if sizeOf(x.quota) != sizes[i] {
				t.Errorf("file %d has %d bytes, it had %d", i, sizeOf(x.quota), sizes[i])
			}
		}
	}
	if e != api.OK {
		l[0].purse.wantLeft(t, left)
	}
}

// Any mixture of calls through several handles of one purse.
func TestP144(t *testing.T) {
	for seed := range chance(150) {
		c := seed
		l := newHousehold(t, &c, int64(c.below(60)), 40)
		for range 80 {
			if l.wantKept(t, l[c.below(len(l))], c.op()); t.Failed() {
				t.Fatalf("seed %d", seed)
			}
		}
	}
}

// The same with numbers of all sizes.
func TestP144Big(t *testing.T) {
	for seed := range chance(30) {
		c := seed
		l := newHousehold(t, &c, int64(c.below(api.MaxSize+1)), api.MaxSize+1)
		for range 40 {
			if l.wantKept(t, l[c.below(len(l))], c.big()); t.Failed() {
				t.Fatalf("seed %d", seed)
			}
		}
	}
}

// As long as nothing is refused by ErrQuota, all is told as the file tells it by itself; what is refused by it leaves all as it is.
func TestP145(t *testing.T) {
	refused := 0
	for seed := range chance(200) {
		c := seed
		s := patterned(int64(c.below(40)), uint16(c.below(1<<16)))
		can := uint8(c.below(16))
		plain := fileOf(t, s.Twin(), can)
		h := newPurse(t, int64(c.below(80))).over(t, fileOf(t, s, can))
		for range 80 {
			op := c.op()
			got := h.Do(op)
			if got.E == api.ErrQuota {
				refused++
				continue
			}
			if want := plain.Do(op); !sameTold(got, want) {
				t.Fatalf("seed %d: %v tells %v, want %v", seed, op, got, want)
			}
		}
	}
	if refused == 0 {
		t.Error("nothing was refused")
	}
}

// With a purse of MaxSize nothing is refused as long as all files together have at most MaxSize bytes; one more is.
func TestP145PurseOfMaxSize(t *testing.T) {
	for seed := range chance(40) {
		c := seed
		l := newHousehold(t, &c, api.MaxSize, 50)
		at := int64(0) // what they have at first is not paid for
		for _, d := range l {
			at += sizeOf(d.quota)
		}
		for range 60 {
			d, op := l[c.below(len(l))], c.big()
			all := l.together() - l[0].purse.Left()
			fits := all+wants(sizeOf(d.quota), op) <= api.MaxSize
			if e := d.want(t, op); e == api.ErrQuota && fits {
				t.Fatalf("seed %d: %v is refused, with %d bytes in all", seed, op, all)
			}
		}
		if got := l.together(); got != api.MaxSize+at {
			t.Errorf("%d in all, want %d", got, api.MaxSize+at)
		}
	}
}

// A single file is never refused out of a purse of MaxSize, and two are just at the bound.
func TestP145AtTheBound(t *testing.T) {
	a := newDesk(t, patterned(0, 0), 15, api.MaxSize)
	b := a.beside(t, patterned(0, 0), 15)
	for _, size := range []int64{api.MaxSize, 0, 1, api.MaxSize, 5} {
		if e := a.want(t, api.Op{Do: api.DoCut, At: size}); e != api.OK {
			t.Errorf("a cut to %d answers %v", size, e)
		}
	}
	if e := b.want(t, api.Op{Do: api.DoCut, At: api.MaxSize - 5}); e != api.OK {
		t.Errorf("all together have MaxSize bytes, and that is refused: %v", e)
	}
	a.purse.wantLeft(t, 0)
	for _, d := range []*desk{a, b} {
		size := sizeOf(d.quota)
		if e := d.want(t, api.Op{Do: api.DoWrite, At: size, B: []byte("x")}); e != api.ErrQuota {
			t.Errorf("one byte more answers %v", e)
		}
	}
}
