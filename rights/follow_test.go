package rights_test

import (
	"slices"
	"testing"

	"mantle/api"
	"mantle/face"
	"mantle/span"
	"mantle/tee"
)

// told is what a book tells of each number that was made.
type told struct {
	rights []uint8
	below  [][]int
}

func (d *desk) told() (x told) {
	for id := range d.paper {
		x.rights, x.below = append(x.rights, d.book.Rights(id)), append(x.below, d.book.Below(id))
	}
	return x
}

// wantFallen is P17.6's first half, by the book's own answers, and by what Give was asked.
func (d *desk) wantFallen() {
	d.t.Helper()
	for id, g := range d.paper {
		_, e := d.book.Guard(id, face.Make(newSpy(), nil, nil, nil, nil))
		there := e == api.OK
		if !there || g.of < 0 {
			continue
		}
		if _, e := d.book.Guard(g.of, face.Make(newSpy(), nil, nil, nil, nil)); e != api.OK {
			d.t.Errorf("%d is there, and %d, which it came of, is not", id, g.of)
		}
		if r, of := d.book.Rights(id), d.book.Rights(g.of); r&^of != 0 {
			d.t.Errorf("%d has %d, and %d, which it came of, %d", id, r, g.of, of)
		}
	}
}

// wantBack is P17.6's second half: Back tells one more than Below told, just these go, and all others have what they had.
func (d *desk) wantBack(id int) {
	d.t.Helper()
	was := d.told()
	list := d.book.Below(id)
	n, e := d.back(id)
	if e != api.OK {
		list = nil
	} else {
		list = append(list, id)
	}
	if n != len(list) {
		d.t.Errorf("Back(%d) tells %d, and Below told %d", id, n, len(list)-1)
	}
	for i, r := range d.told().rights {
		switch {
		case slices.Contains(list, i):
			if _, e := d.book.Give(i, 0); r != 0 || e != api.ErrGone {
				d.t.Errorf("behind Back(%d) %d has %d, and Give of it answers %v", id, i, r, e)
			}
		case r != was.rights[i]:
			d.t.Errorf("behind Back(%d) %d has %d, it had %d", id, i, r, was.rights[i])
		}
	}
	for i, l := range d.told().below {
		want := was.below[i]
		if slices.Contains(list, i) {
			want = nil
		}
		want = slices.DeleteFunc(want, func(n int) bool { return slices.Contains(list, n) })
		if !slices.Equal(l, want) {
			d.t.Errorf("behind Back(%d) below %d there are %v, want %v", id, i, l, want)
		}
	}
}

// P17.6: any mixture of calls.
func TestP176(t *testing.T) {
	gone := 0
	for seed := range chance(120) {
		c := seed
		d := newDesk(t)
		for range 70 {
			id := c.id(len(d.paper))
			switch c.below(6) {
			case 0:
				d.wantBack(id)
			case 1, 2:
				id = c.late(len(d.paper))
				fallthrough
			case 3, 4:
				d.give(id, c.rights(d.paper.rightsOf(id)))
			default:
				d.book.Guard(id, newFile(t, "", 15))
			}
			d.wantFallen()
		}
		d.wantAll()
		if t.Failed() {
			t.Fatalf("seed %d", seed)
		}
		for id := range d.paper {
			if !d.paper.has(id) {
				gone++
			}
		}
	}
	if gone == 0 {
		t.Error("no grant went")
	}
}

// P17.6: the same with very many grants, up to the last one that there is room for.
func TestP176Many(t *testing.T) {
	d := newDesk(t)
	c := chance(5)
	for len(d.paper) < api.MaxRights {
		id := c.below(len(d.paper))
		if c.below(3) > 0 {
			id = c.late(len(d.paper))
		}
		d.give(id, d.paper.rightsOf(id)&uint8(c.below(64)|c.below(64)))
		if c.below(50) == 0 {
			d.back(c.late(len(d.paper)))
		}
	}
	if _, e := d.give(0, 0); e != api.ErrFull {
		t.Errorf("one more answers %v", e)
	}
	for range 200 {
		id := c.below(len(d.paper))
		d.wantOne(id)
		d.back(id)
		d.wantOne(id)
		d.wantOne(d.paper[id].of)
	}
	d.wantOne(0)
}

// P7: rights never come back, along whatever row of grants: what a grant has is within what each one above it has.
func TestRightsOnlyFall(t *testing.T) {
	for seed := range chance(30) {
		c := seed
		d := newDesk(t)
		of, has := 0, uint8(63)
		for range 200 {
			r := uint8(c.below(256))
			if c.below(10) == 0 {
				r &= has
			}
			n, e := d.book.Give(of, r)
			if e != api.OK {
				continue
			}
			of, has = n, has&r
			if d.book.Rights(n)&^has != 0 {
				t.Fatalf("seed %d: it has %d, above it there was %d", seed, d.book.Rights(n), has)
			}
		}
	}
}

// twin is a guard over a file, and a file that is like it and has no guard.
type twin struct {
	bytes, like *span.Bytes
	file, plain *face.Handle
	log         *tee.Log
}

func newTwin(t *testing.T, c *chance) *twin {
	t.Helper()
	s := span.New(nil)
	s.Cut(int64(c.below(30)))
	for range c.below(4) {
		s.Put(int64(c.below(30)), []byte("letters")[:c.below(8)])
	}
	can := uint8(15)
	if c.below(2) == 0 {
		can = uint8(c.below(16))
	}
	x := &twin{bytes: s, like: s.Twin()}
	x.file, x.log = tee.Watched(fileOf(t, x.bytes, can))
	x.plain = fileOf(t, x.like, can)
	return x
}

// wantAlike holds the file against the one that is like it.
func (x *twin) wantAlike(t *testing.T) {
	t.Helper()
	if x.bytes.Size() != x.like.Size() || x.bytes.Held() != x.like.Held() || string(x.bytes.Get(0, 99)) != string(x.like.Get(0, 99)) {
		t.Errorf("the file is %q, want %q", x.bytes.Get(0, 99), x.like.Get(0, 99))
	}
}

// P17.7: with RightRead and RightWrite all is told as by the plain file, as long as the grant is there; then nothing comes to the file any more.
func TestP177(t *testing.T) {
	for seed := range chance(200) {
		c := seed
		d := newDesk(t)
		above := d.given(0, 63)
		id := d.given(above, 3|uint8(c.below(64)))
		x := newTwin(t, &c)
		g := d.guard(id, x.file)
		for range 60 {
			op := c.op()
			wantTold(t, g, op, x.plain.Do(op))
		}
		x.wantAlike(t)
		d.back([]int{id, above}[c.below(2)])
		calls := len(x.log.Ops())
		for range 60 {
			op := c.op()
			wantTold(t, g, op, d.paper.tells(id, x.plain.Can(), op, x.plain.Do))
		}
		if n := len(x.log.Ops()); n != calls {
			t.Errorf("%d calls came to the file when the grant was gone", n-calls)
		}
		x.wantAlike(t)
		if t.Failed() {
			t.Fatalf("seed %d", seed)
		}
	}
}

// watch is a guard, the grant and the file that it is of.
type watch struct {
	*face.Handle
	id int
	of *twin
}

// Any mixture of grants that come and go, guards of all of them over several files, and calls through these.
func TestAnyMixture(t *testing.T) {
	refused, taken := 0, 0
	for seed := range chance(150) {
		c := seed
		d := newDesk(t)
		files := []*twin{newTwin(t, &c), newTwin(t, &c)}
		l := []watch{{d.guard(0, files[0].file), 0, files[0]}}
		for range 150 {
			id := c.id(len(d.paper))
			switch c.below(12) {
			case 0, 1:
				d.give(id, c.rights(d.paper.rightsOf(id)))
			case 2:
				d.back(id)
			case 3, 4:
				if x := files[c.below(2)]; d.paper.has(id) {
					l = append(l, watch{d.guard(id, x.file), id, x})
				}
			default:
				w, op := l[c.below(len(l))], c.op()
				calls := len(w.of.log.Ops())
				want := d.paper.tells(w.id, w.of.plain.Can(), op, func(op api.Op) api.Told {
					calls++
					return w.of.plain.Do(op)
				})
				wantTold(t, w.Handle, op, want)
				if n := len(w.of.log.Ops()); n != calls {
					t.Errorf("%d calls came to the file, want %d", n, calls)
				}
				if want.E == api.ErrGone || want.E == api.ErrRight {
					refused++
				} else if want.E == api.OK {
					taken++
				}
			}
			files[0].wantAlike(t)
			files[1].wantAlike(t)
		}
		if t.Failed() {
			t.Fatalf("seed %d", seed)
		}
	}
	if refused == 0 || taken == 0 {
		t.Errorf("%d calls were refused, %d taken", refused, taken)
	}
}
