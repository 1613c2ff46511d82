package crash_test

import (
	"math"
	"testing"

	"mantle/api"
)

// many are calls through several files, of all kinds, refused ones too.
func many() (l []api.Op) {
	return []api.Op{
		of(0, write(0, "XY")), of(1, cut(5)), of(0, write(1, "")), of(2, sync()), of(0, cut(-1)), of(0, write(6, "Z")), of(1, write(api.MaxData, "x")),
		of(1, write(2, "pq")), of(2, write(0, letters(api.MaxText+1))), of(0, sync()), of(0, api.Op{Do: api.DoNext}), of(2, size()), of(2, cut(0)), of(1, api.Op{Do: 6}),
		of(1, write(api.MaxSize+1, "")), of(2, write(9, "end")), of(1, sync()), of(2, cut(api.MaxData+1)), of(0, write(2, "last")), of(0, sync()), of(2, sync()), of(1, cut(0)),
	}
}

// A fuse of each number, over several files: so many calls are done, and those behind them answer ErrGone and do nothing.
func TestP232Each(t *testing.T) {
	for n := range 20 {
		x := bothOf(t, "abcd", "efg", "h")
		x.fuse(n)
		done, gone := 0, 0
		for i, op := range many() {
			e := x.want(t, op.N, i%2, op).E
			x.wantAs(t)
			if e == api.OK && counted(op) {
				done++
			}
			if e == api.ErrGone {
				gone++
			}
		}
		if done != min(n, 13) || done+gone != 13 {
			t.Errorf("with a fuse of %d %d calls are done and %d are gone, want 13 together", n, done, gone)
		}
		x.fail(t, nil, nil)
		x.fail(t, []int{0, 1, 2, 3, 4}, []int{1})
	}
}

// Below 0 counts as 0.
func TestP232Below(t *testing.T) {
	for _, n := range []int{math.MinInt, math.MinInt + 1, -api.MaxText, -2, -1, 0} {
		p := newPower(t, "abc", "de")
		p.Fuse(n)
		for file := range 2 {
			for _, op := range []api.Op{write(0, "x"), write(9, "x"), cut(0), cut(9), sync()} {
				wantE(t, p.Handle(file), op, api.ErrGone)
			}
		}
		wantImages(t, p, "abc", "de")
		wantOpen(t, p)
	}
}

// A great one is never burnt.
func TestP232Great(t *testing.T) {
	for _, n := range []int{100, math.MaxInt32, math.MaxInt - 1, math.MaxInt} {
		p := newPower(t, "abc")
		p.Fuse(n)
		for i := range 100 {
			wantE(t, p.Handle(0), []api.Op{write(1, "x"), cut(2), sync()}[i%3], api.OK)
		}
		if n == 100 {
			wantE(t, p.Handle(0), sync(), api.ErrGone)
		}
	}
}

// Each kind of call that is counted takes one from the fuse, also where it happens to change nothing.
func TestP232Counted(t *testing.T) {
	for _, op := range []api.Op{write(0, "x"), write(0, "abc"), write(1, letters(api.MaxText)), cut(0), cut(3), cut(9), cut(api.MaxData), sync()} {
		p := newPower(t, "abc", "abc")
		p.Fuse(1)
		wantE(t, p.Handle(0), op, api.OK)
		wantE(t, p.Handle(1), op, api.ErrGone)
		wantE(t, p.Handle(0), op, api.ErrGone)
	}
}

// What is not counted goes on, ahead of the fuse's end and behind it, and takes nothing from it.
func TestP232NotCounted(t *testing.T) {
	for _, op := range edges() {
		x := bothOf(t, "abc")
		if x.page.refuses(op) == api.OK && counted(op) {
			continue
		}
		x.fuse(1)
		x.ops(t, 0, op, op, cut(2), op, cut(1), op, sync(), op)
		if e := x.want(t, 0, 1, cut(1)).E; e != api.ErrGone {
			t.Errorf("%s: %v", text(op), e)
		}
		x.wantAs(t)
	}
}

// A call that would be refused anyhow answers its own error, also behind the fuse's end.
func TestP232OtherErrors(t *testing.T) {
	p := newPower(t, "abc")
	p.Fuse(0)
	for _, x := range []struct {
		op api.Op
		e  api.Errno
	}{
		{write(-1, "x"), api.ErrArg},
		{write(-1, ""), api.ErrArg},
		{write(-1, letters(api.MaxText+1)), api.ErrArg},
		{write(0, letters(api.MaxText+1)), api.ErrLong},
		{write(api.MaxData, "x"), api.ErrLong},
		{write(api.MaxSize, "x"), api.ErrLong},
		{write(api.MaxSize+1, ""), api.ErrLong},
		{write(api.MaxSize, ""), api.OK},
		{write(0, ""), api.OK},
		{cut(-1), api.ErrArg},
		{cut(api.MaxData + 1), api.ErrLong},
		{cut(api.MaxSize + 1), api.ErrLong},
		{read(-1, 1), api.ErrArg},
		{read(0, api.MaxText+1), api.ErrLong},
		{api.Op{Do: api.DoNext}, api.ErrCan},
		{api.Op{Do: 6}, api.ErrArg},
		{write(0, "x"), api.ErrGone},
		{write(api.MaxData-1, "x"), api.ErrGone},
		{cut(0), api.ErrGone},
		{cut(api.MaxData), api.ErrGone},
		{sync(), api.ErrGone},
	} {
		wantE(t, p.Handle(0), x.op, x.e)
		wantImages(t, p, "abc")
		wantOpen(t, p)
	}
	wantTold(t, p.Handle(0), read(1, 9), api.Told{Data: []byte("bc")})
	wantTold(t, p.Handle(0), size(), api.Told{N: 3})
}

// A later Fuse takes the place of the first one, whether that is burnt or not; they are not added.
func TestP232Later(t *testing.T) {
	for first := range 5 {
		for between := range 7 {
			for later := -1; later < 5; later++ {
				x := bothOf(t, "abcdef", "ghi")
				x.fuse(first)
				for i := range between {
					x.ops(t, i%2, cut(int64(i)))
				}
				x.fuse(later)
				for i := range 6 {
					x.ops(t, i%2, write(int64(i), "x"))
				}
				x.wantAs(t)
			}
		}
	}
}

// A fuse is the machine's: it counts for handles that were there, and for those that are made later.
func TestP232AllHandles(t *testing.T) {
	p := newPower(t, "abc", "def")
	was := p.Handle(0)
	p.Fuse(2)
	later := p.Handle(0)
	wantE(t, later, write(0, "1"), api.OK)
	wantE(t, was, write(1, "2"), api.OK)
	wantE(t, later, sync(), api.ErrGone)
	wantE(t, was, sync(), api.ErrGone)
	wantE(t, p.Handle(1), sync(), api.ErrGone)
	wantImages(t, p, "12c", "def")
	wantOpen(t, p, write(0, "1"), write(1, "2"))
	wantImages(t, p.Fail(nil, nil), "abc", "def")
}

// Fail and Image take nothing from a fuse; the machine that comes of Fail has none, also of a burnt one.
func TestP232Fail(t *testing.T) {
	p := newPower(t, "abc")
	p.Fuse(2)
	for range 5 {
		q := p.Fail(nil, nil)
		for i := range 5 {
			wantE(t, q.Handle(0), cut(int64(i)), api.OK)
		}
		wantImages(t, p, "abc")
	}
	wantE(t, p.Handle(0), cut(1), api.OK)
	wantE(t, p.Handle(0), cut(2), api.OK)
	wantE(t, p.Handle(0), cut(3), api.ErrGone)
	q := p.Fail([]int{0}, nil)
	wantE(t, q.Handle(0), write(1, "xyz"), api.OK)
	wantE(t, q.Handle(0), sync(), api.OK)
	wantE(t, p.Handle(0), cut(3), api.ErrGone)
	wantImages(t, q, "axyz")
	wantImages(t, p, "a\x00")
	q.Fuse(0)
	p.Fuse(1)
	wantE(t, p.Handle(0), cut(3), api.OK)
	wantE(t, q.Handle(0), cut(3), api.ErrGone)
}

// Any calls, with fuses laid at any time.
func TestP232Chance(t *testing.T) {
	for seed := range chance(300) {
		c := seed
		x := bothOf(t, c.files(5)...)
		for range 60 {
			if c.below(8) == 0 {
				x.fuse(c.below(9) - 1)
			}
			x.step(t, &c)
		}
		if x.wantAs(t); t.Failed() {
			t.Fatalf("seed %d", seed)
		}
	}
}
