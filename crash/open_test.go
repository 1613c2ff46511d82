package crash_test

import (
	"slices"
	"testing"

	"mantle/api"
)

// What was done to several files is open in the order in which it was done, and numbered so.
func TestP234Order(t *testing.T) {
	x := bothOf(t, "abc", "def", "", "ghi")
	x.ops(t, 3, write(1, "1"))
	x.ops(t, 0, cut(2), write(5, "22"))
	x.ops(t, 3, cut(9))
	x.ops(t, 1, write(0, "333"))
	x.ops(t, 0, write(0, "4"))
	want := []api.Op{of(3, write(1, "1")), of(0, cut(2)), of(0, write(5, "22")), of(3, cut(9)), of(1, write(0, "333")), of(0, write(0, "4"))}
	wantOpen(t, x.power, want...)
	wantOpen(t, x.power, want...) // to ask makes no difference
	for number, op := range want {
		y := x.fail(t, []int{number}, nil)
		for file, first := range []string{"abc", "def", "", "ghi"} {
			if file == op.N {
				first = string(laid([]byte(first), op))
			}
			if got := string(y.power.Image(file)); got != first {
				t.Errorf("with number %d kept file %d is %q, want %q", number, file, got, first)
			}
		}
	}
}

// Behind the Sync of a file the others' operations are open still, and their numbers are other ones.
func TestP234SyncOfOne(t *testing.T) {
	x := bothOf(t, "a", "b", "c")
	for i := range 6 {
		x.ops(t, i%3, write(int64(i), letters(i+1)))
	}
	x.ops(t, 1, sync())
	wantOpen(t, x.power, of(0, write(0, letters(1))), of(2, write(2, letters(3))), of(0, write(3, letters(4))), of(2, write(5, letters(6))))
	x.fail(t, []int{2}, nil)
	x.ops(t, 1, cut(1))
	x.ops(t, 0, sync())
	wantOpen(t, x.power, of(2, write(2, letters(3))), of(2, write(5, letters(6))), of(1, cut(1)))
	x.fail(t, []int{2}, nil)
	x.fail(t, []int{0}, []int{1})
	x.ops(t, 2, sync(), sync())
	wantOpen(t, x.power, of(1, cut(1)))
	x.ops(t, 1, sync())
	wantOpen(t, x.power)
	x.fail(t, []int{0, 1, 2}, nil)
}

// What is refused is not open, nor is what changes nothing by the rules; what only happens to change nothing is.
func TestP234WhatIsOpen(t *testing.T) {
	x := bothOf(t, "abc", "")
	x.ops(t, 0, write(-1, "x"), write(1, ""), write(9, ""), write(0, letters(api.MaxText+1)), write(api.MaxData, "x"), write(api.MaxSize, "x"), write(api.MaxSize+1, ""),
		cut(-1), cut(api.MaxData+1), cut(api.MaxSize+1), read(0, 9), read(-1, 1), size(), api.Op{Do: api.DoNext}, api.Op{Do: 6}, api.Op{Do: -1})
	wantOpen(t, x.power)
	x.ops(t, 0, sync())
	wantOpen(t, x.power)
	x.ops(t, 0, write(1, "b"), cut(3), api.Op{Do: api.DoCut, At: 3, N: 7, B: []byte("no bytes of a cut")})
	wantOpen(t, x.power, write(1, "b"), cut(3), cut(3))
	x.ops(t, 1, cut(0))
	wantOpen(t, x.power, write(1, "b"), cut(3), cut(3), of(1, cut(0)))
	x.fuse(0)
	x.ops(t, 0, write(0, "x"), cut(1), sync())
	wantOpen(t, x.power, write(1, "b"), cut(3), cut(3), of(1, cut(0)))
}

// The list and the bytes in it are new memory, spare room too.
func TestP234NewMemory(t *testing.T) {
	x := bothOf(t, "abc", "d")
	x.ops(t, 0, write(0, "XYZ"), cut(2), write(1, letters(70)))
	x.ops(t, 1, write(1, "e"))
	one, two := x.power.Open(), x.power.Open()
	for _, op := range one {
		clear(op.B[:cap(op.B)])
	}
	if !slices.EqualFunc(two, x.page.open(), sameOp) {
		t.Error("two answers share bytes")
	}
	clear(one[:cap(one)])
	if !slices.EqualFunc(two, x.page.open(), sameOp) {
		t.Error("two answers share the list")
	}
	for i := range two { // bytes that stood side by side in memory would meet
		_ = append(two[i].B, "!!!!!!!!"...)
	}
	if !slices.EqualFunc(two, x.page.open(), sameOp) {
		t.Error("lists of one answer share memory")
	}
	x.wantAs(t)
	x.fail(t, []int{0, 1, 2, 3}, nil)
	x.ops(t, 0, sync())
	x.fail(t, nil, nil)
}

// Image tells all bytes of each file, many ones too, and none of files that there are not.
func TestP234Image(t *testing.T) {
	for _, n := range []int{0, 1, api.MaxText - 1, api.MaxText, api.MaxText + 1, 2 * api.MaxText, 3*api.MaxText + 7} {
		x := bothOf(t, letters(n), "", letters(n/2))
		x.wantAs(t)
		x.ops(t, 1, write(int64(n), "x"), cut(int64(n)))
		x.ops(t, 2, cut(int64(2*n)))
		x.wantAs(t)
		x.fuse(0)
		x.ops(t, 0, cut(0), write(0, "!"))
		x.wantAs(t)
	}
}

// An Image is new memory, spare room too.
func TestP234ImageNewMemory(t *testing.T) {
	p := newPower(t, letters(100), letters(100))
	one, two := p.Image(0), p.Image(0)
	clear(one[:cap(one)])
	_ = append(one, '!')
	if string(two) != letters(100) {
		t.Error("two answers share memory")
	}
	clear(two)
	wantImages(t, p, letters(100), letters(100))
	wantImages(t, p.Fail(nil, nil), letters(100), letters(100))
}

// An Image that was handed out is not changed by what is done later.
func TestP234ImageStays(t *testing.T) {
	p := newPower(t, "abcdef")
	b, l := p.Image(0), p.Open()
	wantE(t, p.Handle(0), write(0, "XYZ"), api.OK)
	m := p.Open()
	wantE(t, p.Handle(0), cut(1), api.OK)
	wantE(t, p.Handle(0), sync(), api.OK)
	if string(b) != "abcdef" || len(l) != 0 || len(m) != 1 || string(m[0].B) != "XYZ" {
		t.Errorf("%q, %s, %s", b, texts(l), texts(m))
	}
}

// What is open, whatever was done.
func TestP234Chance(t *testing.T) {
	for seed := range chance(200) {
		c := seed
		x := bothOf(t, c.files(4)...)
		for range 40 {
			x.step(t, &c)
			if x.wantAs(t); t.Failed() {
				t.Fatalf("seed %d", seed)
			}
		}
	}
}
