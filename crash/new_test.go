package crash_test

import (
	"bytes"
	"math"
	"testing"

	"mantle/api"
	"mantle/crash"
)

// From 1 to 8 files are taken, with any bytes; each is what it was, and nothing is open.
func TestP231Files(t *testing.T) {
	for n := range 30 {
		var l [][]byte
		var texts []string
		for i := range n {
			texts = append(texts, letters(i * i)[:i*i/2])
			l = append(l, []byte(texts[i]))
		}
		if n < 1 || n > 8 {
			wantNew(t, l, api.ErrArg)
			continue
		}
		p := newPower(t, texts...)
		wantAs(t, p, pageOf(texts...))
		wantImages(t, p.Fail(nil, nil), texts...)
	}
	wantNew(t, nil, api.ErrArg)
	wantNew(t, [][]byte{}, api.ErrArg)
	wantNew(t, make([][]byte, 5000), api.ErrArg)
}

// Files of no bytes are files.
func TestP231NoBytes(t *testing.T) {
	p, e := crash.New([][]byte{nil, {}, make([]byte, 0, 9), nil, nil, nil, nil, nil})
	if e != api.OK {
		t.Fatal(e)
	}
	wantImages(t, p, "", "", "", "", "", "", "", "")
	wantE(t, p.Handle(1), write(1, "x"), api.OK)
	wantE(t, p.Handle(2), cut(1), api.OK)
	wantImages(t, p, "", "\x00x", "\x00", "", "", "", "", "")
}

// MaxData bytes are taken in each file, one more in none of them.
func TestP231Long(t *testing.T) {
	most := []byte(letters(api.MaxData))
	long := append(bytes.Clone(most), 'x')
	for n := 1; n <= 8; n++ {
		for place := range n {
			l := make([][]byte, n)
			l[place] = long
			wantNew(t, l, api.ErrLong)
		}
	}
	p, e := crash.New([][]byte{most, nil, most})
	if e != api.OK {
		t.Fatal(e)
	}
	wantImages(t, p, string(most), "", string(most))
	wantImages(t, p.Fail(nil, nil), string(most), "", string(most))
}

// Too many files are told ahead of too long ones.
func TestP231TwoErrors(t *testing.T) {
	long := make([]byte, api.MaxData+1)
	l := make([][]byte, 9)
	for i := range l {
		l[i] = long
	}
	wantNew(t, l, api.ErrArg)
	wantNew(t, l[:8], api.ErrLong)
	wantNew(t, [][]byte{nil, nil, nil, nil, nil, nil, nil, nil, long}, api.ErrArg)
	wantNew(t, [][]byte{long, nil, nil, nil, nil, nil, nil, nil, nil}, api.ErrArg)
	wantNew(t, l[:0], api.ErrArg)
}

// What is done later to the bytes that were handed in changes nothing, nor are they changed; spare room too.
func TestP231BytesAreCopied(t *testing.T) {
	room := []byte("abcdefgh")
	l := append(make([][]byte, 0, 4), room[:3], room[:3:3], room[3:5])
	p, e := crash.New(l)
	if e != api.OK {
		t.Fatal(e)
	}
	wantE(t, p.Handle(0), write(1, "XYZ"), api.OK)
	wantE(t, p.Handle(1), cut(7), api.OK)
	wantE(t, p.Handle(2), write(0, "!"), api.OK)
	if string(room) != "abcdefgh" || len(l) != 3 || &l[0][0] != &room[0] || l[:4][3] != nil {
		t.Errorf("the caller's bytes are %q, the list has %d", room, len(l))
	}
	clear(room)
	clear(l)
	wantImages(t, p, "aXYZ", "abc\x00\x00\x00\x00", "!e")
	wantImages(t, p.Fail(nil, nil), "abc", "abc", "de")
	wantE(t, p.Handle(0), sync(), api.OK)
	wantImages(t, p.Fail(nil, nil), "aXYZ", "abc", "de")
}

// Two machines of the same bytes have nothing to do with each other.
func TestP231MachinesApart(t *testing.T) {
	l := [][]byte{[]byte("abc"), []byte("de")}
	one, _ := crash.New(l)
	two, _ := crash.New(l)
	wantE(t, one.Handle(0), write(1, "X"), api.OK)
	wantE(t, two.Handle(1), cut(1), api.OK)
	one.Fuse(0)
	wantE(t, two.Handle(0), sync(), api.OK)
	wantImages(t, one, "aXc", "de")
	wantOpen(t, one, write(1, "X"))
	wantImages(t, two, "abc", "d")
	wantOpen(t, two, of(1, cut(1)))
}

// A new machine has no fuse: any number of calls is done.
func TestP231NoFuse(t *testing.T) {
	h := newPower(t, "abc").Handle(0)
	for i := range 3000 {
		wantE(t, h, []api.Op{write(1, "x"), cut(2), sync()}[i%3], api.OK)
	}
}

// Every call of no machine ends, and tells nothing.
func TestNil(t *testing.T) {
	var p *crash.Power
	for _, n := range []int{math.MinInt, -1, 0, 1, 8, math.MaxInt} {
		p.Fuse(n)
		if h, b := p.Handle(n), p.Image(n); h != nil || len(b) != 0 {
			t.Errorf("file %d: %v, %q", n, h, b)
		}
		if l := p.Open(); len(l) != 0 {
			t.Errorf("%v is open", l)
		}
	}
	for _, kept := range [][]int{nil, {0}, {-1, 0, 1, math.MaxInt, math.MinInt}} {
		for _, torn := range [][]int{nil, {0}, {1, -1, 0, 2, 3, 4}} {
			if q := p.Fail(kept, torn); q != nil {
				t.Errorf("Fail(%v, %v) of no machine is %v", kept, torn, q)
			}
		}
	}
}
