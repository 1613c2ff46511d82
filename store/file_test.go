package store_test

import (
	"bytes"
	"fmt"
	"math"
	"strings"
	"testing"

	"mantle/api"
	"mantle/store"
)

// What is no file: nothing, a directory, the root, a link, what would lie below a file or a link; ahead of all that is wrong with the numbers.
func TestP223NoFile(t *testing.T) {
	x := mixed(t, 64)
	for p, want := range map[string]api.Errno{
		"no": api.ErrNone, "d/no": api.ErrNone, "no/a": api.ErrNone, "f/a": api.ErrNone, "l/e/f": api.ErrNone, "d/e/f/a/b": api.ErrNone, "F": api.ErrNone, "d/l/f": api.ErrNone,
		"": api.ErrDir, "/": api.ErrDir, "d": api.ErrDir, "d/e": api.ErrDir, "l": api.ErrDir, "gone": api.ErrDir, "d/l": api.ErrDir, "d/empty": api.ErrDir,
	} {
		for _, at := range []int64{math.MinInt64, -1, 0, 1, api.MaxText + 1, math.MaxInt64} {
			for _, n := range []int{0, 1, api.MaxText + 1} {
				x.wantE(t, want, write(p, at, letters(n)))
				x.wantE(t, want, read(p, at, n))
				x.wantE(t, want, read(p, at, -n))
			}
			x.wantE(t, want, cut(p, at))
		}
	}
	x.wantTree(t)
}

// All small places and lengths, over files of all small sizes.
func TestP223Small(t *testing.T) {
	const most = 5
	for size := range int64(most) {
		for at := int64(-1); at <= most; at++ {
			for n := range most {
				x := bothOf(t, 64)
				x.do(t, file("f"), write("f", 0, letters(int(size))))
				x.want(t, write("f", at, bytes.Repeat([]byte("x"), n)))
				for from := int64(-1); from <= 2*most; from++ {
					for m := -1; m <= 2*most; m++ {
						x.want(t, read("f", from, m))
					}
				}
				x.want(t, cut("f", at+1))
				x.want(t, cut("f", size))
				x.do(t, read("f", 0, 99))
				x.wantTree(t)
			}
		}
	}
}

// Places below 0, at the end, behind it and far away; from no bytes up to MaxText and one more.
func TestP223Bounds(t *testing.T) {
	x := bothOf(t, 1024)
	x.do(t, file("f"), write("f", 0, letters(100)))
	places := []int64{math.MinInt64, -api.MaxText, -1, 0, 1, 99, 100, 101, 20000, 65534, 65535, 65536, 65537, 1 << 17, 1<<32 + 1, api.MaxSize, api.MaxSize + 1, math.MaxInt64 - 1, math.MaxInt64}
	for _, at := range places {
		for _, n := range []int{0, 1, 2, 99, 100, 101, 20000, 65535, 65536, 65537, 1 << 17} {
			x.want(t, read("f", at, n))
			x.want(t, read("f", at, -n))
			x.want(t, write("f", at, letters(n)))
			x.want(t, cut("f", 100))
		}
		x.want(t, read("f", at, math.MaxInt))
		x.want(t, read("f", at, math.MinInt))
		x.want(t, cut("f", at))
		x.want(t, cut("f", 100))
		x.wantTree(t)
	}
	x.wantStays(t)
}

// The errors one by one, and of two the one that is named first.
func TestP223Errors(t *testing.T) {
	x := bothOf(t, 64)
	x.do(t, file("f"), write("f", 0, []byte("abc")))
	for _, c := range []struct {
		a    act
		want api.Errno
	}{
		{write("f", -1, nil), api.ErrArg},
		{write("f", -1, letters(api.MaxText+1)), api.ErrArg},
		{write("f", 0, letters(api.MaxText+1)), api.ErrLong},
		{write("f", 1, letters(api.MaxText)), api.ErrLong},
		{write("f", api.MaxText, []byte("x")), api.ErrLong},
		{write("f", api.MaxText-1, []byte("xy")), api.ErrLong},
		{write("f", api.MaxText, nil), api.OK},
		{write("f", api.MaxText+1, nil), api.OK},
		{write("f", api.MaxText+1, []byte("x")), api.ErrLong},
		{write("f", api.MaxText+1, letters(api.MaxText+1)), api.ErrLong},
		{write("f", math.MaxInt64, []byte("xy")), api.ErrLong},
		{write("f", 0, letters(api.MaxText)), api.ErrSpace},
		{write("f", api.MaxText-1, []byte("x")), api.ErrSpace},
		{read("f", -1, api.MaxText+1), api.ErrArg},
		{read("f", 0, -1), api.ErrArg},
		{read("f", 0, api.MaxText+1), api.ErrLong},
		{read("f", math.MaxInt64, api.MaxText+1), api.ErrLong},
		{read("f", math.MaxInt64, api.MaxText), api.OK},
		{read("f", 0, api.MaxText), api.OK},
		{cut("f", -1), api.ErrArg},
		{cut("f", api.MaxText+1), api.ErrLong},
		{cut("f", api.MaxSize+1), api.ErrLong},
		{cut("f", api.MaxText), api.ErrSpace},
	} {
		x.wantE(t, c.want, c.a)
		wantRead(t, x.store, "f", []byte("abc"))
	}
	x.wantTree(t)
}

// A write of no bytes, wherever it stands: it is refused only of what is no file and at a place below 0; else nothing is changed, and no room is wanted.
func TestP223NoBytes(t *testing.T) {
	x := mixed(t, 64)
	x.do(t, file("empty"))
	x.fill(t, "full")
	x.wantStays(t)
	writes := x.spy.writes
	for _, at := range []int64{0, 1, 99, 65535, 65536, 65537, 70000, 1 << 17, 1 << 32, 1<<32 + 1, api.MaxSize, api.MaxSize + 1, math.MaxInt64 - 1, math.MaxInt64} {
		for _, b := range [][]byte{nil, {}, letters(9)[:0]} {
			for _, p := range []string{"empty", "f", "full", "d/e/f"} {
				x.wantE(t, api.OK, write(p, at, b))
				x.wantE(t, api.ErrArg, write(p, -at-1, b))
			}
			x.wantE(t, api.ErrNone, write("no", at, b))
			x.wantE(t, api.ErrDir, write("f/../d", at, b))
			x.wantE(t, api.ErrDir, write("l", at, b))
			x.wantE(t, api.ErrName, write("f/\x00", at, b))
			wantE(t, (*store.Store)(nil).Write("f", at, b), api.ErrNil)
		}
		x.wantTree(t)
	}
	x.wantStays(t)
	if x.spy.writes != writes {
		t.Error("a Sync behind writes of no bytes writes something")
	}
}

// A file as long as the promise of room lets it be, on the greatest disk, written at its end, over its border, and cut.
func TestP223Great(t *testing.T) {
	const most = (api.MaxBlocks - 32) * 32
	x := bothOf(t, api.MaxBlocks)
	x.do(t,
		file("f"), write("f", most-1, []byte("z")), read("f", most-2, 9), write("f", 0, letters(most)),
		write("f", most-1, nil), write("f", most/2, []byte("middle")), read("f", most/2-3, 12),
		cut("f", 70), cut("f", most), read("f", 60, 20), read("f", most-1, 9), read("f", most, 9),
	)
	x.wantTree(t)
	x.wantStays(t)
}

// Bytes that were never written read as noughts: between an old end and a write, behind a cut to more, and behind a cut to less and to more again.
func TestP223Noughts(t *testing.T) {
	x := bothOf(t, 64)
	x.do(t, file("f"), write("f", 3, []byte("ab")))
	wantRead(t, x.store, "f", []byte("\x00\x00\x00ab"))
	x.do(t, cut("f", 7))
	wantRead(t, x.store, "f", []byte("\x00\x00\x00ab\x00\x00"))
	x.do(t, cut("f", 4), cut("f", 6))
	wantRead(t, x.store, "f", []byte("\x00\x00\x00a\x00\x00"))
	x.do(t, cut("f", 0), write("f", 2, []byte{0}))
	wantRead(t, x.store, "f", make([]byte, 3))
	x.do(t, write("f", 99, nil), write("f", 99999, nil))
	wantRead(t, x.store, "f", make([]byte, 3))
	wantRead(t, x.wantStays(t), "f", make([]byte, 3))
}

// One file's bytes are no other one's, whatever is done to either.
func TestP223Many(t *testing.T) {
	x := bothOf(t, 1024)
	c := chance(223)
	for i := range 40 {
		x.do(t, file(fmt.Sprint("f", i)))
	}
	for range 2000 {
		p := fmt.Sprint("f", c.below(40))
		switch c.below(3) {
		case 0:
			x.do(t, cut(p, int64(c.below(150))))
		default:
			x.do(t, write(p, int64(c.below(100)), c.text(c.below(50))))
		}
	}
	x.wantTree(t)
	x.wantStays(t)
}

// Nothing that is handed in is changed or kept, and nothing that is handed out is what is kept, nor is its spare room.
func TestMemory(t *testing.T) {
	x := bothOf(t, 128)
	room := letters(200)
	x.do(t, file("f"), write("f", 0, room[10:110]))
	if !bytes.Equal(room, letters(200)) {
		t.Error("a write changed what was handed in")
	}
	clear(room)
	want := letters(110)[10:]
	wantRead(t, x.store, "f", want)
	spoil := func(b []byte) { clear(b[:cap(b)]) }
	for range 2 {
		b, e := x.store.Read("f", 5, 50)
		wantE(t, e, api.OK)
		spoil(b)
		b, e = x.store.Read("f", 5, 0)
		wantE(t, e, api.OK)
		spoil(b)
		x.do(t, link("l", strings.Repeat("t", 40)))
		l, e := x.store.Items()
		wantE(t, e, api.OK)
		for _, y := range l {
			spoil(y.Data)
		}
		clear(l[:cap(l)])
		x.wantTree(t)
		wantRead(t, x.store, "f", want)
		x.do(t, drop("l"))
		lines := x.store.Check()
		clear(lines[:cap(lines)])
	}
	x.wantStays(t)
}
