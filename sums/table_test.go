package sums_test

import (
	"bytes"
	"math"
	"slices"
	"testing"

	"mantle/api"
	"mantle/span"
	"mantle/sums"
)

// Tables of files of few bytes, over all sixteen sets: 8 bytes for each block, of its own bytes alone, the lowest first.
func TestP101Table(t *testing.T) {
	for can := range uint8(16) {
		for _, n := range []int{0, 1, 2, 63, 64, 65, 127, 128, 129, 191, 192, 193, 1000} {
			text := []byte(letters(n))
			want := tableOf(text)
			if len(want) != 8*((n+63)/64) {
				t.Fatalf("%d bytes have a table of %d", n, len(want))
			}
			wantTable(t, newFile(t, string(text), can), want, api.OK)
		}
	}
	b, _ := sums.Table(newFile(t, "a", 0))
	if !bytes.Equal(b, []byte{0x8c, 0xec, 0x01, 0x86, 0x4c, 0xdc, 0x63, 0xaf}) {
		t.Errorf("the table of the byte 61 is %x", b)
	}
}

// Noughts that were not written count as noughts.
func TestP101TableOfHoles(t *testing.T) {
	s := span.New(nil)
	s.Cut(300)
	s.Put(130, []byte("x"))
	want := make([]byte, 300)
	want[130] = 'x'
	wantTable(t, fileOf(t, s, 15), tableOf(want), api.OK)
}

// Size just MaxData is taken, one byte above it is refused, and nothing is read then.
func TestP101TableLong(t *testing.T) {
	for _, x := range []struct {
		size int64
		e    api.Errno
	}{{api.MaxData - 1, api.OK}, {api.MaxData, api.OK}, {api.MaxData + 1, api.ErrLong}, {api.MaxData + 64, api.ErrLong}, {api.MaxSize, api.ErrLong}} {
		s := span.New(nil)
		s.Cut(x.size)
		a, _, d := two(t, s, s)
		var want []byte
		if x.e == api.OK {
			want = tableOf(make([]byte, x.size))
		}
		wantTable(t, a.handle(0), want, x.e)
		if asked := len(d.calls); x.e == api.OK && asked != 1<<16 || x.e != api.OK && asked != 0 {
			t.Errorf("%d bytes: %d calls", x.size, asked)
		}
		if !slices.Equal(d.sizes, []string{"a"}) {
			t.Errorf("Size was asked %d times", len(d.sizes))
		}
	}
}

// Block by block, rising, and nothing but reads; the first error is the answer, and ends it.
func TestP101TableRefused(t *testing.T) {
	text := []byte(letters(300))
	reads := []string{"a 1 0 64 ", "a 1 64 64 ", "a 1 128 64 ", "a 1 192 64 ", "a 1 256 64 "}
	for _, e := range errnos() {
		for takes := range reads {
			a, _, d := two(t, span.New(text), span.New(nil))
			a.data = text[:64]
			d.refuseBehind(takes, e)
			wantTable(t, a.handle(0), nil, e)
			d.wantCalls(t, reads[:takes+1]...)
			wantTable(t, a.handle(15), tableOf(text), api.OK)
			d.wantCalls(t, reads...)
		}
	}
}

// Files that tell any Size, and more or fewer bytes than they should.
func TestP101TableOfOdd(t *testing.T) {
	for _, x := range []struct {
		size int64
		n    int
		want []byte
		e    api.Errno
	}{
		{math.MinInt64, 64, nil, api.OK},
		{-1, 64, nil, api.OK},
		{math.MaxInt64, 64, nil, api.ErrLong},
		{70, 0, slices.Concat(entryOf(nil), entryOf(nil)), api.OK},
		{70, 5, slices.Concat(entryOf([]byte("!\"#$%")), entryOf([]byte("!\"#$%"))), api.OK},
		{70, 99, slices.Concat(entryOf([]byte(letters(64))), entryOf([]byte(letters(64)))), api.OK},
	} {
		room := []byte(letters(x.n))
		o := &odd{size: func() int64 { return x.size }, read: func(int64, int) ([]byte, api.Errno) { return room, api.OK }}
		wantTable(t, o.handle(), x.want, x.e)
		if string(room) != letters(x.n) {
			t.Error("the file's bytes were changed")
		}
	}
}
