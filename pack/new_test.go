package pack_test

import (
	"bytes"
	"math"
	"reflect"
	"slices"
	"testing"

	"mantle/api"
	"mantle/caps"
	"mantle/face"
	"mantle/pack"
	"mantle/span"
)

func TestP113Examples(t *testing.T) {
	wantRefused(t, newFile(t, []byte("abc"), 15), api.ErrPack)
	wantRefused(t, nil, api.ErrNil)
}

// No handle, one of no parts, and one that New refused.
func TestP113Nil(t *testing.T) {
	refused, _ := pack.New(nil)
	for _, none := range []*face.Handle{nil, {}, refused} {
		wantRefused(t, none, api.ErrNil)
	}
	for do := int8(-1); do < 7; do++ {
		if told := refused.Do(api.Op{Do: do, N: 1}); told.E != api.ErrNil {
			t.Errorf("Do of %d tells %v", do, told)
		}
	}
}

func methods(f api.File) []string {
	var l []string
	for m := range reflect.TypeOf(f).Methods() {
		l = append(l, m.Name)
	}
	return l
}

// Over files of all sixteen sets it can be read and nothing else; what it can't is refused, and comes to nothing.
func TestP113Can(t *testing.T) {
	b := packed([]byte("banana banana"))
	for can := range uint8(16) {
		if row, e := caps.Over(api.Wrap{Kind: api.WrapPack}, []uint8{can}); row != 0 || e != api.OK {
			t.Fatalf("the table tells %d, %v", row, e)
		}
		f := notedOf(b)
		for _, h := range []*face.Handle{newFile(t, b, can), f.handle(can)} {
			p := newPack(t, h)
			f.calls = nil
			if p.Can() != 0 || !slices.Equal(methods(p.File()), []string{"ReadAt", "Size"}) || p.Only(15).Can() != 0 {
				t.Errorf("over a file that can %d it can %d, by %v", can, p.Can(), methods(p.File()))
			}
			for do := int8(0); do < 6; do++ {
				told, fell := p.Must(api.Op{Do: do, At: 1, N: 2, B: []byte("x")})
				if fell != (do > 1) || fell != (told.E == api.ErrCan) {
					t.Errorf("Must of %d tells %v, %v", do, told, fell)
				}
			}
			wantAll(t, p, "banana banana")
			f.wantCalls(t)
		}
	}
}

// Files of few bytes: none, three, four that say none and four that say one.
func TestP113Few(t *testing.T) {
	for can := range uint8(16) {
		for n := range 4 {
			wantRefused(t, newFile(t, make([]byte, n), can), api.ErrPack)
		}
		wantAll(t, newPack(t, newFile(t, make([]byte, 4), can)), "")
		wantRefused(t, newFile(t, []byte{0, 0, 0, 1}, can), api.ErrPack)
		wantRefused(t, newFile(t, []byte{0, 1, 0, 1}, can), api.ErrLong)
		wantRefused(t, newFile(t, []byte{0, 0, 0, 0, 0}, can), api.ErrPack)
		wantAll(t, newPack(t, newFile(t, []byte{0, 0, 0, 4, 0, 'a', 128, 1}, can)), "aaaa")
	}
}

// Noughts that were not written count as noughts.
func TestP113Holes(t *testing.T) {
	s := span.New([]byte{0, 0, 0, 3})
	s.Cut(10)
	s.Put(7, []byte("a"))
	wantAll(t, newPack(t, fileOf(t, s, 15)), "\x00a\x00")
}

// Size is asked once, and all is read MaxText at a time, rising, the last time as much as is left; nothing else is asked.
func TestP113Calls(t *testing.T) {
	for size, want := range map[int][]string{
		0:                 {"size"},
		1:                 {"size", "read 0 1"},
		4:                 {"size", "read 0 4"},
		api.MaxText - 1:   {"size", "read 0 65535"},
		api.MaxText:       {"size", "read 0 65536"},
		api.MaxText + 1:   {"size", "read 0 65536", "read 65536 1"},
		2*api.MaxText - 1: {"size", "read 0 65536", "read 65536 65535"},
		2 * api.MaxText:   {"size", "read 0 65536", "read 65536 65536"},
	} {
		for _, first := range []byte{0, 255} { // no packed bytes, and such as say too many: all is read nevertheless
			b := make([]byte, size)
			for i := range min(size, 4) {
				b[i] = first
			}
			f := notedOf(b)
			pack.New(f.handle(15))
			f.wantCalls(t, want...)
		}
	}
	b := ones(api.MaxText/2 + 100)
	f := notedOf(b)
	wantAll(t, newPack(t, f.handle(0)), string(make([]byte, api.MaxText/2+100)))
	f.wantCalls(t, "size", "read 0 65536", "read 65536 204")
	b = cat(four(5), run("a"), run("bcde"))
	f = notedOf(b)
	wantAll(t, newPack(t, f.handle(15)), "abcde")
	f.wantCalls(t, "size", "read 0 11")
}

// Just 2 * MaxText bytes are taken; above them it is ErrLong, for bytes that Unpack would take and for such as it would refuse, and nothing is read.
func TestP113Long(t *testing.T) {
	b := ones(api.MaxText - 2)
	if len(b) != 2*api.MaxText {
		t.Fatal(len(b))
	}
	for can := range uint8(16) {
		wantAll(t, newPack(t, newFile(t, b, can)), string(make([]byte, api.MaxText-2)))
	}
	wantRefused(t, newFile(t, b[:len(b)-1], 0), api.ErrPack)
	wantRefused(t, newFile(t, make([]byte, 2*api.MaxText), 0), api.ErrPack)
	wantRefused(t, newFile(t, bytes.Repeat([]byte{255}, 2*api.MaxText), 0), api.ErrLong)
	wantUnpack(t, ones(api.MaxText-1), make([]byte, api.MaxText-1), api.OK)
	for _, b := range [][]byte{append(b, 0), ones(api.MaxText - 1), ones(api.MaxText), make([]byte, 2*api.MaxText+1), bytes.Repeat([]byte{255}, 2*api.MaxText+1)} {
		f := notedOf(b)
		wantRefused(t, f.handle(15), api.ErrLong)
		f.wantCalls(t, "size")
		wantRefused(t, newFile(t, b, 15), api.ErrLong)
	}
	for _, size := range []int64{2*api.MaxText + 1, api.MaxSize, api.MaxSize + 1, 1 << 32, 1<<32 + 4, math.MaxInt64} {
		f := notedOf(four(0))
		f.size = func() int64 { return size }
		f.refuse(0, api.ErrGone)
		wantRefused(t, f.handle(0), api.ErrLong)
		f.wantCalls(t, "size")
	}
}

// A read that is refused, the first or the last one, ends it; what it tells beside the error counts for nothing.
func TestP113Refused(t *testing.T) {
	for _, e := range errnos() {
		for _, b := range [][]byte{ones(api.MaxText - 2), ones(api.MaxText/2 - 1), bytes.Repeat([]byte{255}, api.MaxText+5), make([]byte, 1+api.MaxText), packed([]byte("abcabc")), []byte("abc"), {0, 1, 0, 1}} {
			reads := []string{"size", "read 0 65536", "read 65536 65536"}
			if n := len(b); n <= api.MaxText {
				reads = []string{"size", "read 0 " + itoa(n)}
			} else {
				reads[2] = "read 65536 " + itoa(n-api.MaxText)
			}
			for takes := range len(reads) - 1 {
				f := notedOf(b)
				f.refuse(takes, e)
				wantRefused(t, f.handle(15), e)
				f.wantCalls(t, reads[:takes+2]...)
			}
		}
	}
}

// Nothing is read of a file of no bytes.
func TestP113None(t *testing.T) {
	for _, size := range []int64{0, -1, -api.MaxText, math.MinInt64} {
		f := notedOf(packed([]byte("abc")))
		f.size = func() int64 { return size }
		wantRefused(t, f.handle(15), api.ErrPack)
		f.wantCalls(t, "size")
	}
}

// Of files that tell fewer bytes than their Size those are all that there are; no read comes behind.
func TestP113Fewer(t *testing.T) {
	b := ones(40000)
	for _, x := range []struct {
		size int64
		want []string
	}{{80005, []string{"size", "read 0 65536", "read 65536 14469"}}, {2 * api.MaxText, []string{"size", "read 0 65536", "read 65536 65536"}}} {
		f := notedOf(b)
		f.size = func() int64 { return x.size }
		wantAll(t, newPack(t, f.handle(0)), string(make([]byte, 40000)))
		f.wantCalls(t, x.want...)
	}
	for _, tells := range []int{0, 1, 3, 4, api.MaxText - 1} {
		f := notedOf(b[:tells])
		f.size = func() int64 { return 80004 }
		wantRefused(t, f.handle(0), api.ErrPack)
		f.wantCalls(t, "size", "read 0 65536")
	}
	f := notedOf(packed([]byte("abc")))
	f.size = func() int64 { return 2 * api.MaxText }
	wantAll(t, newPack(t, f.handle(0)), "abc")
	f.wantCalls(t, "size", "read 0 65536")
}

// Of files that tell more bytes than their Size, or than they were asked, no more count than were asked.
func TestP113More(t *testing.T) {
	f := notedOf(cat(packed([]byte("abc")), run("more")))
	f.size = func() int64 { return 8 }
	wantAll(t, newPack(t, f.handle(0)), "abc")
	all := ones(api.MaxText - 2)
	for _, b := range [][]byte{packed([]byte("abc")), all} {
		f := notedOf(b)
		read := f.read
		f.read = func(at int64, n int) ([]byte, api.Errno) {
			b, e := read(at, n)
			return append(bytes.Clone(b), "and more"...), e
		}
		want, _ := unpacked(b)
		wantAll(t, newPack(t, f.handle(0)), string(want))
	}
}

// Size is asked once: another one later makes no difference.
func TestP113OtherSize(t *testing.T) {
	for _, b := range [][]byte{packed([]byte("abcabc")), ones(50000)} {
		for _, later := range []int64{-1, 0, 3, 2*api.MaxText + 1, math.MaxInt64} {
			f := notedOf(b)
			size := int64(len(b))
			f.size = func() int64 {
				now := size
				size = later
				return now
			}
			p := newPack(t, f.handle(15))
			want, _ := unpacked(b)
			wantAll(t, p, string(want))
			if slices.Index(f.calls, "size") != 0 || slices.Contains(f.calls[1:], "size") {
				t.Errorf("the file was asked %q", f.calls)
			}
		}
	}
}

// Of several errors: Size's ahead of a read's, any read's ahead of Unpack's, and of these the number's ahead of the pieces'.
func TestP113Order(t *testing.T) {
	long := bytes.Repeat([]byte{255}, 2*api.MaxText+1)
	f := notedOf(long)
	f.refuse(0, api.ErrGone)
	wantRefused(t, f.handle(0), api.ErrLong)
	for takes := range 2 {
		f = notedOf(long[1:])
		f.refuse(takes, api.ErrGone)
		wantRefused(t, f.handle(0), api.ErrGone)
		f = notedOf(make([]byte, 2*api.MaxText))
		f.refuse(takes, api.ErrGone)
		wantRefused(t, f.handle(0), api.ErrGone)
	}
	wantRefused(t, newFile(t, []byte{0, 1, 0, 1, 128}, 0), api.ErrLong)
	wantRefused(t, newFile(t, []byte{255, 255, 255}, 0), api.ErrPack)
}

// New answers what Unpack does of the file's bytes, whatever they are.
func TestP113Unpack(t *testing.T) {
	c := chance(113)
	for range 4000 {
		b, _ := c.piled(c.below(200))
		if c.below(3) > 0 {
			b[c.below(len(b))] = byte(c.below(256))
		}
		want, e := unpacked(b)
		p, got := pack.New(newFile(t, b, uint8(c.below(16))))
		if got != e || (p == nil) != (e != api.OK) {
			t.Fatalf("New answers %v, %v, want %v", p, got, e)
		}
		if e == api.OK {
			wantAll(t, p, string(want))
		}
	}
}

// Each handle is one of its own.
func TestP113Apart(t *testing.T) {
	h := newFile(t, packed([]byte("abc")), 15)
	one, two := newPack(t, h), newPack(t, h)
	if one == two || one == h || one.File() == two.File() || one.File() == h.File() || one.File() != one.File() {
		t.Error("two of them are the same")
	}
}
