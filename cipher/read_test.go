package cipher_test

import (
	"bytes"
	"math"
	"testing"

	"mantle/api"
	"mantle/face"
	"mantle/span"
)

// Size is the file's at each call, also when that is changed below; nothing else is asked for it.
func TestP123Size(t *testing.T) {
	s := span.New([]byte("abc"))
	r, h := watched(t, s, 4)
	for _, size := range []int64{0, 1, 8, 1000, api.MaxSize - 1, api.MaxSize, 3} {
		if e := s.Cut(size); e != api.OK {
			t.Fatal(e)
		}
		wantSize(t, h, size)
	}
	r.wantCalls(t)
	r.refuseBehind(0, api.ErrGone)
	wantSize(t, h, 3)
	for _, size := range []int64{math.MinInt64, -1, api.MaxSize + 1, math.MaxInt64} {
		wantSize(t, newCipher(t, (&odd{size: func() int64 { return size }}).handle(), 4), size)
	}
}

// Reads at all places and lengths of a small file, with holes below, which read as the stream does.
func TestP123Read(t *testing.T) {
	for _, key := range keys() {
		for _, bits := range []uint16{0, 1, 0b10110, math.MaxUint16} {
			s, p := patterned(27, bits)
			for can := range uint8(16) {
				h := newCipher(t, fileOf(t, s, can), key)
				for at := range int64(32) {
					n := int(at*7+int64(can)*3) % 34
					want := p.do(0, api.Op{Do: api.DoRead, At: at, N: n}).Data
					wantRead(t, h, at, n, string(turnedOf(key, at, want)))
				}
			}
			h := newCipher(t, fileOf(t, s, 0), key)
			for at := range int64(32) {
				for n := range 34 {
					want := p.do(0, api.Op{Do: api.DoRead, At: at, N: n}).Data
					wantRead(t, h, at, n, string(turnedOf(key, at, want)))
				}
			}
			p.wantState(t, s)
		}
	}
}

// The bounds: none and MaxText bytes, from 0, from the end, from behind it on; one more is refused, and so is what is below 0.
func TestP123Bounds(t *testing.T) {
	text := letters(api.MaxText + 9)
	for _, key := range []uint64{0, 1 << 63, math.MaxUint64} {
		turned := string(turnedOf(key, 0, []byte(text)))
		r, h := watched(t, span.New([]byte(text)), key)
		for _, at := range []int{0, 1, 8, 9, 10, api.MaxText, api.MaxText + 8} {
			wantRead(t, h, int64(at), api.MaxText, turned[at:min(at+api.MaxText, len(turned))])
			wantRead(t, h, int64(at), 0, "")
			wantRead(t, h, int64(at), 1, turned[at:at+1])
		}
		for _, at := range []int64{api.MaxText + 9, api.MaxText + 10, api.MaxSize - 1, api.MaxSize, api.MaxSize + 1, math.MaxInt64 - api.MaxText, math.MaxInt64} {
			for _, n := range []int{0, 1, api.MaxText} {
				wantRead(t, h, at, n, "")
			}
		}
		r.forget()
		for _, at := range []int64{0, 5, api.MaxSize, math.MaxInt64} {
			for _, n := range []int{api.MaxText + 1, math.MaxInt} {
				wantNoRead(t, h, at, n, api.ErrLong)
			}
			for _, n := range []int{-1, -9, math.MinInt} {
				wantNoRead(t, h, at, n, api.ErrArg)
			}
		}
		for _, at := range []int64{-1, -8, -api.MaxText, math.MinInt64} {
			for _, n := range []int{math.MinInt, -1, 0, 1, api.MaxText, api.MaxText + 1, math.MaxInt} {
				wantNoRead(t, h, at, n, api.ErrArg)
			}
		}
		r.wantUnasked(t)
	}
}

// The last bytes of a file that is as long as can be.
func TestP123Highest(t *testing.T) {
	s := span.New(nil)
	s.Cut(api.MaxSize)
	s.Put(api.MaxSize-3, []byte("xyz"))
	h := newCipher(t, fileOf(t, s, 0), 8)
	below := "\x00\x00\x00\x00\x00\x00xyz"
	for i := range 10 {
		at := int64(api.MaxSize - 9 + i)
		wantRead(t, h, at, 20, string(turnedOf(8, at, []byte(below[i:]))))
	}
}

// A read comes to the file below once, as it is, also one of none and one from behind the end on.
func TestP123OneCall(t *testing.T) {
	r, h := watched(t, span.New([]byte(letters(20))), 11)
	for _, at := range []int64{0, 1, 19, 20, 21, api.MaxSize, math.MaxInt64} {
		for _, n := range []int{0, 1, 20, api.MaxText} {
			h.Do(api.Op{Do: api.DoRead, At: at, N: n})
			r.wantCalls(t, call(api.Op{Do: api.DoRead, At: at, N: n}))
		}
	}
}

// What the file below refuses is refused by the same error, and no bytes are told beside it, even where the file tells some.
func TestP123Refused(t *testing.T) {
	for _, e := range errnos() {
		for _, beside := range []string{"", "beside"} {
			r, h := watched(t, span.New([]byte(letters(20))), 11)
			r.data = []byte(beside)
			r.refuseBehind(0, e)
			for _, at := range []int64{0, 5, 20, 99} {
				for _, n := range []int{0, 1, 6, 30} {
					if b, got := h.File().ReadAt(at, n); len(b) != 0 || got != e {
						t.Errorf("at %d, %d: %q, %v, want %v", at, n, b, got, e)
					}
				}
			}
			wantNoRead(t, h, -1, 3, api.ErrArg)
			wantNoRead(t, h, 0, api.MaxText+1, api.ErrLong)
			r.forget()
			r.refuseBehind(1, e)
			wantRead(t, h, 3, 4, string(turnedOf(11, 3, []byte(letters(20)[3:7]))))
			wantNoRead(t, h, 3, 4, e)
		}
	}
}

// telling is a file of that Size that tells these bytes of every read.
func telling(size int64, b string) *face.Handle {
	return (&odd{
		size: func() int64 { return size },
		read: func(int64, int) ([]byte, api.Errno) { return []byte(b), api.OK },
	}).handle()
}

// Of a file that tells fewer bytes than asked those are told, turned; of one that tells more no more than asked.
func TestP123OtherBytes(t *testing.T) {
	for _, size := range []int64{math.MinInt64, -1, 0, 3, 100, math.MaxInt64} {
		for _, b := range []string{"", "a", "abcdefg", "abcdefghi", letters(30)} {
			h := newCipher(t, telling(size, b), 21)
			for _, at := range []int64{0, 1, 7, 8, 90, api.MaxSize, math.MaxInt64 - 3, math.MaxInt64} {
				for _, n := range []int{0, 1, 7, 8, 9, 29, 30, 31, api.MaxText} {
					want := b[:min(n, len(b))]
					wantRead(t, h, at, n, string(turnedOf(21, at, []byte(want))))
				}
			}
		}
	}
}

// Turned twice a byte is itself: each byte at each remainder.
func TestP123EachByte(t *testing.T) {
	var all []byte
	for x := range 256 {
		all = append(all, bytes.Repeat([]byte{byte(x)}, 9)...)
	}
	for _, key := range keys() {
		h := newCipher(t, fileOf(t, span.New(all), 0), key)
		got := h.Do(api.Op{Do: api.DoRead, N: api.MaxText}).Data
		if !bytes.Equal(turnedOf(key, 0, got), all) {
			t.Errorf("key %x: a byte is turned otherwise", key)
		}
		for i := range got {
			got[i] ^= all[i]
		}
		if !bytes.Equal(got, streamOf(key, 0, len(all))) {
			t.Errorf("key %x: the stream hangs on the bytes", key)
		}
	}
}
