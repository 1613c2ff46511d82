package cache_test

import (
	"bytes"
	"math"
	"slices"
	"strings"
	"testing"

	"mantle/api"
	"mantle/cache"
	"mantle/face"
	"mantle/span"
)

// desk is a file of memory, a cache over it, and what plain lists tell of both.
type desk struct {
	span  *span.Bytes
	file  *face.Handle
	hand  *face.Handle
	cache *cache.Cache
	book  *ledger
}

func newDesk(t *testing.T, size int64, bits uint16, can uint8, blocks int) *desk {
	t.Helper()
	s, p := patterned(size, bits)
	d := &desk{span: s, file: fileOf(t, s, can), book: &ledger{paper: p, can: can, most: blocks}}
	d.hand, d.cache = newCache(t, d.file, blocks)
	return d
}

// wantDo does op through the cache.
func (d *desk) wantDo(t *testing.T, op api.Op) {
	t.Helper()
	wantTold(t, d.hand, op, d.book.do(op))
	wantKept(t, d.cache, d.book.hits, d.book.misses, d.book.blocks()...)
}

// wantBeside does op to the file below.
func (d *desk) wantBeside(t *testing.T, op api.Op) {
	t.Helper()
	wantTold(t, d.file, op, d.book.paper.do(d.book.can, op))
	wantKept(t, d.cache, d.book.hits, d.book.misses, d.book.blocks()...)
}

// step is a read, and what the cache tells behind it.
type step struct {
	at           int64
	n            int
	hits, misses int
	blocks       []int64
}

// Reads of 200 bytes through a cache of two blocks: what is told, which blocks are used, and in which order.
func TestP82Reads(t *testing.T) {
	text := letters(200)
	for name, l := range map[string][]step{
		"within one block":          {{10, 20, 0, 1, []int64{0}}, {0, 64, 1, 1, []int64{0}}, {63, 1, 2, 1, []int64{0}}},
		"a whole block":             {{64, 64, 0, 1, []int64{1}}},
		"one that ends at a border": {{60, 4, 0, 1, []int64{0}}, {100, 28, 0, 2, []int64{1, 0}}},
		"one that begins there":     {{64, 1, 0, 1, []int64{1}}, {128, 2, 0, 2, []int64{2, 1}}},
		"across two":                {{63, 2, 0, 2, []int64{1, 0}}, {0, 65, 2, 2, []int64{1, 0}}},
		"across three of two":       {{63, 66, 0, 3, []int64{2, 1}}, {63, 66, 0, 6, []int64{2, 1}}},
		"across all four":           {{0, 200, 0, 4, []int64{3, 2}}, {130, 99, 2, 4, []int64{3, 2}}, {0, 200, 2, 8, []int64{3, 2}}},
		"of none":                   {{0, 0, 0, 0, nil}, {64, 0, 0, 0, nil}, {199, 0, 0, 0, nil}, {500, 0, 0, 0, nil}},
		"at Size and behind it":     {{200, 1, 0, 0, nil}, {201, 9, 0, 0, nil}, {256, 64, 0, 0, nil}, {math.MaxInt64, api.MaxText, 0, 0, nil}},
		"one that ends behind Size": {{199, 2, 0, 1, []int64{3}}, {150, api.MaxText, 1, 2, []int64{3, 2}}},
		"the last block":            {{192, 8, 0, 1, []int64{3}}, {192, 64, 1, 1, []int64{3}}, {199, 1, 2, 1, []int64{3}}},
		"a hit is a use":            {{0, 1, 0, 1, []int64{0}}, {64, 1, 0, 2, []int64{1, 0}}, {0, 1, 1, 2, []int64{0, 1}}, {128, 1, 1, 3, []int64{2, 0}}, {0, 1, 2, 3, []int64{0, 2}}},
		"falling":                   {{192, 1, 0, 1, []int64{3}}, {128, 1, 0, 2, []int64{2, 3}}, {64, 1, 0, 3, []int64{1, 2}}, {0, 1, 0, 4, []int64{0, 1}}},
		"a hit, then a miss":        {{0, 1, 0, 1, []int64{0}}, {64, 1, 0, 2, []int64{1, 0}}, {0, 200, 2, 4, []int64{3, 2}}},
		"a miss that drops a hit":   {{64, 1, 0, 1, []int64{1}}, {128, 1, 0, 2, []int64{2, 1}}, {0, 192, 0, 5, []int64{2, 1}}},
	} {
		h, c := newCache(t, newFile(t, text, 15), 2)
		for _, s := range l {
			from := min(s.at, 200)
			wantRead(t, h, s.at, s.n, text[from:min(from+int64(s.n), 200)])
			wantKept(t, c, s.hits, s.misses, s.blocks...)
		}
		if t.Failed() {
			t.Fatal(name)
		}
	}
}

// Blocks that are used last are kept, of each number of blocks.
func TestP82Order(t *testing.T) {
	uses := []int64{0, 1, 2, 3, 0, 4, 1, 1, 5, 0, 3, 2, 2, 4, 0, 5, 1}
	for most := 1; most < 8; most++ {
		h, c := newCache(t, newFile(t, letters(380), 15), most)
		hits, misses, order := 0, 0, []int64(nil)
		for _, k := range uses {
			if i := slices.Index(order, k); i >= 0 {
				hits++
				order = slices.Delete(order, i, i+1)
			} else {
				misses++
			}
			order = slices.Insert(order, 0, k)
			order = order[:min(len(order), most)]
			wantRead(t, h, 64*k+7, 3, letters(380)[64*k+7:64*k+10])
			wantKept(t, c, hits, misses, order...)
		}
	}
}

// All reads of few blocks, by caches of few blocks in which something is kept, or nothing.
func TestP82AllReads(t *testing.T) {
	for _, size := range []int64{0, 1, 63, 64, 65, 128, 130} {
		for most := 1; most < 4; most++ {
			d := newDesk(t, size, 0b1011, 15, most)
			for at := int64(-1); at < size+3; at++ {
				for n := -1; n < int(size)+4; n += 1 + n/3 {
					d.wantDo(t, api.Op{Do: api.DoRead, At: at, N: n})
					if t.Failed() {
						t.Fatalf("size %d, %d blocks, at %d, %d", size, most, at, n)
					}
				}
			}
		}
	}
}

// What is asked of the file: its Size, once, and for each miss 64 bytes from the block's beginning; for a hit nothing.
func TestP82Asked(t *testing.T) {
	r := newRefuser(t, letters(200))
	h, _ := newCache(t, r.handle(15), 2)
	wantRead(t, h, 70, 3, letters(200)[70:73])
	r.wantCalls(t, "0 0 0 ", "1 64 64 ")
	wantRead(t, h, 127, 2, letters(200)[127:129])
	r.wantCalls(t, "0 0 0 ", "1 128 64 ")
	wantRead(t, h, 64, 100, letters(200)[64:164])
	r.wantCalls(t, "0 0 0 ")
	wantRead(t, h, 199, 1, letters(200)[199:])
	r.wantCalls(t, "0 0 0 ", "1 192 64 ")
	wantRead(t, h, 0, 200, letters(200))
	r.wantCalls(t, "0 0 0 ", "1 0 64 ", "1 64 64 ", "1 128 64 ", "1 192 64 ")
	wantRead(t, h, 200, 9, "")
	wantRead(t, h, 300, 9, "")
	wantRead(t, h, 3, 0, "")
	r.calls = slices.DeleteFunc(r.calls, func(s string) bool { return s == "0 0 0 " })
	r.wantCalls(t)
}

// The longest read, by caches of 1, of 1024 blocks and of numbers between: it may go across one block more than can be kept.
func TestP82Longest(t *testing.T) {
	text := letters(api.MaxText + 200)
	for _, most := range []int{1, 2, 100, 1023, 1024} {
		h, c := newCache(t, newFile(t, text, 15), most)
		var want []int64
		for k := int64(1024); len(want) < most; k-- {
			want = append(want, k)
		}
		wantRead(t, h, 1, api.MaxText, text[1:api.MaxText+1])
		wantKept(t, c, 0, 1025, want...)
		wantRead(t, h, 1, api.MaxText, text[1:api.MaxText+1])
		wantKept(t, c, 0, 2050, want...)
		wantRead(t, h, api.MaxText+64, 1, text[api.MaxText+64:api.MaxText+65])
		wantKept(t, c, 0, 2051, append([]int64{1025}, want[:most-1]...)...)
	}
	h, c := newCache(t, newFile(t, text, 15), 1024)
	for i := range 500 { // all kept: hits that begin with the one that was used longest ago
		if wantRead(t, h, 0, api.MaxText, text[:api.MaxText]); t.Failed() {
			t.Fatal(i)
		}
	}
	if hits, misses := c.Hits(); hits != 499*1024 || misses != 1024 {
		t.Errorf("%d hits, %d misses", hits, misses)
	}
}

// A file below that refuses one block, of a read of all: the read ends there, the blocks ahead stay used, the miss counts, and none is kept less for it.
func TestP82RefusedInTheMidst(t *testing.T) {
	text := letters(300)
	for k := range int64(5) {
		for i, e := range errnos() {
			r := newRefuser(t, text)
			r.bad, r.badE, r.data = 64*k, e, []byte("beside")[:i%7]
			h, c := newCache(t, r.handle(15), 3)
			wantNoRead(t, h, 0, 300, e)
			if b, _ := h.File().ReadAt(64*k, 1); len(b) != 0 {
				t.Errorf("%q is told beside an error", b)
			}
			var want []int64
			for b := k - 1; b >= 0 && len(want) < 3; b-- {
				want = append(want, b)
			}
			wantKept(t, c, 0, int(k)+2, want...)
			calls := []string{"0 0 0 "}
			for b := int64(0); b <= k; b++ {
				calls = append(calls, call(api.Op{Do: api.DoRead, At: 64 * b, N: 64}))
			}
			r.wantCalls(t, append(calls, "0 0 0 ", calls[k+1])...)
			r.badE = api.OK
			wantRead(t, h, 64*k, 1, text[64*k:64*k+1])
			wantKept(t, c, 0, int(k)+3, append([]int64{k}, want[:min(2, len(want))]...)...)
		}
	}
}

// A read that is refused behind a hit: the hit counts, and that block is the one that was used last.
func TestP82RefusedBehindHits(t *testing.T) {
	r := newRefuser(t, letters(300))
	h, c := newCache(t, r.handle(15), 3)
	for _, k := range []int64{0, 1, 4} {
		wantRead(t, h, 64*k, 1, letters(300)[64*k:64*k+1])
	}
	wantKept(t, c, 0, 3, 4, 1, 0)
	r.bad, r.badE = 128, api.ErrSum
	wantNoRead(t, h, 10, 200, api.ErrSum)
	wantKept(t, c, 2, 4, 1, 0, 4)
	wantNoRead(t, h, 130, 1, api.ErrSum)
	wantKept(t, c, 2, 5, 1, 0, 4)
	r.no[api.DoRead] = api.ErrGone // what is kept is told though the file refuses all
	wantRead(t, h, 260, 9, letters(300)[260:269])
	wantRead(t, h, 0, 128, letters(300)[:128])
	wantKept(t, c, 5, 5, 1, 0, 4)
	wantNoRead(t, h, 192, 1, api.ErrGone)
	wantKept(t, c, 5, 6, 1, 0, 4)
}

// Calls that the file's rules refuse use no block, drop none, and come not to the file; they are refused ahead of what it refuses.
func TestOwnErrorsFirst(t *testing.T) {
	r := newRefuser(t, letters(300))
	h, c := newCache(t, r.handle(15), 4)
	h.Do(api.Op{Do: api.DoRead, N: 300})
	r.refuseAll(api.ErrGone)
	r.calls = nil
	n := 0
	for _, op := range edges() {
		if e := refuses(op); e != api.OK {
			wantTold(t, h, op, api.Told{E: e})
			n++
		}
	}
	wantNoRead(t, h, -1, api.MaxText+1, api.ErrArg)
	wantNoRead(t, h, -1, -1, api.ErrArg)
	wantNoRead(t, h, 0, -1, api.ErrArg)
	wantNoRead(t, h, 999, api.MaxText+1, api.ErrLong)
	wantWrite(t, h, -1, letters(api.MaxText+1), api.ErrArg)
	wantWrite(t, h, api.MaxSize+1, "", api.ErrLong)
	r.wantCalls(t)
	wantKept(t, c, 0, 5, 4, 3, 2, 1)
	if n < 100 {
		t.Errorf("only %d ops are refused", n)
	}
}

// A file that was changed beside the cache: what is kept is told as it was, Size as it is.
func TestP82ChangedBeside(t *testing.T) {
	text := letters(200)
	f := newFile(t, text, 15)
	h, c := newCache(t, f, 4)
	wantRead(t, h, 10, 60, text[10:70])
	wantWrite(t, f, 0, strings.Repeat("#", 200), api.OK)
	wantRead(t, h, 0, 200, text[:128]+strings.Repeat("#", 72))
	wantKept(t, c, 2, 4, 3, 2, 1, 0)
	wantRead(t, f, 0, 200, strings.Repeat("#", 200))
	wantCut(t, f, 100, api.OK)
	wantSize(t, h, 100)
	wantRead(t, h, 60, 99, text[60:100])
	wantRead(t, h, 100, 99, "")
	wantKept(t, c, 4, 4, 1, 0, 3, 2)
	wantCut(t, f, 200, api.OK) // longer again: the kept blocks tell what is gone
	wantRead(t, h, 60, 140, text[60:128]+strings.Repeat("#", 72))
	wantKept(t, c, 8, 4, 3, 2, 1, 0)
}

// A block that is kept with fewer bytes than are wanted of it ends the read; those behind it are not used.
func TestP82Fewer(t *testing.T) {
	text := letters(70)
	f := newFile(t, text, 15)
	h, c := newCache(t, f, 9)
	wantRead(t, h, 64, 1, text[64:65])
	wantRead(t, h, 0, 1, text[:1])
	wantWrite(t, f, 70, letters(200), api.OK)
	wantSize(t, h, 270)
	wantRead(t, h, 0, 270, text)
	wantKept(t, c, 2, 2, 1, 0)
	wantRead(t, h, 66, 4, text[66:])
	wantKept(t, c, 3, 2, 1, 0)
	for i, at := range []int64{69, 70, 71, 127} {
		wantRead(t, h, at, 5, text[min(at, 70):])
		wantKept(t, c, 4+i, 2, 1, 0)
	}
	wantRead(t, h, 128, 70, letters(200)[58:128])
	wantKept(t, c, 7, 4, 3, 2, 1, 0)
	wantRead(t, h, 63, 1, text[63:64])
	wantKept(t, c, 8, 4, 0, 3, 2, 1)
}

// A file that has become shorter: no more than its Size is told, of kept blocks too; one that lies behind the end is not used.
func TestP82Shorter(t *testing.T) {
	text := letters(200)
	for size := range int64(201) {
		f := newFile(t, text, 15)
		h, c := newCache(t, f, 4)
		h.Do(api.Op{Do: api.DoRead, N: 200})
		wantCut(t, f, size, api.OK)
		wantRead(t, h, 0, 200, text[:size])
		if hits, misses := c.Hits(); hits != int(size+63)/64 || misses != 4 || len(c.Blocks()) != 4 {
			t.Errorf("size %d: %d hits, %d misses", size, hits, misses)
		}
		wantRead(t, h, size, 9, "")
		wantSize(t, h, size)
	}
}

// A file that tells more or fewer bytes than it was asked, or by its Size has: a block is at most 64 of them; one that is short when it is read ends the read, too.
func TestP82OddReads(t *testing.T) {
	o := &odd{size: func() int64 { return 200 }}
	for more := range 130 {
		o.read = func(at int64, n int) ([]byte, api.Errno) { return []byte(letters(400))[at:][:more], api.OK }
		h, c := newCache(t, o.handle(), 4)
		want := letters(200)[:min(more, 64)]
		misses := 1
		if more >= 64 {
			want, misses = letters(200), 4
		}
		wantRead(t, h, 0, 300, want)
		if hits, m := c.Hits(); hits != 0 || m != misses || len(c.Blocks()) != misses {
			t.Errorf("%d bytes are told of each block: %d hits, %d misses", more, hits, m)
		}
		wantRead(t, h, 0, 300, want)
		wantKept(t, c, misses, misses, c.Blocks()...)
	}
	o.read = func(at int64, n int) ([]byte, api.Errno) { return nil, api.OK }
	h, c := newCache(t, o.handle(), 4)
	wantRead(t, h, 70, 99, "")
	wantRead(t, h, 70, 99, "")
	wantKept(t, c, 1, 1, 1)
}

// A file that hands out the same memory each time, and changes it: kept blocks stay as they were when they were read.
func TestP82KeptAsTheyWere(t *testing.T) {
	room := make([]byte, 64)
	o := &odd{size: func() int64 { return 256 }}
	o.read = func(at int64, n int) ([]byte, api.Errno) {
		for i := range room {
			room[i] = byte('a' + at/64)
		}
		return room[:n], api.OK
	}
	h, _ := newCache(t, o.handle(), 4)
	want := strings.Repeat("a", 64) + strings.Repeat("b", 64) + strings.Repeat("c", 64) + strings.Repeat("d", 64)
	wantRead(t, h, 0, 256, want)
	wantRead(t, h, 0, 256, want)
	clear(room)
	wantRead(t, h, 0, 256, want)
}

// Whatever Size a file tells: the reads end, and none panics.
func TestP82OddSizes(t *testing.T) {
	o := &odd{read: func(at int64, n int) ([]byte, api.Errno) { return bytes.Repeat([]byte("z"), n), api.OK }}
	for _, size := range []int64{math.MinInt64, math.MinInt64 + 1, -api.MaxSize, -64, -1, 0, 1, api.MaxSize, math.MaxInt64 - 64, math.MaxInt64 - 1, math.MaxInt64} {
		o.size = func() int64 { return size }
		h, c := newCache(t, o.handle(), 2)
		wantSize(t, h, size)
		for _, at := range []int64{0, 1, 63, 64, api.MaxSize - 1, math.MaxInt64 - 130, math.MaxInt64 - 64, math.MaxInt64 - 1, math.MaxInt64} {
			for _, n := range []int{0, 1, 64, 200} {
				want := 0
				if at < size {
					want = int(min(int64(n), size-at))
				}
				wantRead(t, h, at, n, strings.Repeat("z", want))
			}
		}
		h.Do(api.Op{Do: api.DoRead, N: 65})
		wantWrite(t, h, 70, "x", api.OK)
		if slices.Contains(c.Blocks(), 1) || size > 64 && !slices.Contains(c.Blocks(), 0) {
			t.Errorf("size %d: kept are %v", size, c.Blocks())
		}
		wantCut(t, h, 64, api.OK)
		if slices.ContainsFunc(c.Blocks(), func(k int64) bool { return k > 0 }) {
			t.Errorf("size %d: kept are %v", size, c.Blocks())
		}
	}
}

// A file that reads through the cache while it is read: each block is kept once, and at most so many.
func TestP82ReadWithin(t *testing.T) {
	for most := 1; most < 5; most++ {
		var h *face.Handle
		within := false
		o := &odd{size: func() int64 { return 256 }}
		o.read = func(at int64, n int) ([]byte, api.Errno) {
			if !within {
				within = true
				h.Do(api.Op{Do: api.DoRead, N: 256})
				within = false
			}
			return []byte(letters(256))[at : at+int64(n)], api.OK
		}
		h, c := newCache(t, o.handle(), most)
		for at := range int64(256) {
			wantRead(t, h, at, 200, letters(256)[at:min(at+200, 256)])
			l := c.Blocks()
			if slices.Sort(l); len(l) > most || len(slices.Compact(l)) != len(c.Blocks()) {
				t.Fatalf("kept are %v", c.Blocks())
			}
		}
	}
}
