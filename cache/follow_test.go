package cache_test

import (
	"slices"
	"testing"

	"mantle/api"
	"mantle/cache"
	"mantle/face"
	"mantle/memory"
)

// Ops at all bounds, over files of all sixteen sets.
func TestEdges(t *testing.T) {
	ops := edges()
	for can := range uint8(16) {
		for _, most := range []int{1, 3, api.MaxBlocks} {
			d := newDesk(t, 200, 0b10011, can, most)
			for _, op := range ops {
				d.wantDo(t, op)
				d.book.paper.wantState(t, d.span)
				if t.Failed() {
					t.Fatalf("set %d, %d blocks, Do %d at %d, %d, of %d bytes", can, most, op.Do, op.At, op.N, len(op.B))
				}
			}
		}
	}
}

// Each of the six ops through the cache and beside it, over files of all sets: what is told, and what is kept.
func TestBeside(t *testing.T) {
	c := chance(8)
	for range 400 {
		can := uint8(c.below(16))
		d := newDesk(t, int64(c.below(400)), uint16(c.below(1<<16)), can, 1+c.below(6))
		for range 80 {
			op := c.op()
			if c.below(4) == 0 {
				d.wantBeside(t, op)
			} else {
				d.wantDo(t, op)
			}
			d.book.paper.wantState(t, d.span)
			if t.Failed() {
				t.Fatalf("set %d, %d blocks, Do %d at %d, %d, of %d bytes", can, d.book.most, op.Do, op.At, op.N, len(op.B))
			}
		}
	}
}

// As long as nobody changes the file below otherwise, all that is told through the cache is what the file tells by itself.
func TestP84Plain(t *testing.T) {
	c := chance(84)
	for range 400 {
		size, bits, can := int64(c.below(400)), uint16(c.below(1<<16)), uint8(c.below(16))
		s, p := patterned(size, bits)
		below := fileOf(t, s, can)
		h, _ := newCache(t, below, 1+c.below(7))
		for range 100 {
			op := c.op()
			wantTold(t, h, op, p.do(can, op))
			look := api.Op{Do: api.DoRead, At: max(c.place(), 0), N: c.below(300)}
			wantTold(t, h, look, below.Do(look))
			p.wantState(t, s)
			if t.Failed() {
				t.Fatalf("set %d, Do %d at %d, %d, of %d bytes", can, op.Do, op.At, op.N, len(op.B))
			}
		}
	}
}

// The same of a file that refuses some calls: what is refused changes nothing that is told.
func TestP84Refusing(t *testing.T) {
	c := chance(48)
	for range 200 {
		s, p := patterned(int64(c.below(400)), uint16(c.below(1<<16)))
		r := newRefuser(t, "")
		r.all = fileOf(t, s, 15)
		h, kept := newCache(t, r.handle(15), 1+c.below(5))
		for range 80 {
			op := c.op()
			e := api.OK
			r.no = [6]api.Errno{}
			if op.Do > 1 && op.Do < 6 && op.Do != api.DoNext && c.below(2) == 0 {
				e = errnos()[c.below(8)]
				r.no[op.Do] = e
			}
			before := kept.Blocks()
			if e != api.OK && refuses(op) == api.OK {
				wantTold(t, h, op, api.Told{E: e})
				if l := kept.Blocks(); !slices.Equal(l, before) {
					t.Errorf("kept are %v, and were %v", l, before)
				}
			} else {
				wantTold(t, h, op, p.do(15, op))
			}
			look := api.Op{Do: api.DoRead, At: max(c.place(), 0), N: c.below(300)}
			wantTold(t, h, look, p.do(15, look))
			if p.wantState(t, s); t.Failed() {
				t.Fatalf("Do %d at %d, %d, of %d bytes, refused by %v", op.Do, op.At, op.N, len(op.B), e)
			}
		}
	}
}

// Hits and misses together are the blocks in which what was read lay; kept are at most so many of them, each once.
func TestP85Count(t *testing.T) {
	c := chance(85)
	for range 200 {
		most := 1 + c.below(6)
		below := newFile(t, letters(c.below(500)), 15)
		h, kept := newCache(t, below, most)
		want, read := 0, map[int64]int{}
		for range 100 {
			op := c.op()
			told := h.Do(op)
			if n := int64(len(told.Data)); n > 0 {
				for k := op.At / 64; k <= (op.At+n-1)/64; k++ {
					want++
					read[k]++
				}
			}
			hits, misses := kept.Hits()
			if hits+misses != want || misses < len(read) {
				t.Fatalf("%d hits and %d misses, of %d blocks", hits, misses, want)
			}
			l := kept.Blocks()
			for i, k := range l {
				if read[k] == 0 || slices.Contains(l[:i], k) {
					t.Fatalf("kept are %v", l)
				}
			}
			if len(l) > most {
				t.Fatalf("%d blocks are kept, of %d", len(l), most)
			}
		}
	}
}

// Of two caches over like files, with the same calls, none of them refused, the lesser one's Blocks are a beginning of the greater one's.
func TestP86Greater(t *testing.T) {
	c := chance(86)
	for range 150 {
		size, bits := int64(c.below(500)), uint16(c.below(1<<16))
		var hands []*face.Handle
		var caches []*cache.Cache
		for most := 1; most < 10; most++ {
			s, _ := patterned(size, bits)
			h, kept := newCache(t, fileOf(t, s, 15), most)
			hands, caches = append(hands, h), append(caches, kept)
		}
		for range 80 {
			op := c.op()
			if cannot(15, op) != api.OK || refuses(op) != api.OK {
				continue
			}
			for i, h := range hands {
				h.Do(op)
				if i == 0 {
					continue
				}
				less, more := caches[i-1].Blocks(), caches[i].Blocks()
				if len(less) > len(more) || !slices.Equal(less, more[:len(less)]) {
					t.Fatalf("of %d blocks %v are kept, of %d %v", i, less, i+1, more)
				}
				few, _ := caches[i-1].Hits()
				if many, _ := caches[i].Hits(); few > many {
					t.Fatalf("of %d blocks %d hits, of %d %d", i, few, i+1, many)
				}
			}
		}
	}
}

// Two caches over one file: what is written through one is told by the other one only where it has kept nothing.
func TestTwoCaches(t *testing.T) {
	text := letters(200)
	f := newFile(t, text, 15)
	g, one := newCache(t, f, 4)
	h, two := newCache(t, f, 2)
	wantRead(t, g, 0, 64, text[:64])
	wantWrite(t, h, 60, "########", api.OK)
	wantRead(t, g, 0, 128, text[:64]+"####"+text[68:128])
	wantKept(t, one, 1, 2, 1, 0)
	wantKept(t, two, 0, 0)
	wantRead(t, h, 0, 200, text[:60]+"########"+text[68:])
	wantKept(t, two, 0, 4, 3, 2)
	wantWrite(t, g, 0, "!", api.OK)
	wantRead(t, g, 0, 64, text[:60]+"####")
	wantCut(t, g, 130, api.OK)
	wantKept(t, two, 0, 4, 3, 2)
	wantSize(t, h, 130)
	wantRead(t, h, 128, 9, text[128:130])
	wantKept(t, two, 1, 4, 2, 3)
	wantRead(t, h, 130, 9, "")
}

// A cache over a cache: the lower one is asked for what the upper one misses, and both drop what is changed through the upper one.
func TestCacheOverCache(t *testing.T) {
	text := letters(300)
	low, lower := newCache(t, newFile(t, text, 15), 4)
	high, upper := newCache(t, low, 2)
	wantRead(t, high, 0, 200, text[:200])
	wantKept(t, upper, 0, 4, 3, 2)
	wantKept(t, lower, 0, 4, 3, 2, 1, 0)
	wantRead(t, high, 70, 1, text[70:71])
	wantKept(t, upper, 0, 5, 1, 3)
	wantKept(t, lower, 1, 4, 1, 3, 2, 0)
	wantRead(t, high, 70, 1, text[70:71])
	wantKept(t, upper, 1, 5, 1, 3)
	wantKept(t, lower, 1, 4, 1, 3, 2, 0)
	wantWrite(t, high, 100, "x", api.OK)
	wantKept(t, upper, 1, 5, 3)
	wantKept(t, lower, 1, 4, 3, 2, 0)
	wantWrite(t, low, 192, "y", api.OK) // beside the upper one
	wantRead(t, high, 192, 1, text[192:193])
	wantRead(t, low, 192, 1, "y")
	wantCut(t, high, 64, api.OK)
	wantKept(t, upper, 2, 5)
	wantKept(t, lower, 1, 5, 0)
}

// Caches over caches, many of them: what is told through the uppermost one is what a plain list tells.
func TestDeep(t *testing.T) {
	c := chance(88)
	s, p := patterned(300, 0b1100101)
	h := fileOf(t, s, 15)
	for i := range 40 {
		h, _ = newCache(t, h, 1+i%5)
	}
	for range 300 {
		op := c.op()
		wantTold(t, h, op, p.do(15, op))
		if p.wantState(t, s); t.Failed() {
			t.Fatalf("Do %d at %d, %d, of %d bytes", op.Do, op.At, op.N, len(op.B))
		}
	}
	b, e := memory.All(h)
	if e != api.OK || string(b) != string(p.data) {
		t.Errorf("all bytes are %q, %v", b, e)
	}
}
