package cache_test

import (
	"strings"
	"testing"

	"mantle/api"
	"mantle/cache"
	"mantle/face"
	"mantle/join"
)

// full is a refuser of so many bytes and a cache in which all its blocks are kept, the first one used last; what was missed is told, too.
func full(t *testing.T, size int) (*refuser, *face.Handle, *cache.Cache, int) {
	t.Helper()
	r := newRefuser(t, letters(size))
	h, c := newCache(t, r.handle(15), api.MaxBlocks)
	n := (size + 63) / 64
	for k := n - 1; k >= 0; k-- {
		wantRead(t, h, int64(64*k), 1, letters(size)[64*k:64*k+1])
	}
	r.calls = nil
	return r, h, c, n
}

// change is a write or a cut of a file of which all blocks are kept, and those that are kept behind it.
type change struct {
	name string
	size int
	op   api.Op
	kept []int64
}

func put(at int64, n int) api.Op { return api.Op{Do: api.DoWrite, At: at, B: []byte(letters(n))} }

func cutTo(size int64) api.Op { return api.Op{Do: api.DoCut, At: size} }

func changes() []change {
	return []change{
		{"a write within one block", 300, put(70, 5), []int64{0, 2, 3, 4}},
		{"a whole block", 300, put(64, 64), []int64{0, 2, 3, 4}},
		{"the first byte", 300, put(0, 1), []int64{1, 2, 3, 4}},
		{"a block's last byte", 300, put(127, 1), []int64{0, 2, 3, 4}},
		{"across two blocks", 300, put(127, 2), []int64{0, 3, 4}},
		{"across several", 300, put(100, 100), []int64{0, 4}},
		{"all", 300, put(0, 300), nil},
		{"all but the last", 300, put(0, 256), []int64{4}},
		{"within the last block", 300, put(299, 1), []int64{0, 1, 2, 3}},
		{"across the end", 300, put(250, 100), []int64{0, 1, 2}},
		{"right at the end", 300, put(300, 1), []int64{0, 1, 2, 3}},
		{"right at the end, and far", 300, put(300, 500), []int64{0, 1, 2, 3}},
		{"right at an end that is a border", 256, put(256, 1), []int64{0, 1, 2, 3}},
		{"behind the end", 300, put(310, 1), []int64{0, 1, 2, 3}},
		{"behind the end, in another block", 300, put(500, 9), []int64{0, 1, 2, 3}},
		{"behind an end that is a border", 256, put(400, 9), []int64{0, 1, 2, 3}},
		{"at the greatest place", 300, put(api.MaxSize-1, 1), []int64{0, 1, 2, 3}},
		{"of none", 300, put(70, 0), []int64{0, 1, 2, 3, 4}},
		{"of none at 0", 300, put(0, 0), []int64{0, 1, 2, 3, 4}},
		{"of none behind the end", 300, put(400, 0), []int64{0, 1, 2, 3, 4}},
		{"into an empty file", 0, put(0, 1), nil},
		{"a cut to the midst of a block", 300, cutTo(100), []int64{0}},
		{"a cut to a block's beginning", 300, cutTo(128), []int64{0, 1}},
		{"a cut to right behind it", 300, cutTo(129), []int64{0, 1}},
		{"a cut to right ahead of it", 300, cutTo(127), []int64{0}},
		{"a cut by one byte", 300, cutTo(299), []int64{0, 1, 2, 3}},
		{"a cut by one byte, to a border", 257, cutTo(256), []int64{0, 1, 2, 3}},
		{"a cut by one byte, from a border", 256, cutTo(255), []int64{0, 1, 2}},
		{"a cut to none", 300, cutTo(0), nil},
		{"a cut to the same size", 300, cutTo(300), []int64{0, 1, 2, 3}},
		{"a cut to the same size, a border", 256, cutTo(256), []int64{0, 1, 2, 3}},
		{"a cut that lengthens", 300, cutTo(301), []int64{0, 1, 2, 3}},
		{"a cut that lengthens from a border", 256, cutTo(257), []int64{0, 1, 2, 3}},
		{"a cut that lengthens by blocks", 300, cutTo(999), []int64{0, 1, 2, 3}},
		{"a cut to the greatest size", 300, cutTo(api.MaxSize), []int64{0, 1, 2, 3}},
	}
}

// Which blocks a write and a cut drop; the order of all others stays, no hit and no miss is counted, and what is read then is the file's.
func TestP83Dropped(t *testing.T) {
	for _, x := range changes() {
		r, h, c, n := full(t, x.size)
		wantTold(t, h, x.op, api.Told{})
		r.wantCalls(t, "0 0 0 ", call(x.op)) // the Size ahead of it, then the change, as it is
		wantKept(t, c, 0, n, x.kept...)
		for at := int64(0); at < 600; at += 50 {
			op := api.Op{Do: api.DoRead, At: at, N: 50}
			wantTold(t, h, op, r.all.Do(op))
		}
		wantTold(t, h, api.Op{}, r.all.Do(api.Op{}))
		if t.Failed() {
			t.Fatal(x.name)
		}
	}
}

// What the file below refuses is told as it is, and drops nothing.
func TestP83Refused(t *testing.T) {
	for _, x := range changes() {
		for _, e := range errnos() {
			r, h, c, n := full(t, x.size)
			r.no[x.op.Do] = e
			before := c.Blocks()
			wantTold(t, h, x.op, api.Told{E: e})
			r.wantCalls(t, "0 0 0 ", call(x.op))
			wantKept(t, c, 0, n, before...)
			if x.size > 0 {
				wantRead(t, h, 0, x.size, letters(x.size))
				wantKept(t, c, n, n, c.Blocks()...)
			}
			if t.Failed() {
				t.Fatal(x.name, e)
			}
		}
	}
}

// A write that is refused in the midst, below, drops nothing: what is kept is told as it was.
func TestP83RefusedHalfway(t *testing.T) {
	a, b := newRefuser(t, letters(64)), newRefuser(t, letters(64))
	j, e := join.New([]*face.Handle{a.handle(15), b.handle(15)})
	if e != api.OK {
		t.Fatal(e)
	}
	h, c := newCache(t, j, 4)
	wantRead(t, h, 0, 128, letters(64)+letters(64))
	b.no[api.DoWrite] = api.ErrQuota
	wantWrite(t, h, 0, strings.Repeat("#", 70), api.ErrQuota)
	wantKept(t, c, 0, 2, 1, 0)
	wantRead(t, h, 0, 128, letters(64)+letters(64))
	wantRead(t, j, 0, 128, strings.Repeat("#", 64)+letters(64))
}

// Kept blocks behind the end, which only a change beside the cache leaves there, go with a write up to its last byte, and with every cut.
func TestP83BehindTheEnd(t *testing.T) {
	for _, x := range []change{
		{"a write right at the end", 0, put(100, 5), []int64{0, 2, 3, 4}},
		{"a write behind the end", 0, put(130, 5), []int64{0, 3, 4}},
		{"a write far behind the end", 0, put(250, 7), []int64{0}},
		{"a write ahead of the end", 0, put(3, 5), []int64{1, 2, 3, 4}},
		{"a cut that shortens", 0, cutTo(64), []int64{0}},
		{"a cut that lengthens", 0, cutTo(110), []int64{0}},
		{"a cut to the same size", 0, cutTo(100), []int64{0}},
	} {
		r, h, c, n := full(t, 300)
		r.all.Do(cutTo(100))
		wantTold(t, h, x.op, api.Told{})
		if wantKept(t, c, 0, n, x.kept...); t.Failed() {
			t.Fatal(x.name)
		}
	}
}

// All writes and cuts of few bytes, over files of few blocks.
func TestP83AllWritesAndCuts(t *testing.T) {
	for _, size := range []int64{0, 1, 64, 65, 130} {
		for at := int64(-1); at < size+70; at++ {
			ops := []api.Op{cutTo(at)}
			for _, n := range []int{0, 1, 2, 63, 64, 65, 130} {
				ops = append(ops, put(at, n))
			}
			for _, op := range ops {
				d := newDesk(t, size, 0b110, 15, 4)
				d.wantDo(t, api.Op{Do: api.DoRead, N: 999})
				d.wantDo(t, op)
				d.book.paper.wantState(t, d.span)
				d.wantDo(t, api.Op{Do: api.DoRead, N: 999})
				d.wantDo(t, api.Op{})
				if t.Failed() {
					t.Fatalf("size %d, Do %d at %d of %d bytes", size, op.Do, at, len(op.B))
				}
			}
		}
	}
}

// The bounds of the file's rules are taken, one past them is not.
func TestBounds(t *testing.T) {
	most := letters(api.MaxText)
	f := newFile(t, "abc", 15)
	h, c := newCache(t, f, 2)
	wantRead(t, h, 0, 3, "abc")
	wantWrite(t, h, 0, most+"x", api.ErrLong)
	wantWrite(t, h, api.MaxSize, "x", api.ErrLong)
	wantWrite(t, h, api.MaxSize-1, "xy", api.ErrLong)
	wantCut(t, h, api.MaxSize+1, api.ErrLong)
	wantKept(t, c, 0, 1, 0)
	wantWrite(t, h, 0, most, api.OK)
	wantKept(t, c, 0, 1)
	wantRead(t, h, 0, api.MaxText, most)
	wantRead(t, f, 0, api.MaxText, most)
	wantWrite(t, h, api.MaxSize, "", api.OK)
	wantSize(t, h, api.MaxText)
	wantWrite(t, h, api.MaxSize-2, "xy", api.OK)
	wantSize(t, h, api.MaxSize)
	wantRead(t, h, api.MaxSize-3, api.MaxText, "\x00xy")
	wantKept(t, c, 0, 1026, api.MaxSize/64-1, 1023)
	wantCut(t, h, 0, api.OK)
	wantCut(t, h, api.MaxSize, api.OK)
	wantRead(t, h, api.MaxSize-1, 2, "\x00")
}

// What a write or a cut dropped is read anew: a miss, and the block is the one that was used last.
func TestP83ReadAnew(t *testing.T) {
	_, h, c, _ := full(t, 300)
	wantWrite(t, h, 130, "x", api.OK)
	wantKept(t, c, 0, 5, 0, 1, 3, 4)
	wantRead(t, h, 130, 1, "x")
	wantKept(t, c, 0, 6, 2, 0, 1, 3, 4)
	wantCut(t, h, 70, api.OK)
	wantKept(t, c, 0, 6, 0)
	wantRead(t, h, 69, 3, letters(70)[69:])
	wantKept(t, c, 0, 7, 1, 0)
	wantCut(t, h, 200, api.OK)
	wantKept(t, c, 0, 7, 0)
	wantRead(t, h, 69, 3, letters(70)[69:]+"\x00\x00")
	wantKept(t, c, 0, 8, 1, 0)
}

// Blocks that were dropped leave room: as many as before are kept then, and no more.
func TestP83Room(t *testing.T) {
	f := newFile(t, letters(640), 15)
	h, c := newCache(t, f, 3)
	h.Do(api.Op{Do: api.DoRead, N: 192})
	wantWrite(t, h, 64, "x", api.OK)
	wantKept(t, c, 0, 3, 2, 0)
	h.Do(api.Op{Do: api.DoRead, At: 256, N: 1})
	wantKept(t, c, 0, 4, 4, 2, 0)
	h.Do(api.Op{Do: api.DoRead, At: 320, N: 1})
	wantKept(t, c, 0, 5, 5, 4, 2)
	wantCut(t, h, 0, api.OK)
	wantKept(t, c, 0, 5)
	wantCut(t, h, 640, api.OK)
	h.Do(api.Op{Do: api.DoRead, N: 640})
	wantKept(t, c, 0, 15, 9, 8, 7)
}

// Many writes of all kinds through a cache that is full take no long time, far behind the end neither.
func TestP83Many(t *testing.T) {
	f := newFile(t, "", 15)
	h, c := newCache(t, f, api.MaxBlocks)
	wantCut(t, h, api.MaxSize, api.OK)
	h.Do(api.Op{Do: api.DoRead, N: api.MaxText})
	for i := range int64(2000) {
		wantCut(t, h, api.MaxText, api.OK)
		wantWrite(t, h, api.MaxSize-1-i, "x", api.OK)
		wantRead(t, h, api.MaxSize-1-i, 1, "x")
	}
	if hits, misses := c.Hits(); hits != 0 || misses != 1024+2000 {
		t.Errorf("%d hits, %d misses", hits, misses)
	}
}
