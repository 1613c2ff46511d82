package disk_test

import (
	"bytes"
	"slices"
	"testing"

	"mantle/api"
)

// From a new disk until none is free, and then no more.
func TestP214All(t *testing.T) {
	for _, n := range borders() {
		x := bothOf(t, bytesOf(n), n, api.CanWrite)
		for k := mapBlocks(n) + 1; k < n; k++ {
			wantLeft(t, x.disk, n-k)
			x.want(t, act{do: doTake})
			if !isTaken(x.page.data, k) {
				t.Fatalf("block %d of %d is not the next one", k, n)
			}
		}
		for range 2 {
			wantTake(t, x.disk, 0, api.ErrSpace)
			wantLeft(t, x.disk, 0)
		}
		x.spy.wantCalls(t)
		x.wantBytes(t)
	}
}

// All sets of blocks that may be taken: the lowest free one is told, its bytes are noughts, and no other ones are touched.
func TestP214Lowest(t *testing.T) {
	const n = 11
	for set := range 1 << (n - 2) {
		var taken []int
		for k := 2; k < n; k++ {
			if set>>(k-2)%2 == 1 {
				taken = append(taken, k)
			}
		}
		b := bytesOf(n, taken...)
		copy(b[128:], letters(len(b)-128))
		x := bothOf(t, b, n, 15)
		x.want(t, act{do: doTake})
		x.want(t, act{do: doLeft})
		x.wantBytes(t)
	}
}

// One free block alone, at each place.
func TestP214OneFree(t *testing.T) {
	for _, n := range []int{9, 512, 513, 1024} {
		var taken []int
		for k := mapBlocks(n) + 1; k < n; k++ {
			taken = append(taken, k)
		}
		x := bothOf(t, bytesOf(n, taken...), n, api.CanWrite)
		for _, k := range taken {
			x.want(t, act{do: doFree, block: k})
			wantLeft(t, x.disk, 1)
			wantNoRead(t, x.disk, k, api.ErrNone)
			x.want(t, act{do: doTake})
			wantRead(t, x.disk, k, make([]byte, 64))
		}
		x.wantBytes(t)
	}
}

// Behind a Free in the middle that block comes first, and is noughts again.
func TestP214Middle(t *testing.T) {
	d := formatted(t, newFile(t, nil, 15), 10)
	for k := 2; k < 10; k++ {
		wantTake(t, d, k, api.OK)
		wantE(t, d.Write(k, letters(64)), api.OK)
	}
	for _, k := range []int{5, 2, 9, 7} {
		wantE(t, d.Free(k), api.OK)
		wantE(t, d.Free(k), api.ErrNone)
	}
	wantLeft(t, d, 4)
	for _, k := range []int{2, 5, 7, 9} {
		wantTake(t, d, k, api.OK)
		wantRead(t, d, k, make([]byte, 64))
	}
	wantTake(t, d, 0, api.ErrSpace)
	wantRead(t, d, 6, letters(64))
}

// The first write refused: nothing was changed. The second one: there are noughts in a block that is still free.
func TestP214NoWrite(t *testing.T) {
	for _, e := range errnos() {
		for _, n := range []int{9, 512, 513} {
			first := mapBlocks(n) + 1
			b := filled(n)
			x := bothOf(t, b, n, api.CanWrite)
			x.refuse(rules{noWrite: e})
			x.want(t, act{do: doTake})
			x.spy.wantBytes(t, filled(n))
			x.refuse(rules{skip: 1, noWrite: e})
			x.want(t, act{do: doTake})
			clear(b[64*first+64 : 64*first+128]) // the second data block is the first free one
			x.spy.wantBytes(t, b)
			x.refuse(rules{})
			wantBlocks(t, x.disk, b, n)
			wantTake(t, x.disk, first+1, api.OK)
		}
	}
}

// A map that is no more all there, at each place; where just data blocks are gone, one is taken all the same.
func TestP214Short(t *testing.T) {
	for _, n := range []int{9, 512, 513, 1024} {
		for size := range 64 * (mapBlocks(n) + 4) {
			x := bothOf(t, filled(n), n, 15)
			x.cut(t, size)
			x.want(t, act{do: doLeft})
			x.want(t, act{do: doTake})
			x.want(t, act{do: doLeft})
			x.want(t, act{do: doFree, block: mapBlocks(n) + 1})
			if size < 64*mapBlocks(n)+64 {
				wantLeft(t, x.disk, 0)
				wantTake(t, x.disk, 0, api.ErrDisk)
			}
			x.wantBytes(t)
		}
	}
}

// A read of the map that is refused; blocks and the head are none of Take's business.
func TestP214NoRead(t *testing.T) {
	for _, e := range errnos() {
		for _, n := range []int{9, 513} {
			for k := range mapBlocks(n) + 4 {
				for _, bad := range bads(n, k) {
					x := bothOf(t, filled(n), n, 15)
					x.spy.beside = bytesOf(n)[64:]
					x.refuse(rules{bad: bad, noRead: e})
					x.want(t, act{do: doLeft})
					x.want(t, act{do: doTake})
					x.want(t, act{do: doFree, block: k})
					x.wantBytes(t)
				}
			}
		}
	}
}

// Of two errors the one that is named first.
func TestP214Order(t *testing.T) {
	full := bytesOf(5, 2, 3, 4)
	noRead, noWrite := refusals(api.ErrSum, 0, api.OK), rules{noWrite: api.ErrQuota}
	for i, c := range []struct {
		can   uint8
		b     []byte
		size  int
		rules rules
		want  api.Errno
	}{
		{14, full, 0, noRead, api.ErrCan},
		{0, full, 320, rules{}, api.ErrCan},
		{1, full, 0, noRead, api.ErrSum},
		{1, full, 320, refusals(api.ErrSum, 0, api.ErrQuota), api.ErrSum},
		{1, full, 127, noWrite, api.ErrDisk},
		{1, full, 320, noWrite, api.ErrSpace},
		{1, bytesOf(5, 2, 4), 320, noWrite, api.ErrQuota},
	} {
		x := bothOf(t, c.b, 5, c.can)
		x.cut(t, c.size)
		x.refuse(c.rules)
		wantTake(t, x.disk, 0, c.want)
		if len(x.spy.calls) > 0 && c.want != api.ErrQuota {
			t.Errorf("%d: the file was asked %q", i, x.spy.calls)
		}
		x.spy.wantBytes(t, c.b[:c.size])
	}
}

// Each block, by handles that can all or less; a taken one is freed by one byte of the map alone, and free then.
func TestP214Free(t *testing.T) {
	for _, n := range borders() {
		for can := range uint8(16) {
			x := bothOf(t, filled(n), n, can)
			for _, k := range edgeBlocks(n) {
				for range 2 {
					x.want(t, act{do: doFree, block: k})
					x.want(t, act{do: doRead, block: k})
				}
			}
			x.want(t, act{do: doLeft})
			x.wantBytes(t)
		}
	}
}

// All blocks taken, and freed from the first one on, and from the last one.
func TestP214FreeAll(t *testing.T) {
	for _, n := range []int{3, 9, 10, 17, 512, 513, 1024} {
		var l []int
		for k := mapBlocks(n) + 1; k < n; k++ {
			l = append(l, k)
		}
		full := bytesOf(n, l...)
		copy(full[64*(mapBlocks(n)+1):], letters(64*len(l)))
		for range 2 {
			x := bothOf(t, full, n, 1)
			for i, k := range l {
				x.want(t, act{do: doFree, block: k})
				wantLeft(t, x.disk, i+1)
			}
			want := bytes.Clone(full)
			copy(want[64:], bytesOf(n)[64:64*(mapBlocks(n)+1)])
			x.spy.wantBytes(t, want) // what stood in the blocks stands there still
			slices.Reverse(l)
		}
	}
}

// A write that is refused, and of two errors the one that is named first.
func TestP214FreeRefused(t *testing.T) {
	const free, taken = 3, 2
	noRead, noWrite := refusals(api.ErrSum, 0, api.OK), rules{noWrite: api.ErrQuota}
	for i, c := range []struct {
		can         uint8
		block, size int
		rules       rules
		want        api.Errno
		calls       int
	}{
		{0, 1, 0, noRead, api.ErrArg, 0},
		{14, free, 0, noRead, api.ErrCan, 0},
		{14, taken, 576, rules{}, api.ErrCan, 0},
		{1, free, 0, noRead, api.ErrSum, 0},
		{1, taken, 576, refusals(api.ErrSum, 0, api.ErrQuota), api.ErrSum, 0},
		{1, free, 64, noWrite, api.ErrDisk, 0},
		{1, taken, 64, noWrite, api.ErrDisk, 0},
		{1, free, 576, noWrite, api.ErrNone, 0},
		{1, taken, 576, noWrite, api.ErrQuota, 1},
	} {
		x := bothOf(t, filled(9), 9, c.can)
		x.cut(t, c.size)
		x.refuse(c.rules)
		wantE(t, x.disk.Free(c.block), c.want)
		if len(x.spy.calls) != c.calls {
			t.Errorf("%d: the file was asked %q", i, x.spy.calls)
		}
		x.spy.wantBytes(t, filled(9)[:c.size])
	}
	for _, e := range errnos() {
		x := bothOf(t, filled(9), 9, 1)
		x.refuse(rules{noWrite: e})
		x.want(t, act{do: doFree, block: taken})
		x.spy.wantBytes(t, filled(9))
	}
}

// A map that somebody else has written: data blocks alone are taken, and the bits of others stay.
func TestP214OtherMap(t *testing.T) {
	b := bytesOf(5)
	d := opened(t, oddOf(b).handle())
	b[64] = 0xe0
	wantLeft(t, d, 3)
	for k := 2; k < 5; k++ {
		wantTake(t, d, k, api.OK)
	}
	wantTake(t, d, 0, api.ErrSpace)
	wantE(t, d.Free(3), api.OK)
	if b[64] != 0xf4 {
		t.Errorf("the map's byte is %x", b[64])
	}
	for _, n := range borders() {
		x := bothOf(t, bytesOf(n), n, 15)
		free := make([]byte, 64*mapBlocks(n))
		copy(x.page.data[64:], free)
		if e := x.spy.below.Put(64, free); e != api.OK {
			t.Fatal(e)
		}
		x.want(t, act{do: doLeft})
		x.want(t, act{do: doTake})
		x.want(t, act{do: doFree, block: mapBlocks(n) + 1})
		x.wantBytes(t)
	}
}
