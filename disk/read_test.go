package disk_test

import (
	"bytes"
	"math"
	"testing"

	"mantle/api"
	"mantle/disk"
)

// wantNil holds what a disk that is none tells.
func wantNil(t *testing.T, d *disk.Disk) {
	t.Helper()
	for _, k := range append(edgeBlocks(9), edgeBlocks(1024)...) {
		wantNoRead(t, d, k, api.ErrNil)
		wantE(t, d.Free(k), api.ErrNil)
		for _, b := range lengths() {
			wantE(t, d.Write(k, b), api.ErrNil)
		}
	}
	wantTake(t, d, 0, api.ErrNil)
	wantLeft(t, d, 0)
	wantE(t, d.Sync(), api.ErrNil)
}

func TestNil(t *testing.T) {
	wantNil(t, nil)
	wantNil(t, &disk.Disk{})
	d, _ := disk.Open(nil)
	wantNil(t, d)
	d, _ = disk.Format(nil, 4)
	wantNil(t, d)
}

// Every block that is one, or might be taken for one, with texts of all lengths, by handles that can all or less.
func TestP213(t *testing.T) {
	for _, n := range borders() {
		for can := range uint8(16) {
			x := bothOf(t, filled(n), n, can)
			for _, k := range edgeBlocks(n) {
				x.want(t, act{do: doRead, block: k})
				for _, b := range lengths() {
					x.want(t, act{do: doWrite, block: k, b: b})
					x.want(t, act{do: doRead, block: k})
				}
			}
			x.wantBytes(t)
		}
	}
}

// Each length that may be, over a block that was full: what is behind the bytes is noughts.
func TestP213Padded(t *testing.T) {
	x := bothOf(t, filled(5), 5, 1)
	for n := range 70 {
		for _, b := range [][]byte{bytes.Repeat([]byte{255}, 64), letters(n)} {
			x.want(t, act{do: doWrite, block: 2, b: b})
			x.want(t, act{do: doRead, block: 2})
		}
	}
	x.wantBytes(t)
}

// What is written to one block is in no other one.
func TestP213Apart(t *testing.T) {
	for _, n := range []int{9, 513} {
		x := bothOf(t, bytesOf(n), n, 1)
		for k := mapBlocks(n) + 1; k < n; k++ {
			x.want(t, act{do: doTake})
		}
		for k := n - 1; k > mapBlocks(n); k-- {
			x.want(t, act{do: doWrite, block: k, b: []byte{byte(k), byte(k >> 8), 1}})
		}
		for k := range n {
			x.want(t, act{do: doRead, block: k})
		}
		x.wantBytes(t)
	}
}

// A file that got shorter behind Open, at each place.
func TestP213Short(t *testing.T) {
	for _, n := range []int{3, 10} {
		for size := range 64*n + 1 {
			x := bothOf(t, filled(n), n, 15)
			x.cut(t, size)
			for k := range n + 1 {
				x.want(t, act{do: doRead, block: k})
				x.want(t, act{do: doWrite, block: k, b: []byte("ab")})
				x.want(t, act{do: doWrite, block: k, b: letters(65)})
			}
			x.wantBytes(t)
		}
	}
	for _, n := range []int{512, 513, 1024} {
		for _, size := range []int{0, 63, 64, 65, 127, 128, 129, 191, 192, 193, 64*n - 64, 64*n - 1} {
			x := bothOf(t, filled(n), n, 15)
			x.cut(t, size)
			for _, k := range edgeBlocks(n) {
				x.want(t, act{do: doRead, block: k})
				x.want(t, act{do: doWrite, block: k, b: []byte("ab")})
			}
			x.wantBytes(t)
		}
	}
}

// A file that has the block's bytes and tells no byte of the map, or one byte of the block too few.
func TestP213OddShort(t *testing.T) {
	for _, lost := range []struct{ at, n int }{{64, 0}, {64 * 5, 0}, {64 * 5, 63}} {
		o := oddOf(bytesOf(9, 5))
		d := opened(t, o.handle())
		read := o.read
		o.read = func(at int64, n int) ([]byte, api.Errno) {
			if int(at) == lost.at {
				n = min(n, lost.n)
			}
			return read(at, n)
		}
		o.write = func(int64, []byte) api.Errno {
			t.Error("the file was written")
			return api.OK
		}
		wantNoRead(t, d, 5, api.ErrDisk)
		wantE(t, d.Write(5, nil), api.ErrDisk)
		wantE(t, d.Write(5, letters(64)), api.ErrDisk)
		wantE(t, d.Free(5), api.ErrDisk)
	}
}

// A read that is refused, at each place that matters: of taken and of free blocks, and of none.
func TestP213NoRead(t *testing.T) {
	for _, e := range errnos() {
		for _, n := range []int{10, 513} {
			x := bothOf(t, filled(n), n, 1)
			x.spy.beside = letters(64)
			for _, k := range []int{-1, 1, 2, 3, 4, 5, 6, 8, 9, 10, n - 1, n} {
				for _, bad := range bads(n, k) {
					x.refuse(rules{bad: bad, noRead: e})
					x.want(t, act{do: doRead, block: k})
					x.want(t, act{do: doWrite, block: k, b: []byte("ab")})
					x.want(t, act{do: doWrite, block: k, b: letters(65)})
				}
			}
			x.wantBytes(t)
		}
	}
}

// A write that is refused is told, and was just one.
func TestP213NoWrite(t *testing.T) {
	for _, e := range errnos() {
		for _, n := range []int{10, 513} {
			x := bothOf(t, filled(n), n, 1)
			x.refuse(rules{noWrite: e})
			for k := range n + 1 {
				x.want(t, act{do: doWrite, block: k, b: []byte("ab")})
				x.want(t, act{do: doRead, block: k})
			}
			x.spy.wantBytes(t, filled(n))
		}
	}
}

// Of two errors the one that is named first.
func TestP213Order(t *testing.T) {
	const free, taken = 3, 2
	noRead, noWrite := refusals(api.ErrSum, 0, api.OK), rules{noWrite: api.ErrQuota}
	long, all := letters(65), 64*9
	for i, c := range []struct {
		can         uint8
		block, size int
		b           []byte
		rules       rules
		want        api.Errno
	}{
		{0, 1, all, long, noRead, api.ErrArg},
		{0, 9, all, nil, noRead, api.ErrArg},
		{0, free, 0, long, noRead, api.ErrLong},
		{1, free, 0, long, noRead, api.ErrLong},
		{0, free, 0, nil, noRead, api.ErrCan},
		{14, taken, all, nil, rules{}, api.ErrCan},
		{1, free, all, nil, noRead, api.ErrSum},
		{1, taken, 0, nil, noRead, api.ErrSum},
		{1, taken, all, nil, refusals(api.ErrSum, 0, api.ErrQuota), api.ErrSum},
		{1, free, 64 * free, nil, rules{}, api.ErrDisk},
		{1, taken, 64 * taken, nil, noWrite, api.ErrDisk},
		{1, free, all, nil, noWrite, api.ErrNone},
		{1, taken, all, nil, noWrite, api.ErrQuota},
		{1, taken, all, nil, rules{}, api.OK},
	} {
		x := bothOf(t, filled(9), 9, c.can)
		x.cut(t, c.size)
		x.refuse(c.rules)
		if e := x.disk.Write(c.block, c.b); e != c.want {
			t.Errorf("%d: Write tells %v, want %v", i, e, c.want)
		}
		x.refuse(c.rules)
		switch e := c.want; e {
		case api.ErrArg, api.ErrSum, api.ErrDisk, api.ErrNone:
			wantNoRead(t, x.disk, c.block, e)
		}
	}
}

// What is read is new memory, also where the file tells bytes that it keeps.
func TestReadIsNew(t *testing.T) {
	b := filled(9)
	d := opened(t, oddOf(b).handle())
	one, e := d.Read(2)
	two, _ := d.Read(2)
	if e != api.OK || len(one) != 64 || len(two) != 64 {
		t.Fatal(e)
	}
	clear(one[:cap(one)])
	if !bytes.Equal(b, filled(9)) || !bytes.Equal(two, b[128:192]) {
		t.Error("writing into what was read changed the file, or what was read again")
	}
	wantE(t, d.Write(2, nil), api.OK)
	if !bytes.Equal(two, filled(9)[128:192]) {
		t.Error("what was read ahead of a write shows the write")
	}
}

// What is written is left as it is, with the room behind it, and not kept.
func TestWriteIsLeft(t *testing.T) {
	o := oddOf(filled(9))
	d := opened(t, o.handle())
	var kept []byte
	o.write = func(_ int64, x []byte) api.Errno {
		kept = x
		return api.OK
	}
	for _, n := range []int{0, 1, 63, 64} {
		room := letters(100)
		wantE(t, d.Write(2, room[:n]), api.OK)
		clear(room)
		if !bytes.Equal(kept, padded(letters(n))) {
			t.Errorf("the file kept %x of a write of %d bytes", kept, n)
		}
		room = letters(100)
		wantE(t, d.Write(2, room[:n]), api.OK)
		clear(kept[:cap(kept)])
		if !bytes.Equal(room, letters(100)) {
			t.Errorf("a file that writes into its %d bytes changed the caller's", n)
		}
	}
}

// Nothing of the file is kept: what somebody else writes there is what is told.
func TestP213NothingKept(t *testing.T) {
	b := filled(9)
	d := opened(t, oddOf(b).handle())
	wantBlocks(t, d, b, 9)
	for k := 2; k < 9; k++ {
		b[64] ^= 1 << (k % 8)
		b[64*k+7]++
		wantBlocks(t, d, b, 9)
	}
	b[65] ^= 1
	wantBlocks(t, d, b, 9)
	clear(b[:64]) // the head is asked at Open alone
	wantBlocks(t, d, b, 9)
}

// Blocks whose places would be beyond all numbers.
func TestP213FarBlocks(t *testing.T) {
	s := spyOf(t, filled(9))
	d := opened(t, s.handle(15))
	s.forget()
	for _, k := range []int{math.MinInt, math.MinInt + 2, math.MinInt/64 + 2, 1<<58 + 2, 1<<32 + 2, math.MaxInt} {
		wantNoRead(t, d, k, api.ErrArg)
		wantE(t, d.Write(k, nil), api.ErrArg)
		wantE(t, d.Free(k), api.ErrArg)
	}
	s.wantUnasked(t)
}
