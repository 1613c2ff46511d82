package disk_test

import (
	"bytes"
	"math"
	"testing"

	"mantle/api"
	"mantle/disk"
	"mantle/face"
)

// wantOpen holds what Open tells of these bytes against what the chapter says that a disk is.
func wantOpen(t *testing.T, b []byte) {
	t.Helper()
	s := spyOf(t, b)
	n, is := isDisk(b)
	if !is {
		wantNoDisk(t, s.handle(15), api.ErrDisk)
	} else {
		d := opened(t, s.handle(15))
		wantBlocks(t, d, b, n)
	}
	s.wantCalls(t)
	s.wantBytes(t, b)
}

// wantBlocks holds that a disk has n blocks, and is as these bytes say.
func wantBlocks(t *testing.T, d *disk.Disk, b []byte, n int) {
	t.Helper()
	left := 0
	for k := range n + 2 {
		switch {
		case k <= mapBlocks(n) || k >= n:
			wantNoRead(t, d, k, api.ErrArg)
		case isTaken(b, k):
			wantRead(t, d, k, b[64*k:64*k+64])
		default:
			left++
			wantNoRead(t, d, k, api.ErrNone)
		}
	}
	wantLeft(t, d, left)
}

// filled is a disk whose data blocks hold letters, every third of them taken.
func filled(n int) []byte {
	var taken []int
	for k := mapBlocks(n) + 1; k < n; k += 3 {
		taken = append(taken, k)
	}
	b := bytesOf(n, taken...)
	first := 64 * (mapBlocks(n) + 1)
	copy(b[first:], letters(len(b)-first))
	return b
}

// A disk of each number of blocks, by handles that can all or less; a file that is longer is one, too.
func TestP212(t *testing.T) {
	for _, n := range []int{2, 3, 4, 7, 8, 9, 10, 16, 17, 64, 511, 512, 513, 514, 515, 519, 520, 521, 1023, 1024} {
		b := filled(n)
		if _, is := isDisk(b); !is {
			t.Fatal(n)
		}
		wantOpen(t, b)
		wantOpen(t, append(bytes.Clone(b), 0))
		wantOpen(t, append(bytes.Clone(b), letters(1000)...))
		for can := range uint8(16) {
			wantBlocks(t, opened(t, newFile(t, b, can)), b, n)
		}
	}
}

func TestP212Nil(t *testing.T) {
	wantNoDisk(t, nil, api.ErrNil)
	wantNoDisk(t, face.Make(nil, nil, nil, nil, nil), api.ErrNil)
}

// A read's error is told, whatever is told beside it: the head's, and the map's.
func TestP212NoRead(t *testing.T) {
	for _, e := range errnos() {
		for _, n := range []int{3, 513} {
			for _, bad := range []api.Stretch{{From: 0, To: api.MaxSize}, {From: 0, To: 1}, {From: 63, To: 64}, {From: 64, To: 65}, {From: int64(64*mapBlocks(n) + 63), To: int64(64*mapBlocks(n) + 64)}} {
				s := spyOf(t, bytesOf(n))
				s.beside = bytesOf(n)
				s.rules = rules{bad: bad, noRead: e}
				wantNoDisk(t, s.handle(15), e)
				s.wantCalls(t)
			}
		}
	}
}

// It comes ahead of ErrDisk, if both are to be told; a map that no head speaks of is not read.
func TestP212NoReadFirst(t *testing.T) {
	none := refusals(api.ErrSum, 0, api.OK)
	for _, b := range [][]byte{nil, letters(64), letters(500), bytesOf(9)[:63], bytesOf(9)[:100]} {
		s := spyOf(t, b)
		s.rules = none
		wantNoDisk(t, s.handle(15), api.ErrSum)
	}
	noMap := rules{bad: api.Stretch{From: 64, To: 128}, noRead: api.ErrSum}
	for _, size := range []int{64, 65, 127, 128, 575} {
		s := spyOf(t, bytesOf(9)[:size])
		s.rules = noMap
		wantNoDisk(t, s.handle(15), api.ErrSum)
	}
	s := spyOf(t, letters(1000))
	s.rules = noMap
	wantNoDisk(t, s.handle(15), api.ErrDisk)
}

// Data blocks that can't be read make it no other disk.
func TestP212DataUnread(t *testing.T) {
	s := spyOf(t, bytesOf(9, 2, 5))
	s.rules = rules{bad: api.Stretch{From: 128, To: 64 * 9}, noRead: api.ErrSum}
	d := opened(t, s.handle(15))
	wantLeft(t, d, 5)
	wantNoRead(t, d, 2, api.ErrSum)
}

// Files that are too short, at each place of small disks and at those that matter of great ones.
func TestP212Short(t *testing.T) {
	for _, n := range []int{2, 3, 9} {
		b := filled(n)
		for size := range b {
			wantNoDisk(t, newFile(t, b[:size], 15), api.ErrDisk)
		}
	}
	for _, n := range []int{512, 513, 1024} {
		b := filled(n)
		for _, size := range []int{0, 1, 5, 6, 59, 60, 63, 64, 65, 127, 128, 129, 191, 192, 193, 64*n - 65, 64*n - 64, 64*n - 63, 64*n - 1} {
			wantNoDisk(t, newFile(t, b[:size], 15), api.ErrDisk)
		}
		opened(t, newFile(t, b, 15))
	}
}

// Each byte of the head turned into each other one (P21.7).
func TestP217Head(t *testing.T) {
	for _, n := range []int{2, 3, 4, 9, 255, 256, 257, 512, 513, 1024} {
		b := append(bytesOf(n), make([]byte, 64*1024)...)
		o := oddOf(b)
		opened(t, o.handle())
		for at := range 64 {
			for range 255 {
				b[at]++
				wantNoDisk(t, o.handle(), api.ErrDisk)
			}
			b[at]++
		}
		opened(t, o.handle())
	}
}

// Heads whose sum is right, and which are none all the same.
func TestP212Head(t *testing.T) {
	for at := range 60 {
		for x := range 256 {
			b := bytesOf(4)
			b[at] = byte(x)
			copy(b, summed(b[:60]))
			wantOpen(t, append(b, make([]byte, 64*300)...))
		}
	}
	for _, n := range []int{0, 1, 2, 3, 1023, 1024, 1025, 1026, 2048, 1<<15 + 4, 1<<16 - 1} {
		b := append(headOf(n), make([]byte, 1<<17)...)
		for k := range min(1+mapBlocks(n), 3) {
			b[64] |= 1 << k
		}
		wantOpen(t, b)
		if _, is := isDisk(b); is != (n >= 2 && n <= 1024) {
			t.Error(n)
		}
	}
}

// A head that is right for another number of blocks: it is that disk, if the rest is so.
func TestP212OtherHead(t *testing.T) {
	for _, n := range []int{3, 9, 512, 513, 520, 1024} {
		for _, other := range []int{2, 3, 4, 8, 9, 10, 511, 512, 513, 514, 519, 520, 521, 1023, 1024} {
			for _, b := range [][]byte{bytesOf(n), bytesOf(n, n-1), filled(n)} {
				copy(b, headOf(other))
				wantOpen(t, b)
				wantOpen(t, append(b, make([]byte, 64*1024)...))
			}
		}
	}
	b := bytesOf(9)
	copy(b, headOf(8))
	wantLeft(t, opened(t, newFile(t, b, 15)), 6)
	wantNoDisk(t, newFile(t, append(headOf(10), b[64:]...), 15), api.ErrDisk)
	b[65] = 1 // block 8, which the head does not count
	wantNoDisk(t, newFile(t, b, 15), api.ErrDisk)
}

// Each bit of the map turned: the head, the map and what lies from n on make it no disk, a data block does not.
func TestP212Map(t *testing.T) {
	for _, n := range []int{2, 3, 4, 8, 9, 504, 511, 512, 513, 514, 519, 520, 1023, 1024} {
		m := mapBlocks(n)
		for k := range 512 * m {
			b := filled(n)
			b[64+k/8] ^= 1 << (k % 8)
			if _, is := isDisk(b); is != (k > m && k < n) {
				t.Fatalf("%d %d", n, k)
			}
			if d, e := disk.Open(newFile(t, b, 15)); (e == api.OK) != (k > m && k < n) || (d != nil) != (e == api.OK) || e != api.OK && e != api.ErrDisk {
				t.Errorf("Open of %d blocks of which bit %d was turned: %v", n, k, e)
			}
		}
	}
}

// A map of all bits, and one of none.
func TestP212WholeMap(t *testing.T) {
	for _, n := range []int{3, 9, 512, 513, 1024} {
		for _, x := range []byte{0, 255} {
			b := bytesOf(n)
			for i := range 64 * mapBlocks(n) {
				b[64+i] = x
			}
			wantOpen(t, b)
		}
	}
}

// Any bytes: it ends, and tells a disk just where there is one.
func TestP212Any(t *testing.T) {
	c := chance(212)
	for range 2000 {
		b := c.text(c.below(700))
		wantOpen(t, b)
		n := 2 + c.below(9)
		b = append(filled(n), b...)
		for range c.below(3) {
			b[c.below(len(b))] = byte(c.below(256))
		}
		wantOpen(t, b)
		wantOpen(t, b[:c.below(len(b)+1)])
	}
}

// A file is as long as its Size tells: one that tells more bytes than that is too short, one that tells fewer shows it when they are read.
func TestP212Size(t *testing.T) {
	for _, size := range []int64{math.MinInt64, -1, 0, 64, 575} {
		o := oddOf(bytesOf(9))
		o.size = func() int64 { return size }
		wantNoDisk(t, o.handle(), api.ErrDisk)
	}
	for _, size := range []int64{576, 577, api.MaxSize, math.MaxInt64} {
		o := oddOf(bytesOf(9, 5)[:300])
		o.size = func() int64 { return size }
		d := opened(t, o.handle())
		wantLeft(t, d, 6)
		wantNoRead(t, d, 5, api.ErrDisk)
	}
}

// A file that tells more bytes than were asked: no more than those count.
func TestOddMore(t *testing.T) {
	b := bytesOf(9, 5)
	copy(b[64*5:], letters(64))
	o := oddOf(b)
	read := o.read
	o.read = func(at int64, n int) ([]byte, api.Errno) { return read(at, n+7) }
	d := opened(t, o.handle())
	wantBlocks(t, d, b, 9)
	wantTake(t, d, 2, api.OK)
	wantE(t, d.Free(5), api.OK)
	wantLeft(t, d, 6)
}
