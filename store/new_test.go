package store_test

import (
	"bytes"
	"math"
	"testing"

	"mantle/api"
	"mantle/disk"
	"mantle/face"
	"mantle/store"
)

// wantNoNew holds that New refuses, and tells no store.
func wantNoNew(t *testing.T, h *face.Handle, blocks int, want api.Errno) {
	t.Helper()
	if s, e := store.New(h, blocks); s != nil || e != want {
		t.Errorf("New of %d blocks tells %v, and a store: %v, want %v", blocks, e, s != nil, want)
	}
}

// wantNoOpen holds that Open refuses, and tells no store.
func wantNoOpen(t *testing.T, h *face.Handle, want api.Errno) {
	t.Helper()
	if s, e := store.Open(h); s != nil || e != want {
		t.Errorf("Open tells %v, and a store: %v, want %v", e, s != nil, want)
	}
}

// wrongBlocks are numbers of blocks of which there is no disk at all.
func wrongBlocks() []int {
	return []int{math.MinInt, -24, -2, -1, 0, 1, api.MaxBlocks + 1, api.MaxBlocks + 24, 1 << 16, 1<<16 + 24, 1<<32 + 24, math.MaxInt}
}

// The errors, each of them and in their order; what is refused asks the file nothing, and changes nothing.
func TestP221Refused(t *testing.T) {
	for _, n := range append(wrongBlocks(), 2, 23, 24, 64, api.MaxBlocks) {
		wantNoNew(t, nil, n, api.ErrNil)
	}
	for can := range uint8(16) {
		s := spyOf(t, letters(300))
		for _, n := range wrongBlocks() {
			wantNoNew(t, s.handle(can), n, api.ErrArg)
		}
		for n := 2; n <= 23; n++ {
			wantNoNew(t, s.handle(can), n, api.ErrSpace)
		}
		for _, n := range []int{24, 64, 512, 513, api.MaxBlocks} {
			if can&api.CanWrite == 0 {
				wantNoNew(t, s.handle(can), n, api.ErrCan)
			}
		}
		if s.asked+s.writes+s.syncs > 0 || !bytes.Equal(s.bytes(t), letters(300)) {
			t.Error("what was refused asked the file or changed it")
		}
	}
}

// A file that refuses a write, at each place: the error, and no store.
func TestP221NoWrite(t *testing.T) {
	for _, e := range errnos() {
		s := spyOf(t, letters(300))
		s.noWrite = e
		wantNoNew(t, s.handle(15), 24, e)
		if s.writes != 1 || !bytes.Equal(s.bytes(t), letters(300)) {
			t.Error("behind a refused write the file was asked more or changed")
		}
	}
	_, whole := made(t, 24)
	for skip := range whole.writes {
		s := spyOf(t, nil)
		s.noWrite, s.skip = api.ErrQuota, skip
		wantNoNew(t, s.handle(15), 24, api.ErrQuota)
	}
}

// Every number of blocks of which there is a store: it is empty, on a disk of so many blocks, and can be used; by files that can less, too.
func TestP221New(t *testing.T) {
	for n := 24; n <= api.MaxBlocks; n++ {
		can := []uint8{api.CanWrite, 15}[n%2]
		f := spyOf(t, nil)
		s, e := store.New(f.handle(can), n)
		if e != api.OK {
			t.Fatalf("New of %d blocks: %v", n, e)
		}
		wantTree(t, s, newPaper())
		if f.all.File().Size() != int64(64*n) || f.syncs > 0 {
			t.Errorf("the file has %d bytes and %d syncs behind New of %d blocks", f.all.File().Size(), f.syncs, n)
		}
		if _, e := disk.Open(f.all); e != api.OK {
			t.Errorf("New of %d blocks leaves no disk: %v", n, e)
		}
		wantTree(t, opened(t, f.bytes(t)), newPaper())
		if n >= 32 {
			wantE(t, s.Make("a", api.NodeFile, ""), api.OK)
		}
	}
}

// What was on the file is no more in the store, be it bytes of any kind or an older store; what stands behind its blocks stays.
func TestP221Again(t *testing.T) {
	x := mixed(t, 512)
	x.wantStays(t)
	older := append(x.spy.bytes(t), letters(999)...)
	for _, b := range [][]byte{letters(10), letters(64 * 64), letters(64*64 + 99), older} {
		for _, n := range []int{24, 64, 512} {
			f := spyOf(t, b)
			s, e := store.New(f.handle(15), n)
			wantE(t, e, api.OK)
			wantTree(t, s, newPaper())
			wantTree(t, opened(t, f.bytes(t)), newPaper())
			if len(b) > 64*n && !bytes.Equal(f.bytes(t)[64*n:], b[64*n:]) {
				t.Errorf("New of %d blocks changed what stands behind them", n)
			}
		}
	}
}

// Files on which there is no disk, and disks on which there is no store.
func TestP221OpenNone(t *testing.T) {
	wantNoOpen(t, nil, api.ErrNil)
	for _, b := range [][]byte{nil, letters(1), letters(64), letters(64 * 64), make([]byte, 64*64), make([]byte, 1<<16)} {
		wantNoOpen(t, newFile(t, b), api.ErrDisk)
	}
	for _, n := range []int{3, 4, 5, 6, 22, 23, 24, 25, 64, 513, api.MaxBlocks} {
		for _, b := range [][]byte{nil, letters(1), letters(64), make([]byte, 64)} {
			f := newFile(t, nil)
			d, e := disk.Format(f, n)
			wantE(t, e, api.OK)
			wantNoOpen(t, f, api.ErrDisk)
			for d.Left() > 0 {
				k, e := d.Take()
				wantE(t, e, api.OK)
				wantE(t, d.Write(k, b), api.OK)
			}
			wantNoOpen(t, f, api.ErrDisk)
		}
	}
}

// A disk of two blocks, the head and the map, has none for data.
func TestP221OpenTwo(t *testing.T) {
	b := make([]byte, 128)
	copy(b, "MDSK\x00\x02")
	s := uint32(2166136261)
	for _, x := range b[:60] {
		s = (s ^ uint32(x)) * 16777619
	}
	copy(b[60:], []byte{byte(s >> 24), byte(s >> 16), byte(s >> 8), byte(s), 3})
	if _, e := disk.Open(newFile(t, b)); e != api.OK {
		t.Fatalf("disk.Open: %v", e)
	}
	wantNoOpen(t, newFile(t, b), api.ErrDisk)
}

// disk.Open's error and that of a read behind it, whatever they are.
func TestP221OpenNoRead(t *testing.T) {
	x := mixed(t, 64)
	x.wantStays(t)
	b := x.spy.bytes(t)
	for _, e := range errnos() {
		f := spyOf(t, b)
		f.noRead = e
		wantNoOpen(t, f.handle(15), e)
	}
	for bad := range int64(len(b)) {
		f := spyOf(t, b)
		f.noRead, f.bad = api.ErrSum, bad
		if s, e := store.Open(f.handle(15)); e == api.OK {
			f.calm()
			wantTree(t, s, x.paper)
		} else if s != nil || e != api.ErrSum {
			t.Errorf("reads from %d on refused: Open tells %v", bad, e)
		}
	}
}

// A store's bytes, by files that can less: the store is there, and asks nothing of the file that it can't.
func TestP221Open(t *testing.T) {
	x := mixed(t, 64)
	x.wantStays(t)
	for can := range uint8(16) {
		f := spyOf(t, x.spy.bytes(t))
		s, e := store.Open(f.handle(can))
		wantE(t, e, api.OK)
		wantTree(t, s, x.paper)
		wantRead(t, s, "d/e/f", []byte("deep"))
		wantE(t, s.Sync(), api.OK)
		if f.writes > 0 || f.syncs != int(can/api.CanSync) {
			t.Errorf("a file that can %d was asked %d writes and %d syncs", can, f.writes, f.syncs)
		}
	}
}
