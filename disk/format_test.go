package disk_test

import (
	"bytes"
	"encoding/hex"
	"math"
	"testing"

	"mantle/api"
	"mantle/disk"
	"mantle/face"
)

// wantNoFormat holds that Format refuses, and tells no disk.
func wantNoFormat(t *testing.T, h *face.Handle, n int, want api.Errno) {
	t.Helper()
	if d, e := disk.Format(h, n); d != nil || e != want {
		t.Errorf("Format of %d blocks tells %v, and a disk: %v, want %v", n, e, d != nil, want)
	}
}

// wrongBlocks are numbers of blocks of which there is no disk with a data block.
func wrongBlocks() []int {
	return []int{math.MinInt, -api.MaxBlocks, -3, -1, 0, 1, 2, api.MaxBlocks + 1, api.MaxBlocks + 3, 1 << 16, 1<<16 + 4, 1<<32 + 4, math.MaxInt}
}

// The errors, each of them and in their order; what is refused asks the file nothing.
func TestP211Refused(t *testing.T) {
	for _, n := range append(wrongBlocks(), 3, 4, api.MaxBlocks) {
		wantNoFormat(t, nil, n, api.ErrNil)
	}
	for can := range uint8(16) {
		s := spyOf(t, letters(300))
		for _, n := range wrongBlocks() {
			wantNoFormat(t, s.handle(can), n, api.ErrArg)
		}
		if can&api.CanWrite == 0 {
			for _, n := range []int{3, 4, 512, 513, api.MaxBlocks} {
				wantNoFormat(t, s.handle(can), n, api.ErrCan)
			}
		}
		s.wantUnasked(t)
		s.wantBytes(t, letters(300))
	}
}

// It is one write at 0 of all bytes, and nothing else is asked of the file; every number of blocks that may be.
func TestP211Bytes(t *testing.T) {
	for n := 3; n <= api.MaxBlocks; n++ {
		s := spyOf(t, nil)
		d := formatted(t, s.handle(api.CanWrite), n)
		if s.asked > 0 {
			t.Errorf("%d blocks: the file was asked %d sizes and reads", n, s.asked)
		}
		s.wantCalls(t, wrote(0, bytesOf(n)))
		s.wantBytes(t, bytesOf(n))
		wantLeft(t, d, n-1-mapBlocks(n))
	}
}

// How many data blocks there are at the borders.
func TestP211Left(t *testing.T) {
	for n, left := range map[int]int{3: 1, 4: 2, 511: 509, 512: 510, 513: 510, 514: 511, 515: 512, 1023: 1020, 1024: 1021} {
		wantLeft(t, formatted(t, newFile(t, nil, 15), n), left)
	}
}

// Some heads and maps as the bytes that they are.
func TestP211Hex(t *testing.T) {
	for n, text := range map[int]struct{ head, sum, marks string }{
		3:    {"4d44534b0003", "330706cf", "03"},
		4:    {"4d44534b0004", "6b31651e", "03"},
		512:  {"4d44534b0200", "46c53648", "03"},
		513:  {"4d44534b0201", "8961c183", "07"},
		1024: {"4d44534b0400", "d360498e", "07"},
	} {
		s := spyOf(t, nil)
		formatted(t, s.handle(15), n)
		b := s.bytes(t)
		if len(b) != 64*n {
			t.Fatalf("%d blocks have %d bytes", n, len(b))
		}
		for _, x := range []struct {
			from, to int
			want     string
		}{{0, 6, text.head}, {60, 64, text.sum}, {64, 65, text.marks}} {
			if got := hex.EncodeToString(b[x.from:x.to]); got != x.want {
				t.Errorf("%d blocks: the bytes from %d on are %s, want %s", n, x.from, got, x.want)
			}
		}
		if !bytes.Equal(b[6:60], make([]byte, 54)) || !bytes.Equal(b[65:], make([]byte, 64*n-65)) {
			t.Errorf("%d blocks: there is something beside the head and the map", n)
		}
	}
}

// Whatever was there is written over, and what lies behind the disk stays.
func TestP211Over(t *testing.T) {
	for _, size := range []int{1, 64, 200, 256, 257, 700} {
		for can := range uint8(16) {
			s := spyOf(t, letters(size))
			d := formatted(t, s.handle(can|api.CanWrite), 4)
			s.wantBytes(t, append(bytesOf(4), letters(size)[min(size, 256):]...))
			wantLeft(t, d, 2)
			wantNoRead(t, d, 2, api.ErrNone)
		}
	}
}

// A write that is refused is told, there is no second one, and no disk.
func TestP211NoWrite(t *testing.T) {
	for _, e := range errnos() {
		for _, n := range []int{3, 512, 513, api.MaxBlocks} {
			s := spyOf(t, letters(100))
			s.rules = refusals(e, 0, e)
			wantNoFormat(t, s.handle(15), n, e)
			s.wantCalls(t, wrote(0, bytesOf(n)))
			s.wantBytes(t, letters(100))
		}
	}
}

// A file without room for the whole disk.
func TestP211NoRoom(t *testing.T) {
	s := spyOf(t, nil)
	h := face.Make(s, short{s, 255}, nil, nil, nil)
	wantNoFormat(t, h, 4, api.ErrQuota)
	formatted(t, h, 3)
}

// short is a writer that takes no byte behind a place.
type short struct {
	*spy
	end int
}

func (s short) WriteAt(at int64, b []byte) api.Errno {
	if int(at)+len(b) > s.end {
		return api.ErrQuota
	}
	return s.spy.WriteAt(at, b)
}

// A disk that is formatted anew has all its blocks free, for those who have it already, too.
func TestP211Again(t *testing.T) {
	h := newFile(t, nil, 15)
	old := formatted(t, h, 6)
	wantTake(t, old, 2, api.OK)
	wantE(t, old.Write(2, []byte("abc")), api.OK)
	d := formatted(t, h, 6)
	wantNoRead(t, old, 2, api.ErrNone)
	wantLeft(t, old, 4)
	wantTake(t, d, 2, api.OK)
	wantRead(t, old, 2, make([]byte, 64))
}
