package disk_test

import (
	"bytes"
	"slices"
	"testing"

	"mantle/api"
	"mantle/disk"
)

// both is a disk over a spy, and the same on paper.
type both struct {
	spy  *spy
	disk *disk.Disk
	page page
}

// bothOf opens a disk of n blocks, which these bytes are, by a handle that can so much.
func bothOf(t *testing.T, b []byte, n int, can uint8) *both {
	t.Helper()
	s := spyOf(t, b)
	d := opened(t, s.handle(can))
	s.wantCalls(t)
	return &both{s, d, page{&sheet{data: bytes.Clone(b), can: can}, n}}
}

// refuse lays down what the file refuses from now on.
func (x *both) refuse(r rules) { x.spy.rules, x.page.rules = r, r }

// cut makes the file shorter beside the disk.
func (x *both) cut(t *testing.T, size int) {
	t.Helper()
	if e := x.spy.below.Cut(int64(size)); e != api.OK {
		t.Fatal(e)
	}
	x.page.data = x.page.data[:size]
}

// want does it to both, and holds what is told, which it tells, and by what calls the file was to be changed.
func (x *both) want(t *testing.T, a act) told {
	t.Helper()
	got := wantTold(t, a, x.disk, x.page)
	if !slices.Equal(x.spy.calls, x.page.calls) {
		t.Fatalf("%s on a disk of %d blocks asks the file %.900q, want %.900q", a.text(), x.page.n, x.spy.calls, x.page.calls)
	}
	x.spy.calls, x.page.calls = nil, nil
	return got
}

// wantBytes holds that the file has the same bytes as the one on paper.
func (x *both) wantBytes(t *testing.T) {
	t.Helper()
	x.spy.wantBytes(t, x.page.data)
}

// lengths are texts of as many bytes as matter to a block.
func lengths() (l [][]byte) {
	for _, n := range []int{0, 1, 2, 63, 64, 65, 66, 128, api.MaxText, api.MaxText + 1} {
		l = append(l, letters(n))
	}
	return append(l, nil, make([]byte, 5, 100), make([]byte, 64))
}

// borders are numbers of blocks around which the map, or a byte of it, is another one.
func borders() []int { return []int{2, 3, 4, 8, 9, 10, 511, 512, 513, 514, 515, 1023, 1024} }

// bads are the stretches of a disk of n blocks which a file may refuse to read, for what is asked of a block.
func bads(n, block int) []api.Stretch {
	at, marks := int64(64*block), int64(64+block/8)
	return []api.Stretch{
		{From: 0, To: api.MaxSize},
		{From: 0, To: 64},
		{From: at, To: at + 1},
		{From: at + 63, To: at + 64},
		{From: at - 1, To: at},
		{From: at + 64, To: at + 65},
		{From: marks, To: marks + 1},
		{From: marks - 1, To: marks},
		{From: marks + 1, To: marks + 2},
		{From: 64, To: 65},
		{From: int64(64*mapBlocks(n)) + 63, To: int64(64*mapBlocks(n)) + 64},
	}
}
