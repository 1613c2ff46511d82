package disk_test

import (
	"fmt"
	"hash/fnv"
	"math"
	"testing"

	"mantle/api"
	"mantle/disk"
)

// rules say what a file refuses.
type rules struct {
	bad     api.Stretch // reads that meet it are refused
	noRead  api.Errno   // by this error, if it is one;
	skip    int         // so many writes are taken,
	noWrite api.Errno   // and those behind them are refused by this error, if it is one;
	noSync  api.Errno   // the answer to Sync, if it is an error
}

// read is the error of a read.
func (r rules) read(at int64, n int) api.Errno {
	if at < r.bad.To && r.bad.From < at+int64(n) {
		return r.noRead
	}
	return api.OK
}

// write is the error of a write behind so many others.
func (r rules) write(others int) api.Errno {
	if others < r.skip {
		return api.OK
	}
	return r.noWrite
}

// wrote is a write as a text.
func wrote(at int, b []byte) string { return fmt.Sprintf("write %d %x", at, b) }

const synced = "sync"

// sheet is a file on paper, and by what calls it was to be changed.
type sheet struct {
	data  []byte
	can   uint8
	rules rules
	calls []string
}

func (s *sheet) write(at int, b []byte) api.Errno {
	others := len(s.calls)
	s.calls = append(s.calls, wrote(at, b))
	if e := s.rules.write(others); e != api.OK {
		return e
	}
	for i, x := range b {
		for len(s.data) <= at+i {
			s.data = append(s.data, 0)
		}
		s.data[at+i] = x
	}
	return api.OK
}

// mapBlocks is M, n / 512, rounded up.
func mapBlocks(n int) (m int) {
	for 512*m < n {
		m++
	}
	return m
}

// headOf is the head of a disk of n blocks, its sum by the library's own reckoning.
func headOf(n int) []byte {
	b := []byte{0x4d, 0x44, 0x53, 0x4b, byte(n / 256), byte(n % 256)}
	b = append(b, make([]byte, 54)...)
	return summed(b)
}

// summed is 60 bytes, and their sum.
func summed(b []byte) []byte {
	h := fnv.New32a()
	h.Write(b[:60])
	return h.Sum(b[:60:60])
}

// bytesOf is a disk of n blocks of which these data blocks are taken; the others hold noughts, too.
func bytesOf(n int, taken ...int) []byte {
	b := append(headOf(n), make([]byte, 64*(n-1))...)
	for k := range 1 + mapBlocks(n) {
		b[64+k/8] |= 1 << (k % 8)
	}
	for _, k := range taken {
		b[64+k/8] |= 1 << (k % 8)
	}
	return b
}

// isTaken tells of the bytes of a disk whether block k is taken.
func isTaken(b []byte, k int) bool { return b[64+k/8]>>(k%8)%2 == 1 }

// isDisk tells whether these bytes are one, and of how many blocks.
func isDisk(b []byte) (n int, is bool) {
	if len(b) < 64 {
		return 0, false
	}
	n = 256*int(b[4]) + int(b[5])
	if n < 2 || n > 1024 || string(b[:64]) != string(headOf(n)) || len(b) < 64*n {
		return 0, false
	}
	m := mapBlocks(n)
	for k := range 512 * m {
		if k <= m && !isTaken(b, k) || k >= n && isTaken(b, k) {
			return 0, false
		}
	}
	return n, true
}

// page is a disk on paper: P21.3 to P21.5, word for word.
type page struct {
	*sheet
	n int
}

func (p page) isData(block int) bool { return block >= mapBlocks(p.n)+1 && block <= p.n-1 }

// look is what Read, Write and Free ask of a block.
func (p page) look(block int) api.Errno {
	for _, e := range []api.Errno{p.rules.read(int64(64*block), 64), p.rules.read(int64(64+block/8), 1)} {
		if e != api.OK {
			return e
		}
	}
	if len(p.data) < 64*block+64 || len(p.data) < 64+block/8+1 {
		return api.ErrDisk
	}
	if !isTaken(p.data, block) {
		return api.ErrNone
	}
	return api.OK
}

// free are the free data blocks.
func (p page) free() (l []int, e api.Errno) {
	m := 64 * mapBlocks(p.n)
	if e := p.rules.read(64, m); e != api.OK {
		return nil, e
	}
	if len(p.data) < 64+m {
		return nil, api.ErrDisk
	}
	for k := range p.n {
		if p.isData(k) && !isTaken(p.data, k) {
			l = append(l, k)
		}
	}
	return l, api.OK
}

func (p page) read(block int) told {
	if !p.isData(block) {
		return told{e: api.ErrArg}
	}
	if e := p.look(block); e != api.OK {
		return told{e: e}
	}
	return told{b: string(p.data[64*block : 64*block+64])}
}

func (p page) write(block int, b []byte) api.Errno {
	if !p.isData(block) {
		return api.ErrArg
	}
	if len(b) > 64 {
		return api.ErrLong
	}
	if p.can&api.CanWrite == 0 {
		return api.ErrCan
	}
	if e := p.look(block); e != api.OK {
		return e
	}
	return p.sheet.write(64*block, append(append([]byte{}, b...), make([]byte, 64-len(b))...))
}

func (p page) take() told {
	if p.can&api.CanWrite == 0 {
		return told{e: api.ErrCan}
	}
	free, e := p.free()
	if e != api.OK {
		return told{e: e}
	}
	if len(free) == 0 {
		return told{e: api.ErrSpace}
	}
	k := free[0]
	marks := p.data[64+k/8] + 1<<(k%8)
	if e := p.sheet.write(64*k, make([]byte, 64)); e != api.OK {
		return told{e: e}
	}
	if e := p.sheet.write(64+k/8, []byte{marks}); e != api.OK {
		return told{e: e}
	}
	return told{n: k}
}

func (p page) freeBlock(block int) api.Errno {
	if !p.isData(block) {
		return api.ErrArg
	}
	if p.can&api.CanWrite == 0 {
		return api.ErrCan
	}
	if e := p.look(block); e != api.OK {
		return e
	}
	return p.sheet.write(64+block/8, []byte{p.data[64+block/8] - 1<<(block%8)})
}

func (p page) sync() api.Errno {
	if p.can&api.CanSync == 0 {
		return api.ErrCan
	}
	p.calls = append(p.calls, synced)
	return p.rules.noSync
}

// act is a call of a disk.
type act struct {
	do    int
	block int
	b     []byte
}

const (
	doRead = iota
	doWrite
	doTake
	doFree
	doLeft
	doSync
)

// told is what a call answers.
type told struct {
	n int
	b string
	e api.Errno
}

// on does it.
func (a act) on(d *disk.Disk) (x told) {
	switch a.do {
	case doRead:
		b, e := d.Read(a.block)
		return told{b: string(b), e: e}
	case doWrite:
		return told{e: d.Write(a.block, a.b)}
	case doTake:
		x.n, x.e = d.Take()
		return x
	case doFree:
		return told{e: d.Free(a.block)}
	case doLeft:
		return told{n: d.Left()}
	}
	return told{e: d.Sync()}
}

// onPaper does it on paper.
func (a act) onPaper(p page) told {
	switch a.do {
	case doRead:
		return p.read(a.block)
	case doWrite:
		return told{e: p.write(a.block, a.b)}
	case doTake:
		return p.take()
	case doFree:
		return told{e: p.freeBlock(a.block)}
	case doLeft:
		free, _ := p.free()
		return told{n: len(free)}
	}
	return told{e: p.sync()}
}

// text is an act as a failed test tells it.
func (a act) text() string {
	return fmt.Sprint([]string{"Read", "Write", "Take", "Free", "Left", "Sync"}[a.do], " of block ", a.block, " and ", len(a.b), " bytes")
}

// wantTold does it to the disk and on paper, and holds that both tell the same, which it tells.
func wantTold(t *testing.T, a act, d *disk.Disk, p page) told {
	t.Helper()
	got, want := a.on(d), a.onPaper(p)
	if got != want {
		t.Fatalf("%s on a disk of %d blocks, on a file of %d bytes that can %d, and with %+v: %d %x %v, want %d %x %v", a.text(), p.n, len(p.data), p.can, p.rules, got.n, got.b, got.e, want.n, want.b, want.e)
	}
	return want
}

// edgeBlocks are the numbers of blocks that matter on a disk of n blocks, and wrong ones.
func edgeBlocks(n int) []int {
	m := mapBlocks(n)
	return []int{math.MinInt, -api.MaxBlocks, -64, -1, 0, 1, m, m + 1, m + 2, 7, 8, 9, 511, 512, 513, n - 2, n - 1, n, n + 1, n + 8, api.MaxBlocks, math.MaxInt / 64, math.MaxInt/64 + 1, math.MaxInt}
}

// letters are n bytes, no two blocks of which are the same.
func letters(n int) []byte {
	b := make([]byte, n)
	for i := range b {
		b[i] = byte('!' + i%89)
	}
	return b
}

// errnos are errors of all kinds that a file may answer, those of the disk too.
func errnos() []api.Errno {
	return []api.Errno{api.ErrNil, api.ErrArg, api.ErrLong, api.ErrCan, api.ErrGone, api.ErrSum, api.ErrNone, api.ErrDisk, api.ErrSpace, -1}
}

// chance tells numbers that are the same at each run.
type chance uint64

func (c *chance) below(n int) int {
	*c = *c*6364136223846793005 + 1442695040888963407
	return int(uint64(*c) >> 33 % uint64(n))
}

// text is so many bytes, other ones each time.
func (c *chance) text(n int) []byte {
	b := make([]byte, n)
	for i := range b {
		b[i] = byte(c.below(256))
	}
	return b
}

// many is a number of blocks, often right at a border.
func (c *chance) many() int {
	if c.below(2) == 0 {
		return 3 + c.below(12)
	}
	return []int{3, 4, 511, 512, 513, 514, 515, 1023, 1024}[c.below(9)]
}

// act is a call of a disk of n blocks, now and then a wrong one.
func (c *chance) act(n int) act {
	a := act{do: c.below(6), block: c.below(n+3) - 1}
	switch c.below(6) {
	case 0:
		a.b = c.text(c.below(67))
	case 1:
		a.b = c.text(64)
	case 2:
		a.block = mapBlocks(n) + 1 + c.below(4)
		a.b = c.text(c.below(65))
	}
	return a
}
