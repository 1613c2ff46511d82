package store_test

import (
	"bytes"
	"strings"
	"testing"

	"mantle/api"
	"mantle/face"
	"mantle/memory"
	"mantle/span"
	"mantle/store"
)

// spy is a file that counts by what calls it was to be changed, and refuses what it is told to.
type spy struct {
	all     *face.Handle
	writes  int
	syncs   int
	kept    []byte    // all bytes at the last Sync that was not refused
	since   []wrote   // what was written since then
	asked   int       // sizes and reads
	noRead  api.Errno // the answer to each read, if it is an error
	bad     int64     // from where on reads are refused so
	skip    int       // so many more writes are taken
	noWrite api.Errno // the answer to each write behind these, if it is an error
	noSync  api.Errno // the answer to each Sync, if it is an error
}

// wrote is a write that was taken.
type wrote struct {
	at int64
	b  []byte
}

// spyOf is a spy over these bytes.
func spyOf(t *testing.T, b []byte) *spy {
	t.Helper()
	h, e := memory.Of(span.New(b), 15)
	if e != api.OK {
		t.Fatal(e)
	}
	return &spy{all: h}
}

// handle is the spy as a file that can so much.
func (s *spy) handle(can uint8) *face.Handle { return face.Make(s, s, s, s, s).Only(can) }

func (s *spy) Size() int64 {
	s.asked++
	return s.all.File().Size()
}

func (s *spy) ReadAt(at int64, n int) ([]byte, api.Errno) {
	s.asked++
	if s.noRead != api.OK && at+int64(n) > s.bad {
		return nil, s.noRead
	}
	return s.all.File().ReadAt(at, n)
}

func (s *spy) WriteAt(at int64, b []byte) api.Errno {
	s.writes++
	if s.skip == 0 && s.noWrite != api.OK {
		return s.noWrite
	}
	s.skip = max(s.skip-1, 0)
	s.since = append(s.since, wrote{at, bytes.Clone(b)})
	return s.all.Do(api.Op{Do: api.DoWrite, At: at, B: b}).E
}

func (s *spy) Cut(size int64) api.Errno { panic("a store cuts no file") }

func (s *spy) Next(at int64) (from, to int64) { panic("a store asks for no holes") }

func (s *spy) Sync() api.Errno {
	s.syncs++
	if s.noSync != api.OK {
		return s.noSync
	}
	s.kept, _ = memory.All(s.all)
	s.since = nil
	return api.OK
}

// calm refuses nothing any more.
func (s *spy) calm() { s.noRead, s.bad, s.skip, s.noWrite, s.noSync = 0, 0, 0, 0, 0 }

// bytes are all bytes of the file.
func (s *spy) bytes(t *testing.T) []byte {
	t.Helper()
	b, e := memory.All(s.all)
	if e != api.OK {
		t.Fatal(e)
	}
	return b
}

// newFile is a file of memory that can all.
func newFile(t *testing.T, b []byte) *face.Handle {
	t.Helper()
	h, e := memory.New(b, 15)
	if e != api.OK {
		t.Fatal(e)
	}
	return h
}

// made is a new store of so many blocks, over a spy.
func made(t *testing.T, blocks int) (*store.Store, *spy) {
	t.Helper()
	f := spyOf(t, nil)
	s, e := store.New(f.handle(15), blocks)
	if e != api.OK || s == nil {
		t.Fatalf("New of %d blocks: %v", blocks, e)
	}
	return s, f
}

// opened is the store that these bytes are.
func opened(t *testing.T, b []byte) *store.Store {
	t.Helper()
	s, e := store.Open(newFile(t, b))
	if e != api.OK || s == nil {
		t.Fatalf("Open: %v", e)
	}
	return s
}

// wantE holds an error.
func wantE(t *testing.T, got, want api.Errno) {
	t.Helper()
	if got != want {
		t.Errorf("%v, want %v", got, want)
	}
}

// wantRead holds all bytes of a file.
func wantRead(t *testing.T, s *store.Store, p string, want []byte) {
	t.Helper()
	if b, e := s.Read(p, 0, api.MaxText); e != api.OK || !bytes.Equal(b, want) {
		t.Errorf("Read of %.90q: %.90q, %v, want %.90q", p, b, e, want)
	}
}

// wantNoRead holds that nothing is read.
func wantNoRead(t *testing.T, s *store.Store, p string, at int64, n int, want api.Errno) {
	t.Helper()
	if b, e := s.Read(p, at, n); e != want || len(b) > 0 {
		t.Errorf("Read of %.90q at %d, %d: %.90q, %v, want %v", p, at, n, b, e, want)
	}
}

// itemsOf is the tree of a store as a text.
func itemsOf(t *testing.T, s *store.Store) string {
	t.Helper()
	l, e := s.Items()
	if e != api.OK {
		t.Fatalf("Items: %v", e)
	}
	return listText(l)
}

// wantPaths holds the paths of a store's tree.
func wantPaths(t *testing.T, s *store.Store, want ...string) {
	t.Helper()
	l, e := s.Items()
	var got []string
	for _, x := range l {
		got = append(got, x.Path)
	}
	if e != api.OK || strings.Join(got, "\n") != strings.Join(want, "\n") {
		t.Errorf("Items tells %.900q, %v, want %.900q", got, e, want)
	}
}

// wantWhole holds that a store complains of nothing.
func wantWhole(t *testing.T, s *store.Store) {
	t.Helper()
	if l := s.Check(); len(l) > 0 {
		t.Fatalf("Check complains: %.900q", l)
	}
}

// letters are n bytes, none of them a nought, and other ones in each block.
func letters(n int) []byte {
	b := make([]byte, n)
	for i := range b {
		b[i] = byte('!' + i%89)
	}
	return b
}

// errnos are errors of all kinds that a file may answer, those of the store too.
func errnos() []api.Errno {
	return []api.Errno{api.ErrNil, api.ErrArg, api.ErrLong, api.ErrCan, api.ErrGone, api.ErrSum, api.ErrQuota, api.ErrNone, api.ErrThere, api.ErrDisk, api.ErrSpace, -1}
}

// names are n names side by side, each of size bytes.
func names(n, size int) string {
	return strings.Repeat(strings.Repeat("n", size)+"/", n-1) + strings.Repeat("n", size)
}

// chance tells numbers that are the same at each run.
type chance uint64

func (c *chance) below(n int) int {
	*c = *c*6364136223846793005 + 1442695040888963407
	return int(uint64(*c) >> 33 % uint64(n))
}

// text is so many bytes, other ones each time.
func (c *chance) text(n int) []byte {
	b := make([]byte, n)
	for i := range b {
		b[i] = byte(c.below(256))
	}
	return b
}

// path is one of few short paths, now and then one that is not clean, or no path.
func (c *chance) path() string {
	few := []string{"a", "b", "c", "a.b", "a-b", "d", strings.Repeat("n", 64)}
	p := few[c.below(len(few))]
	for c.below(2) == 0 {
		p += "/" + few[c.below(len(few))]
	}
	switch c.below(24) {
	case 0:
		return "/" + p + "//."
	case 1:
		return "../q/../" + p
	case 2:
		return p + "/.."
	case 3:
		return ""
	case 4:
		return p + "/" + strings.Repeat("n", 65)
	case 5:
		return strings.Repeat("/", api.MaxPath) + p
	}
	return p
}

// act is a call of a store, now and then a wrong one.
func (c *chance) act() act {
	a := act{do: []int{doMake, doMake, doMake, doWrite, doWrite, doWrite, doRead, doCut, doDrop, doDrop, doMove, doMove, doItems}[c.below(13)]}
	a.p, a.kind, a.to = c.path(), int8(c.below(3)), c.path()
	a.at, a.n = int64(c.below(300)), c.below(300)
	a.b = c.text(c.below(200))
	switch c.below(20) {
	case 0:
		a.kind = int8(c.below(256))
	case 1:
		a.at = []int64{-1, -1 << 63, 1<<63 - 1, 65535, 65536, 65537, 31000, 1 << 30}[c.below(8)]
	case 2:
		a.n = []int{-1, -1 << 63, 1<<63 - 1, 65536, 65537}[c.below(5)]
	case 3:
		a.b = c.text(c.below(66000))
	case 4:
		a.to = string(c.text(c.below(5000)))
	case 5:
		a.to = a.p + "/" + a.to
	case 6:
		a.at, a.b = int64(c.below(1<<18)), nil
	}
	return a
}
