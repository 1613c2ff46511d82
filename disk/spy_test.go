package disk_test

import (
	"bytes"
	"slices"
	"testing"

	"mantle/api"
	"mantle/disk"
	"mantle/face"
	"mantle/memory"
	"mantle/span"
)

// spy is a file that writes down by what calls it was to be changed, and refuses what its rules say.
type spy struct {
	all    *face.Handle
	below  *span.Bytes
	rules  rules
	beside []byte // what a refused read tells beside its error
	calls  []string
	asked  int // sizes and reads
}

// spyOf is a spy over these bytes.
func spyOf(t *testing.T, b []byte) *spy {
	t.Helper()
	s := span.New(b)
	return &spy{all: fileOf(t, s, 15), below: s}
}

// handle is the spy as a file that can so much.
func (s *spy) handle(can uint8) *face.Handle { return face.Make(s, s, s, s, s).Only(can) }

func (s *spy) Size() int64 {
	s.asked++
	return s.below.Size()
}

func (s *spy) ReadAt(at int64, n int) ([]byte, api.Errno) {
	s.asked++
	if e := s.rules.read(at, n); e != api.OK {
		return s.beside, e
	}
	x := s.all.Do(api.Op{Do: api.DoRead, At: at, N: n})
	return x.Data, x.E
}

func (s *spy) WriteAt(at int64, b []byte) api.Errno {
	others := len(s.calls)
	s.calls = append(s.calls, wrote(int(at), b))
	if e := s.rules.write(others); e != api.OK {
		return e
	}
	return s.all.Do(api.Op{Do: api.DoWrite, At: at, B: b}).E
}

func (s *spy) Cut(size int64) api.Errno {
	s.calls = append(s.calls, "cut")
	return api.OK
}

func (s *spy) Next(at int64) (from, to int64) {
	s.calls = append(s.calls, "next")
	return 0, 0
}

func (s *spy) Sync() api.Errno {
	s.calls = append(s.calls, synced)
	return s.rules.noSync
}

// forget begins anew, and refuses nothing.
func (s *spy) forget() { s.calls, s.asked, s.rules = nil, 0, rules{} }

// wantCalls holds by what calls the file was to be changed, and forgets them.
func (s *spy) wantCalls(t *testing.T, want ...string) {
	t.Helper()
	if !slices.Equal(s.calls, want) {
		t.Fatalf("the file was asked %.900q, want %.900q", s.calls, want)
	}
	s.forget()
}

// wantUnasked holds that the file was asked nothing at all.
func (s *spy) wantUnasked(t *testing.T) {
	t.Helper()
	if s.asked > 0 {
		t.Errorf("the file was asked %d sizes and reads, want none", s.asked)
	}
	s.wantCalls(t)
}

// bytes are all bytes of the file.
func (s *spy) bytes(t *testing.T) []byte {
	t.Helper()
	b, e := memory.All(s.all)
	if e != api.OK {
		t.Fatal(e)
	}
	return b
}

// wantBytes holds all bytes of the file.
func (s *spy) wantBytes(t *testing.T, want []byte) {
	t.Helper()
	if got := s.bytes(t); !bytes.Equal(got, want) {
		t.Fatalf("the file has %d bytes, %.300x, want %d, %.300x", len(got), got, len(want), want)
	}
}

// refusals are the rules of files that refuse all reads, and all writes behind so many.
func refusals(noRead api.Errno, skip int, noWrite api.Errno) rules {
	return rules{bad: api.Stretch{From: 0, To: api.MaxSize}, noRead: noRead, skip: skip, noWrite: noWrite}
}

// fileOf is a file of memory over bytes that others have, too.
func fileOf(t *testing.T, s *span.Bytes, can uint8) *face.Handle {
	t.Helper()
	h, e := memory.Of(s, can)
	if e != api.OK || h == nil {
		t.Fatal(e)
	}
	return h
}

// newFile is a file of memory.
func newFile(t *testing.T, b []byte, can uint8) *face.Handle {
	t.Helper()
	return fileOf(t, span.New(b), can)
}

// formatted is a new disk.
func formatted(t *testing.T, h *face.Handle, n int) *disk.Disk {
	t.Helper()
	d, e := disk.Format(h, n)
	if e != api.OK || d == nil {
		t.Fatalf("Format of %d blocks: %v", n, e)
	}
	return d
}

// opened is the disk that a file is.
func opened(t *testing.T, h *face.Handle) *disk.Disk {
	t.Helper()
	d, e := disk.Open(h)
	if e != api.OK || d == nil {
		t.Fatalf("Open: %v", e)
	}
	return d
}

// wantNoDisk holds that Open refuses, and tells no disk.
func wantNoDisk(t *testing.T, h *face.Handle, want api.Errno) {
	t.Helper()
	if d, e := disk.Open(h); d != nil || e != want {
		t.Errorf("Open tells %v, and a disk: %v, want %v", e, d != nil, want)
	}
}

// wantE holds an error.
func wantE(t *testing.T, got, want api.Errno) {
	t.Helper()
	if got != want {
		t.Errorf("%v, want %v", got, want)
	}
}

// wantRead holds the bytes of a block.
func wantRead(t *testing.T, d *disk.Disk, block int, want []byte) {
	t.Helper()
	if b, e := d.Read(block); e != api.OK || !bytes.Equal(b, want) {
		t.Errorf("Read of block %d: %x, %v, want %x", block, b, e, want)
	}
}

// wantNoRead holds that a block is not read, and nothing told of it.
func wantNoRead(t *testing.T, d *disk.Disk, block int, want api.Errno) {
	t.Helper()
	if b, e := d.Read(block); e != want || len(b) > 0 {
		t.Errorf("Read of block %d: %x, %v, want %v", block, b, e, want)
	}
}

// wantTake holds what Take tells.
func wantTake(t *testing.T, d *disk.Disk, block int, want api.Errno) {
	t.Helper()
	if k, e := d.Take(); k != block || e != want {
		t.Errorf("Take tells %d, %v, want %d, %v", k, e, block, want)
	}
}

// wantLeft holds what Left tells.
func wantLeft(t *testing.T, d *disk.Disk, want int) {
	t.Helper()
	if n := d.Left(); n != want {
		t.Errorf("Left tells %d, want %d", n, want)
	}
}

// padded is a block: these bytes, and noughts up to 64.
func padded(b []byte) []byte { return append(bytes.Clone(b), make([]byte, 64-len(b))...) }

// odd is a file that tells whatever its functions tell.
type odd struct {
	size  func() int64
	read  func(at int64, n int) ([]byte, api.Errno)
	write func(at int64, b []byte) api.Errno
}

func (o *odd) Size() int64 { return o.size() }

func (o *odd) ReadAt(at int64, n int) ([]byte, api.Errno) { return o.read(at, n) }

func (o *odd) WriteAt(at int64, b []byte) api.Errno { return o.write(at, b) }

// oddOf is a file over these bytes as they are, without copying any: for its functions to be put into.
func oddOf(b []byte) *odd {
	return &odd{
		size: func() int64 { return int64(len(b)) },
		read: func(at int64, n int) ([]byte, api.Errno) {
			size := int64(len(b))
			return b[min(at, size):min(at+int64(n), size)], api.OK
		},
		write: func(at int64, x []byte) api.Errno {
			copy(b[at:], x)
			return api.OK
		},
	}
}

func (o *odd) handle() *face.Handle { return face.Make(o, o, nil, nil, nil) }
