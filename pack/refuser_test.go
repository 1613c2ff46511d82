package pack_test

import (
	"fmt"
	"slices"
	"testing"

	"mantle/api"
	"mantle/face"
	"mantle/memory"
	"mantle/pack"
	"mantle/span"
)

func fileOf(t *testing.T, s *span.Bytes, can uint8) *face.Handle {
	t.Helper()
	h, e := memory.Of(s, can)
	if e != api.OK {
		t.Fatalf("a file of memory that can %d: %v", can, e)
	}
	return h
}

func newFile(t *testing.T, b []byte, can uint8) *face.Handle {
	t.Helper()
	return fileOf(t, span.New(b), can)
}

func newPack(t *testing.T, h *face.Handle) *face.Handle {
	t.Helper()
	p, e := pack.New(h)
	if e != api.OK || p == nil {
		t.Fatalf("New answers %v, %v", p, e)
	}
	return p
}

// wantRefused: beside an error there is no handle.
func wantRefused(t *testing.T, h *face.Handle, want api.Errno) {
	t.Helper()
	if p, e := pack.New(h); p != nil || e != want {
		t.Errorf("New answers %v, %v, want %v", p, e, want)
	}
}

// noted is a file that can all, writes down what it is asked, and tells what its functions tell.
type noted struct {
	calls []string
	size  func() int64
	read  func(at int64, n int) ([]byte, api.Errno)
}

// notedOf tells these bytes, in the memory in which they are.
func notedOf(b []byte) *noted {
	return &noted{
		size: func() int64 { return int64(len(b)) },
		read: func(at int64, n int) ([]byte, api.Errno) {
			from := min(at, int64(len(b)))
			return b[from:min(from+int64(n), int64(len(b)))], api.OK
		},
	}
}

// refuse makes it take so many reads, and refuse the next one, telling some bytes beside the error.
func (f *noted) refuse(takes int, e api.Errno) {
	read := f.read
	f.read = func(at int64, n int) ([]byte, api.Errno) {
		b, _ := read(at, n)
		takes--
		if takes == -1 {
			return b, e
		}
		return b, api.OK
	}
}

func (f *noted) handle(can uint8) *face.Handle { return face.Make(f, f, f, f, f).Only(can) }

func (f *noted) note(a ...any) { f.calls = append(f.calls, fmt.Sprint(a...)) }

func (f *noted) Size() int64 {
	f.note("size")
	return f.size()
}

func (f *noted) ReadAt(at int64, n int) ([]byte, api.Errno) {
	f.note("read ", at, " ", n)
	return f.read(at, n)
}

func (f *noted) WriteAt(at int64, b []byte) api.Errno {
	f.note("write")
	return api.OK
}

func (f *noted) Cut(size int64) api.Errno {
	f.note("cut")
	return api.OK
}

func (f *noted) Next(at int64) (from, to int64) {
	f.note("next")
	return 0, 0
}

func (f *noted) Sync() api.Errno {
	f.note("sync")
	return api.OK
}

// wantCalls holds all that came to it, and forgets it.
func (f *noted) wantCalls(t *testing.T, want ...string) {
	t.Helper()
	if !slices.Equal(f.calls, want) {
		t.Errorf("the file was asked %q, want %q", f.calls, want)
	}
	f.calls = nil
}

// errnos are errors of all kinds that a file may answer.
func errnos() []api.Errno {
	return []api.Errno{api.ErrNil, api.ErrArg, api.ErrLong, api.ErrCan, api.ErrGone, api.ErrSum, api.ErrPack, api.ErrQuota, -1}
}
