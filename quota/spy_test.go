package quota_test

import (
	"bytes"
	"fmt"
	"slices"
	"testing"

	"mantle/api"
	"mantle/face"
	"mantle/span"
)

// spy is a file that writes down what it is asked, and refuses what it is told to.
type spy struct {
	all   *face.Handle
	calls []string // besides Size
	sizes int      // how often its Size was asked
	no    [6]api.Errno
	data  []byte // what a refused read tells beside its error
	first func() // is called ahead of each call besides Size, if it is there
}

// handle is the spy as a file that can so much.
func (s *spy) handle(can uint8) *face.Handle { return face.Make(s, s, s, s, s).Only(can) }

// refuseAll makes it refuse all that answers an error.
func (s *spy) refuseAll(e api.Errno) { s.no = [6]api.Errno{0, e, e, e, 0, e} }

func (s *spy) do(op api.Op) api.Told {
	op.B = bytes.Clone(op.B)
	s.calls = append(s.calls, call(op))
	if s.first != nil {
		s.first()
	}
	if e := s.no[op.Do]; e != api.OK {
		return api.Told{E: e, Data: s.data}
	}
	return s.all.Do(op)
}

func (s *spy) Size() int64 {
	s.sizes++
	return sizeOf(s.all)
}

func (s *spy) ReadAt(at int64, n int) ([]byte, api.Errno) {
	x := s.do(api.Op{Do: api.DoRead, At: at, N: n})
	return x.Data, x.E
}

func (s *spy) WriteAt(at int64, b []byte) api.Errno {
	return s.do(api.Op{Do: api.DoWrite, At: at, B: b}).E
}

func (s *spy) Cut(size int64) api.Errno { return s.do(api.Op{Do: api.DoCut, At: size}).E }

func (s *spy) Next(at int64) (from, to int64) {
	x := s.do(api.Op{Do: api.DoNext, At: at})
	return x.N, x.M
}

func (s *spy) Sync() api.Errno { return s.do(api.Op{Do: api.DoSync}).E }

// call is a call as a text: what, and its numbers and bytes.
func call(op api.Op) string {
	return fmt.Sprint(op.Do, " ", op.At, " ", op.N, " ", string(op.B))
}

// wantCalls holds what came to the file besides Size, and forgets it.
func (s *spy) wantCalls(t *testing.T, want ...string) {
	t.Helper()
	if !slices.Equal(s.calls, want) {
		t.Errorf("the file was asked %.300q, want %.300q", s.calls, want)
	}
	s.calls, s.sizes = nil, 0
}

// wantUnasked holds that the file was asked nothing at all, its Size neither.
func (s *spy) wantUnasked(t *testing.T) {
	t.Helper()
	if s.sizes > 0 {
		t.Errorf("Size was asked %d times", s.sizes)
	}
	s.wantCalls(t)
}

// errnos are errors of all kinds that a file may answer.
func errnos() []api.Errno {
	return []api.Errno{api.ErrNil, api.ErrArg, api.ErrLong, api.ErrFull, api.ErrCan, api.ErrGone, api.ErrSum, api.ErrQuota, -1}
}

// odd is a file that tells whatever its functions tell.
type odd struct {
	size  func() int64
	read  func(at int64, n int) ([]byte, api.Errno)
	write func(at int64, b []byte) api.Errno
	cut   func(size int64) api.Errno
}

func (o *odd) Size() int64 { return o.size() }

func (o *odd) ReadAt(at int64, n int) ([]byte, api.Errno) { return o.read(at, n) }

func (o *odd) WriteAt(at int64, b []byte) api.Errno { return o.write(at, b) }

func (o *odd) Cut(size int64) api.Errno { return o.cut(size) }

func (o *odd) handle() *face.Handle { return face.Make(o, o, o, nil, nil) }

// jumper is a file whose Size is what it is told to be, and that a write or a cut makes so long as it is told to, answering what it is told to.
func jumper(size, then *int64, e *api.Errno) *odd {
	jump := func() api.Errno {
		*size = *then
		return *e
	}
	return &odd{
		size:  func() int64 { return *size },
		read:  func(int64, int) ([]byte, api.Errno) { return nil, api.OK },
		write: func(int64, []byte) api.Errno { return jump() },
		cut:   func(int64) api.Errno { return jump() },
	}
}

// watched is a spy over these bytes, and a handle of the purse over it.
func watched(t *testing.T, s *span.Bytes, most int64) (*spy, *purse, *face.Handle) {
	t.Helper()
	below, p := &spy{all: fileOf(t, s, 15)}, newPurse(t, most)
	return below, p, p.over(t, below.handle(15))
}
