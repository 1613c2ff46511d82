package rights_test

import (
	"bytes"
	"fmt"
	"slices"
	"testing"

	"mantle/api"
	"mantle/face"
	"mantle/memory"
	"mantle/span"
)

func newFile(t *testing.T, b string, can uint8) *face.Handle {
	t.Helper()
	return fileOf(t, span.New([]byte(b)), can)
}

func fileOf(t *testing.T, s *span.Bytes, can uint8) *face.Handle {
	t.Helper()
	h, e := memory.Of(s, can)
	if e != api.OK {
		t.Fatalf("a file of memory that can %d: %v", can, e)
	}
	return h
}

func sameTold(a, b api.Told) bool {
	return a.E == b.E && a.N == b.N && a.M == b.M && bytes.Equal(a.Data, b.Data)
}

// wantTold holds what is told of op.
func wantTold(t *testing.T, h *face.Handle, op api.Op, want api.Told) {
	t.Helper()
	if got := h.Do(op); !sameTold(got, want) {
		t.Errorf("Do %d at %d, %d, of %d bytes tells %.50v, want %.50v", op.Do, op.At, op.N, len(op.B), got, want)
	}
}

// wantBytes holds all bytes of files that are to be alike.
func wantBytes(t *testing.T, want string, l ...*face.Handle) {
	t.Helper()
	for i, h := range l {
		if b, e := memory.All(h); e != api.OK || string(b) != want {
			t.Errorf("file %d is %q, %v, want %q", i, b, e, want)
		}
	}
}

// spy is a file that writes down what it is asked, and tells what it is told to.
type spy struct {
	told  [6]api.Told
	calls []string
	first func() // is called ahead of each answer, if it is there
}

// newSpy tells, of each call, what nobody else would.
func newSpy() *spy {
	return &spy{told: [6]api.Told{
		{N: 77}, {Data: []byte("told")}, {E: api.ErrSum}, {E: api.ErrPack}, {N: 55, M: 66}, {E: api.ErrLog},
	}}
}

// handle is the spy as a file that can so much.
func (s *spy) handle(can uint8) *face.Handle { return face.Make(s, s, s, s, s).Only(can) }

func (s *spy) do(op api.Op) api.Told {
	s.calls = append(s.calls, call(op))
	if s.first != nil {
		s.first()
	}
	return s.told[op.Do]
}

func (s *spy) Size() int64 { return s.do(api.Op{Do: api.DoSize}).N }

func (s *spy) ReadAt(at int64, n int) ([]byte, api.Errno) {
	x := s.do(api.Op{Do: api.DoRead, At: at, N: n})
	return x.Data, x.E
}

func (s *spy) WriteAt(at int64, b []byte) api.Errno {
	return s.do(api.Op{Do: api.DoWrite, At: at, B: b}).E
}

func (s *spy) Cut(size int64) api.Errno { return s.do(api.Op{Do: api.DoCut, At: size}).E }

func (s *spy) Next(at int64) (from, to int64) {
	x := s.do(api.Op{Do: api.DoNext, At: at})
	return x.N, x.M
}

func (s *spy) Sync() api.Errno { return s.do(api.Op{Do: api.DoSync}).E }

// call is a call as a text: what, and its numbers and bytes.
func call(op api.Op) string {
	return fmt.Sprint(op.Do, " ", op.At, " ", op.N, " ", string(op.B))
}

// wantCalls holds what came to the file, and forgets it.
func (s *spy) wantCalls(t *testing.T, want ...string) {
	t.Helper()
	if !slices.Equal(s.calls, want) {
		t.Errorf("the file was asked %.300q, want %.300q", s.calls, want)
	}
	s.calls = nil
}

// ops are calls with numbers that files take and such as they refuse; each has what its kind of call has, and nothing else.
func ops() (l []api.Op) {
	numbers := []int64{-1 << 63, -1, 0, 1, 2, 3, 9, api.MaxText, api.MaxText + 1, api.MaxSize - 1, api.MaxSize, api.MaxSize + 1, 1<<63 - 1}
	for _, at := range numbers {
		for _, n := range numbers {
			l = append(l, api.Op{Do: api.DoRead, At: at, N: int(n)})
		}
		for _, n := range []int{0, 1, 5, api.MaxText, api.MaxText + 1} {
			l = append(l, api.Op{Do: api.DoWrite, At: at, B: bytes.Repeat([]byte("w"), n)})
		}
		l = append(l, api.Op{Do: api.DoCut, At: at}, api.Op{Do: api.DoNext, At: at})
	}
	return append(l, api.Op{Do: api.DoSize}, api.Op{Do: api.DoSync})
}

// right is what a call wants.
func right(op api.Op) uint8 {
	return [6]uint8{api.RightRead, api.RightRead, api.RightWrite, api.RightWrite, api.RightRead, api.RightWrite}[op.Do]
}

// op is any op, some with wrong numbers; half of them change something.
func (c *chance) op() api.Op {
	op := api.Op{Do: int8(c.below(8) - 1), At: int64(c.below(40) - 2), N: c.below(50) - 1, B: bytes.Repeat([]byte{byte('a' + c.below(26))}, c.below(9))}
	switch c.below(6) {
	case 0, 1:
		op.Do = api.DoWrite
	case 2:
		op.Do = api.DoCut
	}
	if c.below(30) == 0 {
		op.At = api.MaxSize - op.At
	}
	return op
}
