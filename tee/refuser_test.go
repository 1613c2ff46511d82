package tee_test

import (
	"bytes"
	"fmt"
	"slices"
	"testing"

	"mantle/api"
	"mantle/face"
)

// refuser is a file that writes down what it is asked, and refuses what it is told to.
type refuser struct {
	all  *face.Handle
	no   [6]api.Errno // by op
	data []byte       // what a refused read tells beside its error
	note func(op api.Op)
}

func newRefuser(t *testing.T, b string) *refuser {
	t.Helper()
	return &refuser{all: newFile(t, b, 15)}
}

// refuseAll makes it refuse all that answers an error.
func (r *refuser) refuseAll(e api.Errno) { r.no = [6]api.Errno{0, e, e, e, 0, e} }

// handle is the refuser as a file that can so much.
func (r *refuser) handle(can uint8) *face.Handle { return face.Make(r, r, r, r, r).Only(can) }

func (r *refuser) do(op api.Op) api.Told {
	op.B = bytes.Clone(op.B)
	if r.note != nil {
		r.note(op)
	}
	if e := r.no[op.Do]; e != api.OK {
		return api.Told{E: e, Data: r.data}
	}
	return r.all.Do(op)
}

func (r *refuser) Size() int64 { return r.do(api.Op{Do: api.DoSize}).N }

func (r *refuser) ReadAt(at int64, n int) ([]byte, api.Errno) {
	x := r.do(api.Op{Do: api.DoRead, At: at, N: n})
	return x.Data, x.E
}

func (r *refuser) WriteAt(at int64, b []byte) api.Errno {
	return r.do(api.Op{Do: api.DoWrite, At: at, B: b}).E
}

func (r *refuser) Cut(size int64) api.Errno { return r.do(api.Op{Do: api.DoCut, At: size}).E }

func (r *refuser) Next(at int64) (from, to int64) {
	x := r.do(api.Op{Do: api.DoNext, At: at})
	return x.N, x.M
}

func (r *refuser) Sync() api.Errno { return r.do(api.Op{Do: api.DoSync}).E }

// call is a call as a text: whose it is, what, and its numbers and bytes.
func call(name string, op api.Op) string {
	return fmt.Sprint(name, " ", op.Do, " ", op.At, " ", op.N, " ", string(op.B))
}

// two are refusers of abc and de, which write down in one list what they are asked, and the tee of both.
func two(t *testing.T) (a, b *refuser, h *face.Handle, calls *[]string) {
	t.Helper()
	calls = &[]string{}
	a, b = newRefuser(t, "abc"), newRefuser(t, "de")
	a.note = func(op api.Op) { *calls = append(*calls, call("a", op)) }
	b.note = func(op api.Op) { *calls = append(*calls, call("b", op)) }
	return a, b, newTee(t, a.handle(15), b.handle(15)), calls
}

// wantCalls holds what came to the files, and forgets it.
func wantCalls(t *testing.T, calls *[]string, want ...string) {
	t.Helper()
	if !slices.Equal(*calls, want) {
		t.Errorf("the files were asked %q, want %q", *calls, want)
	}
	*calls = nil
}

// errnos are errors of all kinds that a file may answer.
func errnos() []api.Errno {
	return []api.Errno{api.ErrNil, api.ErrArg, api.ErrLong, api.ErrCan, api.ErrGone, api.ErrSum, api.ErrQuota, -1}
}
