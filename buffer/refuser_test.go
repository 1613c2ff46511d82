package buffer_test

import (
	"bytes"
	"fmt"
	"slices"
	"testing"

	"mantle/api"
	"mantle/face"
)

// refuser is a file that writes down what it is asked, and refuses what it is told to.
type refuser struct {
	all   *face.Handle
	no    [6]api.Errno // by op
	takes int          // so many writes are taken ahead of those that are refused
	spoil bool         // whether it changes the bytes that it is handed
	data  []byte       // what a refused read tells beside its error
	sizes int          // how often its Size was asked
	calls []string     // what else it was asked
}

func newRefuser(t *testing.T, b string) *refuser {
	t.Helper()
	return &refuser{all: newFile(t, b, 15)}
}

// refuseAll makes it refuse all that answers an error.
func (r *refuser) refuseAll(e api.Errno) { r.no = [6]api.Errno{0, e, e, e, 0, e} }

// refuseBehind makes it take so many writes, and refuse those that come then.
func (r *refuser) refuseBehind(takes int, e api.Errno) { r.takes, r.no[api.DoWrite] = takes, e }

// handle is the refuser as a file that can so much.
func (r *refuser) handle(can uint8) *face.Handle { return face.Make(r, r, r, r, r).Only(can) }

func (r *refuser) do(op api.Op) api.Told {
	op.B = bytes.Clone(op.B)
	r.calls = append(r.calls, call(op))
	e := r.no[op.Do]
	if op.Do == api.DoWrite && e != api.OK && r.takes > 0 {
		r.takes--
		e = api.OK
	}
	if e != api.OK {
		return api.Told{E: e, Data: r.data}
	}
	return r.all.Do(op)
}

func (r *refuser) Size() int64 {
	r.sizes++
	return r.all.Do(api.Op{Do: api.DoSize}).N
}

func (r *refuser) ReadAt(at int64, n int) ([]byte, api.Errno) {
	x := r.do(api.Op{Do: api.DoRead, At: at, N: n})
	return x.Data, x.E
}

func (r *refuser) WriteAt(at int64, b []byte) api.Errno {
	e := r.do(api.Op{Do: api.DoWrite, At: at, B: b}).E
	if r.spoil {
		clear(b[:cap(b)])
	}
	return e
}

func (r *refuser) Cut(size int64) api.Errno { return r.do(api.Op{Do: api.DoCut, At: size}).E }

func (r *refuser) Next(at int64) (from, to int64) {
	x := r.do(api.Op{Do: api.DoNext, At: at})
	return x.N, x.M
}

func (r *refuser) Sync() api.Errno { return r.do(api.Op{Do: api.DoSync}).E }

// call is a call as a text: what, and its numbers and bytes.
func call(op api.Op) string {
	return fmt.Sprint(op.Do, " ", op.At, " ", op.N, " ", string(op.B))
}

// calls are writes as texts.
func calls(l []api.Op) (out []string) {
	for _, op := range l {
		out = append(out, call(api.Op{Do: api.DoWrite, At: op.At, B: op.B}))
	}
	return out
}

// wantCalls holds what came to the file besides Size, and forgets it.
func (r *refuser) wantCalls(t *testing.T, want ...string) {
	t.Helper()
	if !slices.Equal(r.calls, want) {
		t.Errorf("the file was asked %.200q, want %.200q", r.calls, want)
	}
	r.calls = nil
}

// wantUnasked holds that the file was asked nothing at all, its Size neither.
func (r *refuser) wantUnasked(t *testing.T) {
	t.Helper()
	r.wantCalls(t)
	if r.sizes > 0 {
		t.Errorf("Size was asked %d times", r.sizes)
	}
}

// errnos are errors of all kinds that a file may answer.
func errnos() []api.Errno {
	return []api.Errno{api.ErrNil, api.ErrArg, api.ErrLong, api.ErrCan, api.ErrGone, api.ErrSum, api.ErrQuota, -1}
}

// odd is a file that tells whatever its functions tell.
type odd struct {
	size  func() int64
	read  func(at int64, n int) ([]byte, api.Errno)
	write func(at int64, b []byte) api.Errno
}

func (o *odd) Size() int64 { return o.size() }

func (o *odd) ReadAt(at int64, n int) ([]byte, api.Errno) { return o.read(at, n) }

func (o *odd) WriteAt(at int64, b []byte) api.Errno { return o.write(at, b) }

func (o *odd) Cut(int64) api.Errno { return api.OK }

func (o *odd) handle() *face.Handle { return face.Make(o, o, o, nil, nil) }
