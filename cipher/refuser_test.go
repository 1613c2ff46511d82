package cipher_test

import (
	"bytes"
	"fmt"
	"slices"
	"testing"

	"mantle/api"
	"mantle/face"
	"mantle/span"
)

// diary is what a file was asked, and which of these calls is refused.
type diary struct {
	calls []string  // besides Size
	sizes int       // how often its Size was asked
	skip  int       // so many calls are taken,
	e     api.Errno // and those behind them are refused by this error, if it is one
}

// refuseBehind makes the file take so many calls, and refuse those that come then.
func (d *diary) refuseBehind(skip int, e api.Errno) { d.skip, d.e = skip, e }

// note writes a call down, and tells by which error it is refused.
func (d *diary) note(op api.Op) api.Errno {
	d.calls = append(d.calls, call(op))
	if d.e == api.OK || len(d.calls) <= d.skip {
		return api.OK
	}
	return d.e
}

// forget begins anew, and refuses nothing.
func (d *diary) forget() { *d = diary{} }

// wantCalls holds what came to the file besides Size, and forgets it.
func (d *diary) wantCalls(t *testing.T, want ...string) {
	t.Helper()
	if !slices.Equal(d.calls, want) {
		t.Errorf("the file was asked %.300q, want %.300q", d.calls, want)
	}
	d.forget()
}

// wantUnasked holds that the file was asked nothing at all, its Size neither.
func (d *diary) wantUnasked(t *testing.T) {
	t.Helper()
	if d.sizes > 0 {
		t.Errorf("Size was asked %d times", d.sizes)
	}
	d.wantCalls(t)
}

// call is a call as a text: what, and its numbers and bytes.
func call(op api.Op) string {
	return fmt.Sprint(op.Do, " ", op.At, " ", op.N, " ", string(op.B))
}

// wrote is the call of a write.
func wrote(at int64, b []byte) string { return call(api.Op{Do: api.DoWrite, At: at, B: b}) }

// wasCut is the call of a cut.
func wasCut(to int64) string { return call(api.Op{Do: api.DoCut, At: to}) }

// refuser is a file that writes down in a diary what it is asked, and refuses what it is told to.
type refuser struct {
	diary
	all  *face.Handle
	data []byte // what a refused read tells beside its error
}

// handle is the refuser as a file that can so much.
func (r *refuser) handle(can uint8) *face.Handle { return face.Make(r, r, r, r, r).Only(can) }

func (r *refuser) do(op api.Op) api.Told {
	op.B = bytes.Clone(op.B)
	if e := r.note(op); e != api.OK {
		return api.Told{E: e, Data: r.data}
	}
	return r.all.Do(op)
}

func (r *refuser) Size() int64 {
	r.sizes++
	return r.all.Do(api.Op{Do: api.DoSize}).N
}

func (r *refuser) ReadAt(at int64, n int) ([]byte, api.Errno) {
	x := r.do(api.Op{Do: api.DoRead, At: at, N: n})
	return x.Data, x.E
}

func (r *refuser) WriteAt(at int64, b []byte) api.Errno {
	return r.do(api.Op{Do: api.DoWrite, At: at, B: b}).E
}

func (r *refuser) Cut(size int64) api.Errno { return r.do(api.Op{Do: api.DoCut, At: size}).E }

func (r *refuser) Next(at int64) (from, to int64) {
	x := r.do(api.Op{Do: api.DoNext, At: at})
	return x.N, x.M
}

func (r *refuser) Sync() api.Errno { return r.do(api.Op{Do: api.DoSync}).E }

// watched is a refuser over these bytes, and the cipher over it.
func watched(t *testing.T, s *span.Bytes, key uint64) (*refuser, *face.Handle) {
	t.Helper()
	r := &refuser{all: fileOf(t, s, 15)}
	return r, newCipher(t, r.handle(15), key)
}

// errnos are errors of all kinds that a file may answer.
func errnos() []api.Errno {
	return []api.Errno{api.ErrNil, api.ErrArg, api.ErrLong, api.ErrFull, api.ErrCan, api.ErrGone, api.ErrSum, api.ErrQuota, -1}
}

// odd is a file that tells whatever its functions tell.
type odd struct {
	size  func() int64
	read  func(at int64, n int) ([]byte, api.Errno)
	write func(at int64, b []byte) api.Errno
	cut   func(size int64) api.Errno
}

func (o *odd) Size() int64 { return o.size() }

func (o *odd) ReadAt(at int64, n int) ([]byte, api.Errno) { return o.read(at, n) }

func (o *odd) WriteAt(at int64, b []byte) api.Errno { return o.write(at, b) }

func (o *odd) Cut(size int64) api.Errno { return o.cut(size) }

func (o *odd) handle() *face.Handle { return face.Make(o, o, o, nil, nil) }
