package sums_test

import (
	"bytes"
	"fmt"
	"slices"
	"testing"

	"mantle/api"
	"mantle/face"
	"mantle/span"
)

// diary is what some files were asked besides their Sizes, in one list, and which of these calls is refused.
type diary struct {
	calls []string
	sizes []string
	skip  int       // so many calls are taken,
	e     api.Errno // and those behind them are refused by this error, if it is one
}

// refuseBehind makes the files take so many calls, and refuse those that come then.
func (d *diary) refuseBehind(skip int, e api.Errno) { d.skip, d.e = skip, e }

// note writes a call down, and tells by which error it is refused.
func (d *diary) note(name string, op api.Op) api.Errno {
	d.calls = append(d.calls, call(name, op))
	if d.e == api.OK || len(d.calls) <= d.skip {
		return api.OK
	}
	return d.e
}

// forget begins anew, and refuses nothing.
func (d *diary) forget() { *d = diary{} }

// wantCalls holds what came to the files besides Size, and forgets it.
func (d *diary) wantCalls(t *testing.T, want ...string) {
	t.Helper()
	if !slices.Equal(d.calls, want) {
		t.Errorf("the files were asked %.900q, want %.900q", d.calls, want)
	}
	d.forget()
}

// wantUnasked holds that the files were asked nothing at all, their Sizes neither.
func (d *diary) wantUnasked(t *testing.T) {
	t.Helper()
	if len(d.sizes) > 0 {
		t.Errorf("Sizes were asked: %q", d.sizes)
	}
	d.wantCalls(t)
}

// call is a call as a text: whose it is, what, and its numbers and bytes.
func call(name string, op api.Op) string {
	return fmt.Sprint(name, " ", op.Do, " ", op.At, " ", op.N, " ", string(op.B))
}

// refuser is a file that writes down in a diary what it is asked, and refuses what it is told to.
type refuser struct {
	name  string
	all   *face.Handle
	diary *diary
	data  []byte       // what a refused read tells beside its error
	no    [6]api.Errno // by op
}

// refuseAll makes it refuse all that answers an error.
func (r *refuser) refuseAll(e api.Errno) { r.no = [6]api.Errno{0, e, e, e, 0, e} }

// handle is the refuser as a file that can so much.
func (r *refuser) handle(can uint8) *face.Handle { return face.Make(r, r, r, r, r).Only(can) }

func (r *refuser) do(op api.Op) api.Told {
	op.B = bytes.Clone(op.B)
	e := r.diary.note(r.name, op)
	if e == api.OK {
		e = r.no[op.Do]
	}
	if e != api.OK {
		return api.Told{E: e, Data: r.data}
	}
	return r.all.Do(op)
}

func (r *refuser) Size() int64 {
	r.diary.sizes = append(r.diary.sizes, r.name)
	return r.all.Do(api.Op{Do: api.DoSize}).N
}

func (r *refuser) ReadAt(at int64, n int) ([]byte, api.Errno) {
	x := r.do(api.Op{Do: api.DoRead, At: at, N: n})
	return x.Data, x.E
}

func (r *refuser) WriteAt(at int64, b []byte) api.Errno {
	return r.do(api.Op{Do: api.DoWrite, At: at, B: b}).E
}

func (r *refuser) Cut(size int64) api.Errno { return r.do(api.Op{Do: api.DoCut, At: size}).E }

func (r *refuser) Next(at int64) (from, to int64) {
	x := r.do(api.Op{Do: api.DoNext, At: at})
	return x.N, x.M
}

func (r *refuser) Sync() api.Errno { return r.do(api.Op{Do: api.DoSync}).E }

// two are refusers over these bytes, a and b, with one diary.
func two(t *testing.T, data, table *span.Bytes) (a, b *refuser, d *diary) {
	t.Helper()
	d = &diary{}
	return &refuser{name: "a", all: fileOf(t, data, 15), diary: d}, &refuser{name: "b", all: fileOf(t, table, 15), diary: d}, d
}

// summed are refusers of a file of these bytes and its table, and the file with sums over both.
func summed(t *testing.T, text string) (a, b *refuser, h *face.Handle, d *diary) {
	t.Helper()
	a, b, d = two(t, span.New([]byte(text)), span.New(tableOf([]byte(text))))
	return a, b, newSums(t, a.handle(15), b.handle(15)), d
}

// errnos are errors of all kinds that a file may answer.
func errnos() []api.Errno {
	return []api.Errno{api.ErrNil, api.ErrArg, api.ErrLong, api.ErrCan, api.ErrGone, api.ErrSum, api.ErrQuota, -1}
}

// odd is a file that tells whatever its functions tell.
type odd struct {
	size  func() int64
	read  func(at int64, n int) ([]byte, api.Errno)
	write func(at int64, b []byte) api.Errno
}

func (o *odd) Size() int64 { return o.size() }

func (o *odd) ReadAt(at int64, n int) ([]byte, api.Errno) { return o.read(at, n) }

func (o *odd) WriteAt(at int64, b []byte) api.Errno { return o.write(at, b) }

func (o *odd) handle() *face.Handle { return face.Make(o, o, nil, nil, nil) }
