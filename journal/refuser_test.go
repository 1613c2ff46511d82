package journal_test

import (
	"bytes"
	"fmt"
	"slices"
	"testing"

	"mantle/api"
	"mantle/face"
	"mantle/span"
)

// diary is by what calls two files were to be changed, in their order over both, and which of them is refused.
type diary struct {
	calls []string  // besides sizes and reads, which change nothing
	skip  int       // so many calls are taken,
	e     api.Errno // and the one behind them is refused by this error, if it is one
}

// refuse makes the files take so many calls, and refuse the one that comes then; those behind it they take again.
func (d *diary) refuse(skip int, e api.Errno) { d.skip, d.e = skip, e }

// note writes a call down, and tells by which error it is refused.
func (d *diary) note(name string, op api.Op) api.Errno {
	d.calls = append(d.calls, call(name, op))
	if len(d.calls) == d.skip+1 {
		return d.e
	}
	return api.OK
}

// forget begins anew, and refuses nothing.
func (d *diary) forget() { *d = diary{} }

// wantCalls holds what came to the files, and forgets it.
func (d *diary) wantCalls(t *testing.T, want ...string) {
	t.Helper()
	if !slices.Equal(d.calls, want) {
		t.Errorf("the files were asked %.400q, want %.400q", d.calls, want)
	}
	d.forget()
}

// call is a call as a text: of which file, what, and its numbers and bytes.
func call(name string, op api.Op) string {
	return fmt.Sprint(name, " ", op.Do, " ", op.At, " ", op.N, " ", string(op.B))
}

// wrote, wasCut and synced are calls.
func wrote(name string, at int64, b string) string {
	return call(name, api.Op{Do: api.DoWrite, At: at, B: []byte(b)})
}

func wasCut(name string, to int64) string { return call(name, api.Op{Do: api.DoCut, At: to}) }

func synced(name string) string { return call(name, api.Op{Do: api.DoSync}) }

// refuser is a file that writes down in a diary by what it was to be changed, and refuses what it is told to.
type refuser struct {
	diary  *diary
	name   string
	all    *face.Handle
	noRead api.Errno // the answer to reads, if it is an error
	beside []byte    // what a refused read tells beside its error
	asked  int       // sizes and reads
}

// handle is the refuser as a file that can so much.
func (r *refuser) handle(can uint8) *face.Handle { return face.Make(r, r, r, r, r).Only(can) }

func (r *refuser) do(op api.Op) api.Told {
	op.B = bytes.Clone(op.B)
	if e := r.diary.note(r.name, op); e != api.OK {
		return api.Told{E: e}
	}
	return r.all.Do(op)
}

func (r *refuser) Size() int64 {
	r.asked++
	return r.all.Do(api.Op{Do: api.DoSize}).N
}

func (r *refuser) ReadAt(at int64, n int) ([]byte, api.Errno) {
	r.asked++
	if r.noRead != api.OK {
		return r.beside, r.noRead
	}
	x := r.all.Do(api.Op{Do: api.DoRead, At: at, N: n})
	return x.Data, x.E
}

func (r *refuser) WriteAt(at int64, b []byte) api.Errno {
	return r.do(api.Op{Do: api.DoWrite, At: at, B: b}).E
}

func (r *refuser) Cut(size int64) api.Errno { return r.do(api.Op{Do: api.DoCut, At: size}).E }

func (r *refuser) Next(at int64) (from, to int64) {
	x := r.do(api.Op{Do: api.DoNext, At: at})
	return x.N, x.M
}

func (r *refuser) Sync() api.Errno { return r.do(api.Op{Do: api.DoSync}).E }

// two are data and a log that share a diary, and the bytes that they stand over.
type two struct {
	diary
	data, log   *refuser
	below, logs *span.Bytes
}

func twoOf(t *testing.T, data, log *span.Bytes) *two {
	t.Helper()
	w := &two{below: data, logs: log}
	w.data = &refuser{diary: &w.diary, name: "data", all: fileOf(t, data, 15)}
	w.log = &refuser{diary: &w.diary, name: "log", all: fileOf(t, log, 15)}
	return w
}

// watched are two files that can so much, of which data has these bytes and the log none, and the journal over them.
func watched(t *testing.T, b string, data, log uint8) (*two, *face.Handle) {
	t.Helper()
	w := twoOf(t, span.New([]byte(b)), span.New(nil))
	return w, newJournal(t, w.data.handle(data), w.log.handle(log))
}

// errnos are errors of all kinds that a file may answer.
func errnos() []api.Errno {
	return []api.Errno{api.ErrNil, api.ErrArg, api.ErrLong, api.ErrFull, api.ErrCan, api.ErrGone, api.ErrLog, api.ErrQuota, -1}
}

// odd is a file that tells whatever its functions tell; one that is not there tells nothing.
type odd struct {
	size  func() int64
	read  func(at int64, n int) ([]byte, api.Errno)
	write func(at int64, b []byte) api.Errno
	cut   func(size int64) api.Errno
}

func (o *odd) Size() int64 {
	if o.size == nil {
		return 0
	}
	return o.size()
}

func (o *odd) ReadAt(at int64, n int) ([]byte, api.Errno) {
	if o.read == nil {
		return nil, api.OK
	}
	return o.read(at, n)
}

func (o *odd) WriteAt(at int64, b []byte) api.Errno {
	if o.write == nil {
		return api.OK
	}
	return o.write(at, b)
}

func (o *odd) Cut(size int64) api.Errno {
	if o.cut == nil {
		return api.OK
	}
	return o.cut(size)
}

func (o *odd) Sync() api.Errno { return api.OK }

func (o *odd) handle() *face.Handle { return face.Make(o, o, o, nil, o) }
