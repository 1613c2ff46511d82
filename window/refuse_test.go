package window_test

import (
	"math"
	"slices"
	"testing"

	"mantle/api"
	"mantle/face"
	"mantle/span"
	"mantle/window"
)

// refuser is a file that writes down what it is asked, and refuses what it is told to.
type refuser struct {
	all   *face.Handle
	no    [6]api.Errno // by op
	data  []byte       // what a refused read tells beside its error
	calls []api.Op
}

func newRefuser(t *testing.T, b string) *refuser {
	t.Helper()
	return &refuser{all: newFile(t, b, 15)}
}

// handle is the refuser as a file that can so much.
func (r *refuser) handle(can uint8) *face.Handle { return face.Make(r, r, r, r, r).Only(can) }

func (r *refuser) do(op api.Op) api.Told {
	r.calls = append(r.calls, op)
	if e := r.no[op.Do]; e != api.OK {
		return api.Told{E: e, Data: r.data}
	}
	return r.all.Do(op)
}

func (r *refuser) Size() int64 { return r.do(api.Op{Do: api.DoSize}).N }

func (r *refuser) ReadAt(at int64, n int) ([]byte, api.Errno) {
	x := r.do(api.Op{Do: api.DoRead, At: at, N: n})
	return x.Data, x.E
}

func (r *refuser) WriteAt(at int64, b []byte) api.Errno {
	return r.do(api.Op{Do: api.DoWrite, At: at, B: b}).E
}

func (r *refuser) Cut(size int64) api.Errno { return r.do(api.Op{Do: api.DoCut, At: size}).E }

func (r *refuser) Next(at int64) (from, to int64) {
	x := r.do(api.Op{Do: api.DoNext, At: at})
	return x.N, x.M
}

func (r *refuser) Sync() api.Errno { return r.do(api.Op{Do: api.DoSync}).E }

// asked are the ops of one kind that came to it.
func (r *refuser) asked(do int8) (l []api.Op) {
	for _, op := range r.calls {
		if op.Do == do {
			l = append(l, op)
		}
	}
	return l
}

// An error from below is answered as it is, with nothing beside it.
func TestP52P53Refused(t *testing.T) {
	for do, op := range map[int8]api.Op{
		api.DoRead: {Do: api.DoRead, At: 1, N: 2}, api.DoWrite: {Do: api.DoWrite, At: 1, B: []byte("xy")}, api.DoSync: {Do: api.DoSync},
	} {
		for _, e := range []api.Errno{api.ErrNil, api.ErrArg, api.ErrLong, api.ErrCan, api.ErrSum, api.ErrQuota, -1} {
			r := newRefuser(t, "0123456789")
			r.no[do], r.data = e, []byte("beside")
			w := newWindow(t, r.handle(15), 3, 4)
			wantTold(t, w, op, api.Told{E: e})
			wantTold(t, newWindow(t, w, 0, 3), op, api.Told{E: e})
			r.no[do], r.calls = api.OK, nil
			wantRead(t, w, 0, 9, "3456")
			want := map[int8]api.Told{api.DoRead: {Data: []byte("45")}}[do]
			wantTold(t, w, op, want)
		}
	}
}

// A file that may not be read is not read through a window either, behind its end as little as ahead of it.
func TestP52RefusedEverywhere(t *testing.T) {
	for _, x := range []struct{ at, n int64 }{{0, api.MaxSize}, {3, 4}, {3, 0}, {20, 5}, {api.MaxSize, 0}} {
		r := newRefuser(t, "0123456789")
		r.no[api.DoRead] = api.ErrGone
		r.no[api.DoWrite] = api.ErrGone
		w := newWindow(t, r.handle(15), x.at, x.n)
		for _, p := range []int64{0, 1, 4, 10, 11, api.MaxSize, math.MaxInt64} {
			for _, k := range []int{0, 1, api.MaxText} {
				wantTold(t, w, api.Op{Do: api.DoRead, At: p, N: k}, api.Told{E: api.ErrGone})
			}
			if p <= api.MaxSize {
				wantWrite(t, w, p, "", api.ErrGone)
			}
		}
		r.no[api.DoSize] = api.ErrGone // and its Size is told as 0
		wantSize(t, w, 0)
		wantNext(t, w, 0, 0, 0)
		wantTold(t, w, api.Op{Do: api.DoRead, N: 1}, api.Told{E: api.ErrGone})
	}
}

// What the window refuses by itself does not come to the file below.
func TestP53OwnErrorsFirst(t *testing.T) {
	r := newRefuser(t, "0123456789")
	r.no = [6]api.Errno{0, api.ErrGone, api.ErrGone, api.ErrGone, 0, api.ErrGone}
	w := newWindow(t, r.handle(15), 3, 4)
	long := make([]byte, api.MaxText+1)
	for _, x := range []struct {
		op api.Op
		e  api.Errno
	}{
		{api.Op{Do: api.DoRead, At: -1}, api.ErrArg}, {api.Op{Do: api.DoRead, N: -1}, api.ErrArg},
		{api.Op{Do: api.DoRead, At: -1, N: api.MaxText + 1}, api.ErrArg}, {api.Op{Do: api.DoRead, N: api.MaxText + 1}, api.ErrLong},
		{api.Op{Do: api.DoWrite, At: -1, B: long}, api.ErrArg}, {api.Op{Do: api.DoWrite, At: -1}, api.ErrArg},
		{api.Op{Do: api.DoWrite, B: long}, api.ErrLong}, {api.Op{Do: api.DoWrite, At: api.MaxSize + 1}, api.ErrLong},
		{api.Op{Do: api.DoWrite, At: math.MaxInt64, B: long[:1]}, api.ErrLong}, {api.Op{Do: api.DoWrite, At: 3, B: long[:2]}, api.ErrLong},
		{api.Op{Do: api.DoWrite, At: 4, B: long[:1]}, api.ErrLong}, {api.Op{Do: api.DoCut, At: 1}, api.ErrCan},
	} {
		wantTold(t, w, x.op, api.Told{E: x.e})
	}
	wantTold(t, newWindow(t, r.handle(15), 0, api.MaxSize), api.Op{Do: api.DoWrite, B: long}, api.Told{E: api.ErrLong})
	for _, do := range []int8{api.DoRead, api.DoWrite, api.DoCut, api.DoSync} {
		if l := r.asked(do); len(l) != 0 {
			t.Errorf("below was asked %v", l)
		}
	}
}

// No byte beside the window is asked for below, and what is written goes there in one write.
func TestP52P53AskedBelow(t *testing.T) {
	r := newRefuser(t, "0123456789")
	w := newWindow(t, r.handle(15), 3, 4)
	for p := range int64(9) {
		for k := range 9 {
			w.Do(api.Op{Do: api.DoRead, At: p, N: k})
		}
	}
	for _, op := range r.asked(api.DoRead) {
		if op.N > 0 && (op.At < 3 || op.At+int64(op.N) > 7) || op.At < 0 || op.N < 0 || op.N > api.MaxText {
			t.Errorf("below was asked for %d at %d", op.N, op.At)
		}
	}
	wantWrite(t, w, 1, "xyz", api.OK)
	wantTold(t, w, api.Op{Do: api.DoSync}, api.Told{})
	same := func(a, b api.Op) bool { return a.Do == b.Do && a.At == b.At && string(a.B) == string(b.B) }
	if l := r.asked(api.DoWrite); !slices.EqualFunc(l, []api.Op{{Do: api.DoWrite, At: 4, B: []byte("xyz")}}, same) {
		t.Errorf("below was asked %v", l)
	}
	if l := r.asked(api.DoSync); len(l) != 1 || len(r.asked(api.DoCut)) != 0 {
		t.Errorf("below was synced %d times", len(l))
	}
}

// What the bytes below cannot hold is refused by them, and nothing is changed.
func TestP53HeldBytes(t *testing.T) {
	s := span.New(make([]byte, api.MaxData-1))
	w := newWindow(t, fileOf(t, s, 15), api.MaxData, 10)
	wantWrite(t, w, 2, "ab", api.ErrLong)
	if s.Size() != api.MaxData-1 || s.Held() != api.MaxData-1 {
		t.Errorf("the file has %d bytes, of which %d are written", s.Size(), s.Held())
	}
	wantWrite(t, w, 2, "a", api.OK)
	wantSize(t, w, 3)
}

// odd is a file that does not obey the file's rules.
type odd struct{ size, from, to int64 }

func (o *odd) Size() int64 { return o.size }

func (o *odd) ReadAt(int64, int) ([]byte, api.Errno) {
	return []byte("much more than was asked for"), api.OK
}

func (o *odd) Next(int64) (from, to int64) { return o.from, o.to }

// Whatever a file below tells, a window's Size, reads and stretches stay within the window.
func TestP52WithinTheWindow(t *testing.T) {
	for _, size := range numbers() {
		for _, from := range numbers() {
			for _, to := range numbers() {
				o := &odd{size, from, to}
				h := face.Make(o, nil, nil, o, nil)
				for _, x := range []struct{ at, n int64 }{{0, api.MaxSize}, {3, 4}, {api.MaxSize, 0}} {
					w := newWindow(t, h, x.at, x.n)
					got := w.Do(api.Op{}).N
					if got != min(max(size, x.at)-x.at, x.n) {
						t.Fatalf("of a Size %d, %d is told of the window %d %d", size, got, x.at, x.n)
					}
					for _, p := range []int64{-1, 0, 2, math.MaxInt64} {
						y := w.Do(api.Op{Do: api.DoNext, At: p})
						if none := y.N == got && y.M == got; !none && !(max(p, 0) <= y.N && y.N < y.M && y.M <= got) {
							t.Fatalf("Next(%d) tells %d %d of a window of %d, below %d %d", p, y.N, y.M, got, from, to)
						}
						if b := w.Do(api.Op{Do: api.DoRead, At: max(p, 0), N: 3}).Data; int64(len(b)) > min(3, max(got-max(p, 0), 0)) {
							t.Fatalf("%d bytes are read of a window of %d", len(b), got)
						}
					}
				}
			}
		}
	}
}

// What is read alone tells what the file tells, refusals too, and all else does not come to the file.
func TestP54Refused(t *testing.T) {
	r := newRefuser(t, "0123456789")
	h := r.handle(15)
	alone := window.Read(h)
	for _, e := range []api.Errno{api.OK, api.ErrGone} {
		r.no[api.DoRead], r.data = e, []byte("beside")
		for _, op := range edges() {
			r.calls = nil
			got, calls := alone.Do(op), r.calls
			switch op.Do {
			case api.DoSize, api.DoRead, api.DoNext:
				if !sameTold(got, h.Do(op)) || len(calls) != 1 || calls[0].At != op.At && op.Do != api.DoSize {
					t.Errorf("%+v tells %v, by %v", op, got, calls)
				}
			case api.DoWrite, api.DoCut, api.DoSync:
				if got.E != api.ErrCan || len(calls) != 0 {
					t.Errorf("%+v tells %v, by %v", op, got, calls)
				}
			default:
				if got.E != api.ErrArg || len(calls) != 0 {
					t.Errorf("%+v tells %v, by %v", op, got, calls)
				}
			}
		}
	}
}
