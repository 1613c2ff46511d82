package join_test

import (
	"bytes"
	"fmt"
	"math"
	"slices"
	"testing"

	"mantle/api"
	"mantle/face"
	"mantle/join"
)

// refuser is a file that writes down what it is asked, and refuses what it is told to.
type refuser struct {
	all   *face.Handle
	no    [6]api.Errno // by op
	data  []byte       // what a refused read tells beside its error
	calls []api.Op
	note  func(op api.Op)
}

func newRefuser(t *testing.T, b string) *refuser {
	t.Helper()
	return &refuser{all: newFile(t, b, 15)}
}

// handle is the refuser as a file that can so much.
func (r *refuser) handle(can uint8) *face.Handle { return face.Make(r, r, r, r, r).Only(can) }

func (r *refuser) do(op api.Op) api.Told {
	op.B = bytes.Clone(op.B)
	r.calls = append(r.calls, op)
	if r.note != nil {
		r.note(op)
	}
	if e := r.no[op.Do]; e != api.OK {
		return api.Told{E: e, Data: r.data}
	}
	return r.all.Do(op)
}

func (r *refuser) Size() int64 { return r.do(api.Op{Do: api.DoSize}).N }

func (r *refuser) ReadAt(at int64, n int) ([]byte, api.Errno) {
	x := r.do(api.Op{Do: api.DoRead, At: at, N: n})
	return x.Data, x.E
}

func (r *refuser) WriteAt(at int64, b []byte) api.Errno {
	return r.do(api.Op{Do: api.DoWrite, At: at, B: b}).E
}

func (r *refuser) Cut(size int64) api.Errno { return r.do(api.Op{Do: api.DoCut, At: size}).E }

func (r *refuser) Next(at int64) (from, to int64) {
	x := r.do(api.Op{Do: api.DoNext, At: at})
	return x.N, x.M
}

func (r *refuser) Sync() api.Errno { return r.do(api.Op{Do: api.DoSync}).E }

// asked are the ops of one kind that came to it.
func (r *refuser) asked(do int8) (l []api.Op) {
	for _, op := range r.calls {
		if op.Do == do {
			l = append(l, op)
		}
	}
	return l
}

// three are refusers of abc, de, fgh, which write down in one list what they are asked besides Size, and the join over them.
func three(t *testing.T) (l [3]*refuser, j *face.Handle, calls *[]string) {
	t.Helper()
	calls = &[]string{}
	for i, text := range []string{"abc", "de", "fgh"} {
		l[i] = newRefuser(t, text)
		l[i].note = func(op api.Op) {
			if op.Do != api.DoSize {
				*calls = append(*calls, fmt.Sprint(i, " ", op.Do, " ", op.At, " ", op.N, " ", string(op.B)))
			}
		}
	}
	return l, newJoin(t, l[0].handle(15), l[1].handle(15), l[2].handle(15)), calls
}

// wantCalls holds what came to the parts, and forgets it.
func wantCalls(t *testing.T, calls *[]string, want ...string) {
	t.Helper()
	if !slices.Equal(*calls, want) {
		t.Errorf("the parts were asked %q, want %q", *calls, want)
	}
	*calls = nil
}

// What falls to each part comes to it in one call, in order, and nothing to a part to which nothing falls.
func TestP62P63P64Calls(t *testing.T) {
	_, j, calls := three(t)
	wantRead(t, j, 0, 99, "abcdefgh")
	wantCalls(t, calls, "0 1 0 3 ", "1 1 0 2 ", "2 1 0 3 ")
	wantRead(t, j, 2, 2, "cd")
	wantCalls(t, calls, "0 1 2 1 ", "1 1 0 1 ")
	wantRead(t, j, 3, 2, "de")
	wantCalls(t, calls, "1 1 0 2 ")
	wantRead(t, j, 4, 9, "efgh")
	wantCalls(t, calls, "1 1 1 1 ", "2 1 0 3 ")
	for _, at := range []int64{0, 3, 8, 9, api.MaxSize, math.MaxInt64} {
		wantRead(t, j, at, 0, "")
		wantRead(t, j, max(at, 8), 9, "")
	}
	wantCalls(t, calls)
	wantWrite(t, j, 1, "123456", api.OK)
	wantCalls(t, calls, "0 2 1 0 12", "1 2 0 0 34", "2 2 0 0 56")
	wantWrite(t, j, 3, "45", api.OK)
	wantCalls(t, calls, "1 2 0 0 45")
	wantWrite(t, j, 7, "8", api.OK)
	wantCalls(t, calls, "2 2 2 0 8")
	wantTold(t, j, api.Op{Do: api.DoSync}, api.Told{})
	wantCalls(t, calls, "0 5 0 0 ", "1 5 0 0 ", "2 5 0 0 ")
	wantNext(t, j, 4, 4, 8)
	wantCalls(t, calls, "1 4 1 0 ", "2 4 0 0 ")
	wantNext(t, j, 8, 8, 8)
	wantCalls(t, calls)
	wantTold(t, j, api.Op{Do: api.DoCut, At: 2}, api.Told{E: api.ErrCan})
	wantCalls(t, calls)
}

// errnos are errors of all kinds that a part may answer.
func errnos() []api.Errno {
	return []api.Errno{api.ErrNil, api.ErrArg, api.ErrLong, api.ErrCan, api.ErrGone, api.ErrSum, api.ErrQuota, -1}
}

// A part that refuses its share of a read ends it: its error is told as it is, with nothing beside it.
func TestP62Refused(t *testing.T) {
	for _, e := range errnos() {
		for at := range 3 {
			l, j, calls := three(t)
			l[at].no[api.DoRead], l[at].data = e, []byte("be")
			wantTold(t, j, api.Op{Do: api.DoRead, N: 99}, api.Told{E: e})
			wantCalls(t, calls, []string{"0 1 0 3 ", "1 1 0 2 ", "2 1 0 3 "}[:at+1]...)
			if b, _ := j.File().ReadAt(0, 99); len(b) != 0 {
				t.Errorf("%q is told beside an error", b)
			}
			for i, text := range []string{"abc", "de", "fgh"} { // each alone
				want := api.Told{Data: []byte(text)}
				if i == at {
					want = api.Told{E: e}
				}
				wantTold(t, j, api.Op{Do: api.DoRead, At: []int64{0, 3, 5}[i], N: len(text)}, want)
			}
		}
	}
	l, j, _ := three(t)
	l[1].no[api.DoRead], l[2].no[api.DoRead] = api.ErrSum, api.ErrGone // the first one is told
	wantTold(t, j, api.Op{Do: api.DoRead, At: 1, N: 7}, api.Told{E: api.ErrSum})
	wantTold(t, j, api.Op{Do: api.DoRead, At: 5, N: 1}, api.Told{E: api.ErrGone})
}

// A part that refuses its share of a write ends it: what was written to the parts ahead stays, and those behind are not called.
func TestP63Refused(t *testing.T) {
	for _, e := range errnos() {
		for at := range 3 {
			l, j, calls := three(t)
			l[at].no[api.DoWrite] = e
			wantWrite(t, j, 1, "123456", e)
			wantCalls(t, calls, []string{"0 2 1 0 12", "1 2 0 0 34", "2 2 0 0 56"}[:at+1]...)
			wantRead(t, j, 0, 99, []string{"abcdefgh", "a12defgh", "a1234fgh"}[at])
			for i := range 3 {
				wantSize(t, l[i].all, []int64{3, 2, 3}[i])
			}
			l[at].no[api.DoWrite] = api.OK
			wantWrite(t, j, 1, "123456", api.OK)
			wantRead(t, j, 0, 99, "a123456h")
		}
	}
	l, j, _ := three(t)
	l[0].no[api.DoWrite], l[1].no[api.DoWrite], l[2].no[api.DoWrite] = api.ErrSum, api.ErrQuota, api.ErrGone
	wantWrite(t, j, 0, "12345678", api.ErrSum)
	wantWrite(t, j, 3, "123", api.ErrQuota)
	wantRead(t, j, 0, 99, "abcdefgh")
}

// A part whose bytes are held in full refuses what it can't hold; the parts ahead of it have theirs.
func TestP63HeldBytes(t *testing.T) {
	full := sized(t, api.MaxData+2)
	for at := int64(0); at < api.MaxData; at += api.MaxText {
		wantTold(t, full, api.Op{Do: api.DoWrite, At: at + 2, B: make([]byte, api.MaxText)}, api.Told{})
	}
	a := newFile(t, "abc", 15)
	j := newJoin(t, a, full)
	wantWrite(t, j, 2, "xyz", api.ErrLong)
	wantRead(t, j, 0, 5, "abx\x00\x00")
	wantNext(t, j, 0, 0, 3)
	wantNext(t, j, 3, 5, api.MaxData+5)
}

// Each part is synced, in order, those of no bytes too, and one that is there twice twice; the first error ends it.
func TestP64Sync(t *testing.T) {
	for _, e := range errnos() {
		for at := range 3 {
			l, j, calls := three(t)
			l[at].no[api.DoSync] = e
			wantTold(t, j, api.Op{Do: api.DoSync}, api.Told{E: e})
			wantCalls(t, calls, []string{"0 5 0 0 ", "1 5 0 0 ", "2 5 0 0 "}[:at+1]...)
			wantRead(t, j, 0, 99, "abcdefgh")
		}
	}
	l, j, _ := three(t)
	l[1].no[api.DoSync], l[2].no[api.DoSync] = api.ErrSum, api.ErrGone
	wantTold(t, j, api.Op{Do: api.DoSync}, api.Told{E: api.ErrSum})
	none := newRefuser(t, "")
	wantTold(t, newJoin(t, none.handle(8), newFile(t, "x", 8), none.handle(15)), api.Op{Do: api.DoSync}, api.Told{})
	if l := none.asked(api.DoSync); len(l) != 2 {
		t.Errorf("a part that is there twice was synced %d times", len(l))
	}
}

// What the join refuses by itself does not come to any part, and is asked ahead of what parts refuse.
func TestP62P63OwnErrorsFirst(t *testing.T) {
	l, j, calls := three(t)
	for _, r := range l {
		r.no = [6]api.Errno{0, api.ErrGone, api.ErrGone, api.ErrGone, 0, api.ErrGone}
	}
	long := make([]byte, api.MaxText+1)
	for _, x := range []struct {
		op api.Op
		e  api.Errno
	}{
		{api.Op{Do: api.DoRead, At: -1}, api.ErrArg}, {api.Op{Do: api.DoRead, N: -1}, api.ErrArg},
		{api.Op{Do: api.DoRead, At: -1, N: api.MaxText + 1}, api.ErrArg}, {api.Op{Do: api.DoRead, N: api.MaxText + 1}, api.ErrLong},
		{api.Op{Do: api.DoWrite, At: -1, B: long}, api.ErrArg}, {api.Op{Do: api.DoWrite, At: -1}, api.ErrArg},
		{api.Op{Do: api.DoWrite, B: long}, api.ErrLong}, {api.Op{Do: api.DoWrite, At: api.MaxSize + 1}, api.ErrLong},
		{api.Op{Do: api.DoWrite, At: math.MaxInt64, B: long[:1]}, api.ErrLong}, {api.Op{Do: api.DoWrite, At: 7, B: long[:2]}, api.ErrLong},
		{api.Op{Do: api.DoWrite, At: 8, B: long[:1]}, api.ErrLong}, {api.Op{Do: api.DoWrite, B: long[:9]}, api.ErrLong},
		{api.Op{Do: api.DoCut, At: 1}, api.ErrCan}, {api.Op{Do: api.DoCut, At: -1}, api.ErrCan}, {api.Op{Do: 6}, api.ErrArg}, {api.Op{Do: -1}, api.ErrArg},
	} {
		wantTold(t, j, x.op, api.Told{E: x.e})
	}
	wantCalls(t, calls)
}

// A part that may not be asked tells a Size of 0: nothing falls to it.
func TestP62NotAsked(t *testing.T) {
	l, j, calls := three(t)
	l[1].no = [6]api.Errno{api.ErrGone, api.ErrGone, api.ErrGone, api.ErrGone, api.ErrGone, api.ErrGone}
	wantSize(t, j, 6)
	wantRead(t, j, 0, 99, "abcfgh")
	wantCalls(t, calls, "0 1 0 3 ", "2 1 0 3 ")
	wantNext(t, j, 1, 1, 6)
	wantCalls(t, calls, "0 4 1 0 ", "2 4 0 0 ")
	wantWrite(t, j, 2, "XY", api.OK)
	wantCalls(t, calls, "0 2 2 0 X", "2 2 0 0 Y")
	wantTold(t, j, api.Op{Do: api.DoSync}, api.Told{E: api.ErrGone})
	wantCalls(t, calls, "0 5 0 0 ", "1 5 0 0 ")
}

// odd is a file that does not obey the file's rules.
type odd struct{ size, from, to int64 }

func (o *odd) Size() int64 { return o.size }

func (o *odd) ReadAt(int64, int) ([]byte, api.Errno) {
	return []byte("much more than was asked for"), api.OK
}

func (o *odd) Next(int64) (from, to int64) { return o.from, o.to }

// Whatever parts tell, the join's Size, reads and stretches stay within the file's rules, and sums do not wrap round.
func TestWithinTheRules(t *testing.T) {
	for _, size := range numbers() {
		o := &odd{}
		h := face.Make(o, nil, nil, o, nil)
		j := newJoin(t, h, newFile(t, "abc", 15), h, h)
		o.size = size
		for n := range int64(api.MaxParts) + 1 {
			want := api.ErrLong
			if n == 0 {
				want = api.ErrArg
			} else if size <= api.MaxSize/n {
				want = api.OK
			}
			if _, e := join.New(many(h, int(n))); e != want {
				t.Errorf("New of %d files of Size %d answers %v", n, size, e)
			}
		}
		whole := int64(api.MaxSize)
		if size <= (api.MaxSize-3)/3 {
			whole = 3*max(size, 0) + 3
		}
		wantSize(t, j, whole)
		for _, from := range numbers() {
			for _, to := range numbers() {
				o.from, o.to = from, to
				for _, p := range []int64{-1, 0, 2, api.MaxSize, math.MaxInt64} {
					y := j.Do(api.Op{Do: api.DoNext, At: p})
					if none := y.N == whole && y.M == whole; !none && !(max(p, 0) <= y.N && y.N < y.M && y.M <= whole) {
						t.Fatalf("Next(%d) tells %d %d of a join of %d, parts %d: %d %d", p, y.N, y.M, whole, size, from, to)
					}
					if b := j.Do(api.Op{Do: api.DoRead, At: max(p, 0), N: 3}).Data; int64(len(b)) != min(3, max(whole-max(p, 0), 0)) {
						t.Fatalf("%d bytes are read of a join of %d, at %d", len(b), whole, p)
					}
				}
			}
		}
	}
}

// short is a file that tells fewer bytes than its Size.
type short struct{ odd }

func (s *short) ReadAt(int64, int) ([]byte, api.Errno) { return []byte("ab"), api.OK }

// No byte is told in a wrong place: a part that tells too few ends the read.
func TestP62ShortPart(t *testing.T) {
	s := &short{odd{size: 5}}
	h := face.Make(s, nil, nil, nil, nil)
	wantRead(t, newJoin(t, h, newFile(t, "xyz", 15)), 0, 9, "ab")
	wantRead(t, newJoin(t, newFile(t, "xyz", 15), h, h), 1, 9, "yzab")
	wantRead(t, newJoin(t, h), 0, 9, "ab")
}
