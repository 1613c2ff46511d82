package pack_test

import (
	"bytes"
	"math"
	"strconv"
	"sync"
	"testing"

	"mantle/api"
	"mantle/face"
	"mantle/span"
)

func itoa(n int) string { return strconv.Itoa(n) }

func wantTold(t *testing.T, h *face.Handle, op api.Op, want api.Told) {
	t.Helper()
	got := h.Do(op)
	if got.E != want.E || got.N != want.N || got.M != want.M || !bytes.Equal(got.Data, want.Data) {
		t.Errorf("Do %d at %d, %d, of %d bytes tells %v %d %d %.80q, want %v %d %d %.80q", op.Do, op.At, op.N, len(op.B), got.E, got.N, got.M, got.Data, want.E, want.N, want.M, want.Data)
	}
}

// wantAll holds all bytes of a file, and its Size.
func wantAll(t *testing.T, h *face.Handle, want string) {
	t.Helper()
	wantTold(t, h, api.Op{Do: api.DoRead, N: api.MaxText}, api.Told{Data: []byte(want)})
	wantTold(t, h, api.Op{Do: api.DoSize}, api.Told{N: int64(len(want))})
}

// plain is what the file's rules tell of op through a file of these bytes that can be read alone.
func plain(b []byte, op api.Op) (told api.Told) {
	switch op.Do {
	case api.DoSize:
		told.N = int64(len(b))
	case api.DoRead:
		switch {
		case op.At < 0 || op.N < 0:
			told.E = api.ErrArg
		case op.N > api.MaxText:
			told.E = api.ErrLong
		}
		for i := op.At; told.E == api.OK && i < int64(len(b)) && i-op.At < int64(op.N); i++ {
			told.Data = append(told.Data, b[i])
		}
	case api.DoWrite, api.DoCut, api.DoNext, api.DoSync:
		told.E = api.ErrCan
	default:
		told.E = api.ErrArg
	}
	return told
}

// Each op at places and lengths at every bound, and wrong ones.
func TestP113Ops(t *testing.T) {
	for _, size := range []int{0, 1, 200, api.MaxText - 1, api.MaxText} {
		b := counted(size, 251)
		p := newPack(t, newFile(t, packed(b), 15))
		n := int64(size)
		for _, at := range []int64{math.MinInt64, -api.MaxSize, -1, 0, 1, 2, n - 2, n - 1, n, n + 1, n + 2, api.MaxText, api.MaxSize, api.MaxSize + 1, math.MaxInt64 - 1, math.MaxInt64} {
			for _, n := range []int{math.MinInt, -1, 0, 1, 2, size - 1, size, size + 1, api.MaxText - 1, api.MaxText, api.MaxText + 1, math.MaxInt} {
				for do := int8(-1); do < 7; do++ {
					op := api.Op{Do: do, At: at, N: n, B: []byte("x")}
					wantTold(t, p, op, plain(b, op))
				}
			}
		}
		for _, do := range []int8{-128, 127} {
			wantTold(t, p, api.Op{Do: do}, api.Told{E: api.ErrArg})
		}
		wantAll(t, p, string(b))
	}
}

// The file itself tells nothing beside an error.
func TestP113Errors(t *testing.T) {
	f := newPack(t, newFile(t, packed([]byte("abc")), 15)).File()
	for _, x := range []struct {
		at int64
		n  int
		e  api.Errno
	}{{-1, 1, api.ErrArg}, {0, -1, api.ErrArg}, {-1, api.MaxText + 1, api.ErrArg}, {0, api.MaxText + 1, api.ErrLong}, {9, api.MaxText + 1, api.ErrLong}} {
		if b, e := f.ReadAt(x.at, x.n); b != nil || e != x.e {
			t.Errorf("a read at %d of %d tells %q, %v", x.at, x.n, b, e)
		}
	}
}

// What becomes of the file below later makes no difference: writes, cuts and holes. It isn't asked any more.
func TestP113Later(t *testing.T) {
	text := "banana banana, banana"
	s := span.New(packed([]byte(text)))
	h := fileOf(t, s, 15)
	p := newPack(t, h)
	for _, change := range []func(){
		func() { h.Do(api.Op{Do: api.DoWrite, At: 5, B: []byte("xyz")}) },
		func() { h.Do(api.Op{Do: api.DoWrite, At: 2, B: []byte{9, 9}}) },
		func() { s.Punch(0, 9) },
		func() { h.Do(api.Op{Do: api.DoCut, At: 7}) },
		func() { h.Do(api.Op{Do: api.DoCut}) },
		func() { h.Do(api.Op{Do: api.DoCut, At: api.MaxSize}) },
		func() { h.Do(api.Op{Do: api.DoCut}); h.Do(api.Op{Do: api.DoWrite, B: packed([]byte("other"))}) },
	} {
		change()
		wantAll(t, p, text)
		wantTold(t, p, api.Op{Do: api.DoRead, At: 7, N: 6}, api.Told{Data: []byte("banana")})
	}
	wantAll(t, newPack(t, h), "other")
	wantAll(t, p, text)
	f := notedOf(packed([]byte(text)))
	p = newPack(t, f.handle(15))
	f.calls = nil
	f.refuse(0, api.ErrGone)
	f.size = func() int64 { return 0 }
	wantAll(t, p, text)
	f.wantCalls(t)
}

// The memory in which the file below tells its bytes is neither changed nor kept; it may be the same each time.
func TestP113BelowsMemory(t *testing.T) {
	for _, n := range []int{3, 1000, 40000} {
		b := ones(n)
		for i := 5; i < len(b); i += 2 {
			b[i] = byte(i)
		}
		was, want := bytes.Clone(b), make([]byte, n)
		for i := range want {
			want[i] = b[5+2*i]
		}
		p := newPack(t, notedOf(b).handle(0))
		if !bytes.Equal(b, was) {
			t.Error("New changes the file's bytes")
		}
		clear(b)
		wantAll(t, p, string(want))
		f := notedOf(was)
		read, same := f.read, make([]byte, api.MaxText)
		f.read = func(at int64, n int) ([]byte, api.Errno) {
			b, e := read(at, n)
			clear(same)
			return same[:copy(same, b)], e
		}
		p = newPack(t, f.handle(0))
		clear(same)
		wantAll(t, p, string(want))
	}
}

// What is read is new memory each time, with the room behind it.
func TestP113NewMemory(t *testing.T) {
	text := string(counted(300, 7))
	p := newPack(t, newFile(t, packed([]byte(text)), 15))
	for at := range 302 {
		for _, n := range []int{0, 1, 5, 299, 300, 999} {
			one, _ := p.File().ReadAt(int64(at), n)
			two, _ := p.File().ReadAt(int64(at), n)
			clear(one[:cap(one)])
			_ = append(one, "xyz"...)
			if want := text[min(at, 300):min(at+n, 300)]; string(two) != want {
				t.Errorf("two answers share memory: %q", two)
			}
			clear(two[:cap(two)])
			wantAll(t, p, text)
		}
	}
}

// Many may read it at once.
func TestP113ManyReaders(t *testing.T) {
	text := counted(5000, 253)
	p := newPack(t, newFile(t, packed(text), 0))
	var g sync.WaitGroup
	for k := range 8 {
		g.Go(func() {
			for at := k; at < 5000; at += 97 {
				op := api.Op{Do: api.DoRead, At: int64(at), N: 50 * k}
				wantTold(t, p, op, plain(text, op))
			}
		})
	}
	g.Wait()
}
