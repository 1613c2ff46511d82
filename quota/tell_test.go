package quota_test

import (
	"bytes"
	"testing"

	"mantle/api"
	"mantle/face"
	"mantle/span"
)

// asks are ops that change nothing, for a file of some 40 bytes.
func asks() (l []api.Op) {
	for _, op := range edges() {
		if !changes(op) {
			l = append(l, op)
		}
	}
	for at := int64(-2); at < 45; at++ {
		l = append(l, api.Op{Do: api.DoNext, At: at})
		for n := range 12 {
			l = append(l, api.Op{Do: api.DoRead, At: at, N: n})
		}
	}
	return append(l, api.Op{Do: api.DoSize}, api.Op{Do: api.DoSync})
}

// Size, ReadAt, Next and Sync are the file's, of files with all kinds of holes, whatever is left.
func TestP142Tells(t *testing.T) {
	for _, size := range []int64{0, 1, 39, 40, 41, api.MaxSize} {
		for _, bits := range []uint16{0, 1, 2, 0x5555, 0xa5c3, 0xffff} {
			for _, most := range []int64{0, 1, api.MaxSize} {
				s := patterned(size, bits)
				plain := fileOf(t, s.Twin(), 15)
				p := newPurse(t, most)
				h := p.over(t, fileOf(t, s, 15))
				for _, op := range asks() {
					wantTold(t, h, op, plain.Do(op))
				}
				if p.wantLeft(t, most); t.Failed() {
					t.Fatalf("a file of %d bytes, %x, %d left", size, bits, most)
				}
			}
		}
	}
}

// Each of them is one call to the file, with the same numbers; a read of none, and one behind the end, too.
func TestP142Calls(t *testing.T) {
	below, p, h := watched(t, patterned(40, 0x5555), 0)
	for _, op := range asks() {
		h.Do(op)
		switch {
		case cannot(15, op) != api.OK || refuses(op) != api.OK:
			below.wantUnasked(t)
		case op.Do == api.DoSize:
			if below.sizes == 0 {
				t.Error("Size was not asked")
			}
			below.wantCalls(t)
		case op.Do == api.DoRead:
			below.wantCalls(t, call(api.Op{Do: api.DoRead, At: op.At, N: op.N}))
		case op.Do == api.DoNext:
			below.wantCalls(t, call(api.Op{Do: api.DoNext, At: op.At}))
		case op.Do == api.DoSync:
			below.wantCalls(t, call(api.Op{Do: api.DoSync}))
		}
	}
	p.wantLeft(t, 0)
}

// What the file refuses is refused by its error, and no data stands beside it.
func TestP142ErrorsOfTheFile(t *testing.T) {
	for _, e := range errnos() {
		below, p, h := watched(t, span.New([]byte("abc")), 5)
		below.refuseAll(e)
		below.data = []byte("abc")
		for _, n := range []int{0, 1, 3, api.MaxText} {
			wantTold(t, h, api.Op{Do: api.DoRead, N: n}, api.Told{E: e})
			if b, got := h.File().ReadAt(0, n); b != nil || got != e {
				t.Errorf("a refused read answers %q, %v, want %v", b, got, e)
			}
		}
		wantTold(t, h, api.Op{Do: api.DoSync}, api.Told{E: e})
		wantTold(t, h, api.Op{Do: api.DoRead, At: -1}, api.Told{E: api.ErrArg})
		wantTold(t, h, api.Op{Do: api.DoRead, N: api.MaxText + 1}, api.Told{E: api.ErrLong})
		p.wantLeft(t, 5)
		below.refuseAll(api.OK)
		wantTold(t, h, api.Op{Do: api.DoRead, N: 9}, api.Told{Data: []byte("abc")})
	}
}

// Only the read, or only the Sync, is refused: the other one is the file's own.
func TestP142ErrorsApart(t *testing.T) {
	below, _, h := watched(t, span.New([]byte("abc")), 5)
	below.no[api.DoRead] = api.ErrSum
	wantTold(t, h, api.Op{Do: api.DoSync}, api.Told{})
	below.no = [6]api.Errno{api.DoSync: api.ErrGone}
	wantTold(t, h, api.Op{Do: api.DoRead, N: 2}, api.Told{Data: []byte("ab")})
	wantTold(t, h, api.Op{Do: api.DoSync}, api.Told{E: api.ErrGone})
}

// What is done to the file by itself is told, and costs nothing.
func TestP142ChangedBeside(t *testing.T) {
	for seed := range chance(50) {
		c := seed
		s, like := patterned(20, 0x5555), patterned(20, 0x5555)
		file, plain := fileOf(t, s, 15), fileOf(t, like, 15)
		p := newPurse(t, int64(c.below(3)))
		left := p.Left()
		h := p.over(t, file)
		for range 50 {
			op := c.op()
			wantTold(t, file, op, plain.Do(op))
			for do := range int8(6) {
				if ask := c.op(); do != api.DoWrite && do != api.DoCut {
					ask.Do = do
					wantTold(t, h, ask, (&book{}).do(plain, ask))
				}
			}
			if p.wantLeft(t, left); t.Failed() {
				t.Fatalf("seed %d: behind %v", seed, op)
			}
		}
	}
}

// A file that tells more than it is asked for is told no farther than that; one that tells fewer, as it is.
func TestP142AtMostN(t *testing.T) {
	o := &odd{size: func() int64 { return 9 }, read: func(int64, int) ([]byte, api.Errno) { return []byte("abcde"), api.OK }}
	h := newPurse(t, 0).over(t, face.Make(o, nil, nil, nil, nil))
	for n := range 9 {
		b, e := h.File().ReadAt(3, n)
		if e != api.OK || string(b) != "abcde"[:min(n, 5)] {
			t.Errorf("a read of %d bytes answers %q, %v", n, b, e)
		}
	}
}

// scar writes over a list, and over the room behind its end.
func scar(b []byte) {
	all := b[:cap(b)]
	for i := range all {
		all[i] = '!'
	}
}

// What is read is new memory each time, with its spare room, also of a file that hands out its own.
func TestR3ReadsAreNew(t *testing.T) {
	room := []byte("abcdefgh")
	o := &odd{size: func() int64 { return 5 }, read: func(at int64, n int) ([]byte, api.Errno) { return room[:5], api.OK }}
	own := newPurse(t, 0).over(t, face.Make(o, nil, nil, nil, nil))
	s := span.New([]byte("abcde"))
	for _, h := range []*face.Handle{own, newPurse(t, 0).over(t, fileOf(t, s, 15)), newPurse(t, 9).over(t, own)} {
		for n := range 7 {
			one, _ := h.File().ReadAt(0, n)
			two, _ := h.File().ReadAt(0, n)
			scar(one)
			if string(two) != "abcde"[:min(n, 5)] {
				t.Errorf("the second of two reads of %d is %q", n, two)
			}
			_ = append(two, "????????"...)
			if string(room) != "abcdefgh" || !bytes.Equal(s.Get(0, 9), []byte("abcde")) {
				t.Fatalf("who writes into what was read of %d changes the file: %q, %q", n, room, s.Get(0, 9))
			}
		}
	}
}
