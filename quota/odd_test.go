package quota_test

import (
	"bytes"
	"math"
	"math/big"
	"testing"

	"mantle/api"
	"mantle/face"
	"mantle/span"
)

// both are a write and a cut that want five bytes of a file of three.
func both() []api.Op {
	return []api.Op{{Do: api.DoWrite, At: 3, B: []byte("12345")}, {Do: api.DoCut, At: 8}}
}

// What the file refuses by itself is refused by its error, and what is left stays.
func TestP143FileRefuses(t *testing.T) {
	for _, e := range errnos() {
		for _, most := range []int64{0, 4, 5, 6, api.MaxSize} {
			below, p, h := watched(t, span.New([]byte("abc")), most)
			below.refuseAll(e)
			l := append(both(), api.Op{Do: api.DoWrite, At: 1, B: []byte("x")}, api.Op{Do: api.DoWrite, At: 7}, api.Op{Do: api.DoCut, At: 1}, api.Op{Do: api.DoCut, At: 3})
			for _, op := range l {
				below.calls = nil
				if wants(3, op) > most {
					wantTold(t, h, op, api.Told{E: api.ErrQuota})
					below.wantCalls(t)
				} else {
					wantTold(t, h, op, api.Told{E: e})
					below.wantCalls(t, call(op))
				}
				p.wantLeft(t, most)
			}
			below.refuseAll(api.OK)
			wantAll(t, "abc", h)
			if most >= 5 {
				wantWrite(t, h, 3, "12345", api.OK)
				p.wantLeft(t, most-5)
			}
		}
	}
}

// A file that is full refuses by itself, while much is left.
func TestP143FullOfBytes(t *testing.T) {
	p := newPurse(t, api.MaxSize)
	h := p.over(t, newFile(t, letters(api.MaxData), 15))
	wantWrite(t, h, api.MaxData, "x", api.ErrLong)
	p.wantLeft(t, api.MaxSize)
	wantCut(t, h, api.MaxData+5, api.OK)
	wantCut(t, h, api.MaxData-5, api.OK)
	p.wantLeft(t, api.MaxSize+5)
	wantWrite(t, h, api.MaxData, "x", api.OK)
	p.wantLeft(t, api.MaxSize-1)
}

// A file that can be cut and not written, and one that can be written and not cut.
func TestP143OneOfTheTwo(t *testing.T) {
	p := newPurse(t, 3)
	h := p.over(t, newFile(t, "abc", api.CanCut))
	wantWrite(t, h, 0, "x", api.ErrCan)
	wantCut(t, h, 7, api.ErrQuota)
	wantCut(t, h, 6, api.OK)
	p.wantLeft(t, 0)
	h = p.over(t, newFile(t, "abc", api.CanWrite))
	wantCut(t, h, 0, api.ErrCan)
	wantWrite(t, h, 3, "x", api.ErrQuota)
	wantWrite(t, h, 0, "xyz", api.OK)
	p.wantLeft(t, 0)
}

// A refusal leaves what is left as it is, also where the file got longer or shorter nevertheless.
func TestP143RefusedAndChanged(t *testing.T) {
	for _, then := range []int64{0, 2, 3, 4, 8, 100} {
		for _, op := range both() {
			size, e := int64(3), api.ErrSum
			p := newPurse(t, 7)
			h := p.over(t, jumper(&size, &then, &e).handle())
			wantTold(t, h, op, api.Told{E: api.ErrSum})
			p.wantLeft(t, 7)
		}
	}
}

// What counts is what the file's Size got greater or less by, not what was wanted.
func TestP143AsMuchAsItGot(t *testing.T) {
	for then := range int64(20) {
		for _, op := range both() {
			size, e := int64(3), api.OK
			p := newPurse(t, 20)
			h := p.over(t, jumper(&size, &then, &e).handle())
			wantTold(t, h, op, api.Told{})
			p.wantLeft(t, 20-(then-3))
		}
		for _, op := range []api.Op{{Do: api.DoWrite, At: 1, B: []byte("x")}, {Do: api.DoWrite, At: 9}, {Do: api.DoCut, At: 3}, {Do: api.DoCut, At: 1}} {
			size, e := int64(3), api.OK
			p := newPurse(t, 0)
			h := p.over(t, jumper(&size, &then, &e).handle())
			wantTold(t, h, op, api.Told{})
			p.wantLeft(t, 3-then)
		}
	}
}

// Where a file got longer than it was asked to, and less than nothing is left, what wants nothing is taken, and all else refused.
func TestP143LessThanNothing(t *testing.T) {
	size, then, e := int64(3), int64(30), api.OK
	p := newPurse(t, 5)
	h := p.over(t, jumper(&size, &then, &e).handle())
	s := span.New([]byte("abc"))
	other := p.over(t, fileOf(t, s, 15))
	wantCut(t, h, 4, api.OK)
	p.wantLeft(t, -22)
	wantWrite(t, other, 3, "x", api.ErrQuota)
	wantCut(t, other, 4, api.ErrQuota)
	wantWrite(t, other, 2, "x", api.OK)
	wantWrite(t, other, 9, "", api.OK)
	wantCut(t, other, 3, api.OK)
	p.wantLeft(t, -22)
	wantCut(t, other, 2, api.OK)
	p.wantLeft(t, -21)
	wantWrite(t, other, 2, "x", api.ErrQuota)
	then = 3
	wantCut(t, h, 3, api.OK)
	p.wantLeft(t, 6)
	wantAll(t, "ab", other)
}

// whole is n as a number of any length.
func whole(n int64) *big.Int { return big.NewInt(n) }

// brought is n brought into what an int64 holds.
func brought(n *big.Int) int64 {
	if n.IsInt64() {
		return n.Int64()
	}
	if n.Sign() < 0 {
		return math.MinInt64
	}
	return math.MaxInt64
}

// Files that tell Sizes of all kinds: what is reckoned with them does not wrap round.
func TestP143AnySizes(t *testing.T) {
	l := bounds()
	ops := []api.Op{{Do: api.DoWrite, At: 5, B: []byte("x")}, {Do: api.DoWrite, At: api.MaxSize - 1, B: []byte("x")}, {Do: api.DoWrite, At: 5}, {Do: api.DoCut}, {Do: api.DoCut, At: 1}, {Do: api.DoCut, At: api.MaxSize}}
	for _, size := range l {
		for _, then := range l {
			for _, most := range []int64{0, 1, api.MaxSize} {
				for _, op := range ops {
					wantJump(t, size, then, most, op)
				}
			}
		}
	}
}

// wantJump does op to a file that tells size ahead of it, and then behind it; and, where it is taken, once more, from size again.
func wantJump(t *testing.T, size, then, most int64, op api.Op) {
	t.Helper()
	now, e := size, api.OK
	p := newPurse(t, most)
	h := p.over(t, jumper(&now, &then, &e).handle())
	wanted := new(big.Int).Sub(whole(op.At+int64(len(op.B))), whole(size))
	if op.Do == api.DoWrite && len(op.B) == 0 {
		wanted = whole(0)
	}
	left := most
	for range 2 {
		now = size
		if wanted.Sign() > 0 && wanted.Cmp(whole(left)) > 0 {
			wantTold(t, h, op, api.Told{E: api.ErrQuota})
			p.wantLeft(t, left)
			if now != size {
				t.Error("the file was changed")
			}
		} else {
			grown := brought(new(big.Int).Sub(whole(then), whole(size)))
			left = brought(new(big.Int).Sub(whole(left), whole(grown)))
			wantTold(t, h, op, api.Told{})
			p.wantLeft(t, left)
		}
	}
	if t.Failed() {
		t.Fatalf("from %d to %d, %d left, %v", size, then, most, op)
	}
}

// A file that is changed beside the handle: its Size is asked at each call, and what was done beside costs nothing.
func TestP143ChangedBeside(t *testing.T) {
	for seed := range chance(60) {
		c := seed
		d := newDesk(t, patterned(int64(c.below(30)), 0xa5c3), 15, int64(c.below(40)))
		for range 60 {
			if op := c.op(); c.below(3) == 0 {
				d.below.all.Do(op)
				d.plain.Do(op)
				d.purse.wantLeft(t, d.book.left)
			}
			d.want(t, c.op())
		}
	}
}

// What is left becomes less when the file has answered, not ahead: so it is told to who asks meanwhile.
func TestP143LeftMeanwhile(t *testing.T) {
	below, p, h := watched(t, span.New([]byte("abc")), 7)
	asked := 0
	below.first = func() {
		asked++
		p.wantLeft(t, 7)
	}
	wantWrite(t, h, 5, "x", api.OK)
	p.wantLeft(t, 4)
	below.first = func() {
		asked++
		p.wantLeft(t, 4)
	}
	wantCut(t, h, 1, api.OK)
	p.wantLeft(t, 9)
	if asked != 2 {
		t.Errorf("the file was asked %d times", asked)
	}
}

// While a call is under way files of the same purse get longer by all that an int64 holds: even so nothing wraps round, and nothing more is to be had.
func TestP143AnySizesMeanwhile(t *testing.T) {
	below, p, h := watched(t, span.New([]byte("abc")), 10)
	size, then, e := int64(0), int64(math.MaxInt64), api.OK
	jumps := p.over(t, jumper(&size, &then, &e).handle())
	other := p.over(t, newFile(t, "abc", 15))
	below.first = func() {
		for range 3 {
			size = 0
			wantCut(t, jumps, 0, api.OK)
		}
		p.wantLeft(t, math.MinInt64)
		wantWrite(t, other, 3, "x", api.ErrQuota)
		wantWrite(t, other, 2, "x", api.OK)
	}
	wantWrite(t, h, 3, "12345", api.OK)
	p.wantLeft(t, math.MinInt64)
	wantAll(t, "abx", other)
}

// What is handed in is not changed, with the room behind its end, by a file that writes into what it gets; nor kept by one that keeps it.
func TestR3WritesAreLeft(t *testing.T) {
	for n := range 9 {
		var kept [][]byte
		size := int64(0)
		o := &odd{size: func() int64 { return size }, write: func(at int64, b []byte) api.Errno {
			kept = append(kept, bytes.Clone(b))
			scar(b)
			_ = append(b, "????????"...)
			return api.OK
		}}
		room := []byte("abcdefgh")
		h := newPurse(t, 99).over(t, face.Make(o, o, nil, nil, nil))
		if e := h.File().(api.Writer).WriteAt(0, room[:n]); e != api.OK {
			t.Error(e)
		}
		if string(room) != "abcdefgh" || len(kept) != 1 || string(kept[0]) != "abcdefgh"[:n] {
			t.Errorf("of %d bytes %q came to the file, and the caller's are %q", n, kept, room)
		}
		keep := &odd{size: o.size, write: func(at int64, b []byte) api.Errno {
			kept = append(kept, b)
			return api.OK
		}}
		h = newPurse(t, 99).over(t, face.Make(keep, keep, nil, nil, nil))
		h.File().(api.Writer).WriteAt(0, room[:n])
		clear(room)
		if string(kept[1]) != "abcdefgh"[:n] {
			t.Errorf("who writes into what was written changes the file: %q", kept[1])
		}
	}
}

// Refused writes leave what is handed in as it is, too.
func TestR3RefusedWrites(t *testing.T) {
	room := []byte("abcdefgh")
	h := newPurse(t, 2).over(t, newFile(t, "", 15))
	for _, at := range []int64{-1, 0, 5, api.MaxSize} {
		h.File().(api.Writer).WriteAt(at, room[:4])
	}
	if string(room) != "abcdefgh" {
		t.Errorf("the caller's bytes are %q", room)
	}
}
