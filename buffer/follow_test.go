package buffer_test

import (
	"slices"
	"testing"

	"mantle/api"
	"mantle/face"
	"mantle/join"
	"mantle/memory"
	"mantle/tee"
	"mantle/window"
)

// Ops at all bounds, over files of all sixteen sets.
func TestEdges(t *testing.T) {
	ops := edges()
	for can := range uint8(16) {
		for _, most := range []int{0, 1, 10, 40, 41, api.MaxText} {
			d := newDesk(t, 40, 0b10011, can, most)
			for _, op := range ops {
				if d.wantDo(t, op); t.Failed() {
					t.Fatalf("set %d, most %d, Do %d at %d, %d, of %d bytes", can, most, op.Do, op.At, op.N, len(op.B))
				}
			}
			d.wantSeen(t)
		}
	}
}

// Each of the six ops through the buffer and on the file below, over files of all sets: what is told, what is written below, and what is there then.
func TestBelow(t *testing.T) {
	c := chance(9)
	for range 1500 {
		can := uint8(c.below(16))
		d := newDesk(t, int64(c.below(60)), uint16(c.below(1<<16)), can, c.below(50))
		for range 60 {
			op := c.op()
			if c.below(5) == 0 {
				d.wantBeside(t, op)
			} else {
				d.wantDo(t, op)
			}
			if d.wantSeen(t); t.Failed() {
				t.Fatalf("set %d, most %d, Do %d at %d, %d, of %d bytes", can, d.book.most, op.Do, op.At, op.N, len(op.B))
			}
		}
	}
}

// The same of files that refuse some writes: however far a flush comes, what is told through the buffer is as it was.
func TestBelowRefusing(t *testing.T) {
	c := chance(99)
	for range 1500 {
		d := newDesk(t, int64(c.below(60)), uint16(c.below(1<<16)), 15, c.below(50))
		for range 60 {
			op := c.op()
			d.refuseBehind(c.below(6), append(errnos(), api.OK, api.OK)[c.below(10)])
			before := string(d.hand.Do(readOf(0, api.MaxText)).Data)
			took := d.book.takes
			d.wantDo(t, op)
			d.wantSeen(t)
			if d.book.e != api.OK && len(d.book.wrote) > took { // the last one was refused
				wantAll(t, d.hand, before)
			}
			if t.Failed() {
				t.Fatalf("most %d, Do %d at %d, %d, of %d bytes", d.book.most, op.Do, op.At, op.N, len(op.B))
			}
		}
	}
}

// Over a file that nobody else changes all that is told is what that file would tell by itself of the same calls; behind each Sync and each Cut it has just these bytes.
func TestP95Plain(t *testing.T) {
	c := chance(95)
	for range 1500 {
		size, bits, can := int64(c.below(60)), uint16(c.below(1<<16)), uint8(c.below(16))
		s, _ := patterned(size, bits)
		alone, p := patterned(size, bits)
		f, g := fileOf(t, s, can), fileOf(t, alone, can)
		most := c.below(50)
		h := newBuffer(t, f, most)
		for range 60 {
			op := c.op()
			want := g.Do(op)
			switch { // what a buffer can besides, and what it can't
			case op.Do == api.DoNext:
				want = api.Told{E: api.ErrCan}
			case op.Do == api.DoSync && can&api.CanWrite != 0:
				want = api.Told{}
			}
			wantTold(t, h, op, want)
			p.do(can, op)
			wantAll(t, h, string(p.data))
			if want.E == api.OK && (op.Do == api.DoSync || op.Do == api.DoCut) {
				wantAll(t, f, string(p.data))
			}
			if t.Failed() {
				t.Fatalf("set %d, most %d, Do %d at %d, %d, of %d bytes", can, most, op.Do, op.At, op.N, len(op.B))
			}
		}
	}
}

// At any time the file below has the bytes that some of the first writes and cuts make, and lacks of the last ones no more than most bytes.
func TestP95FirstWrites(t *testing.T) {
	c := chance(59)
	for range 800 {
		most := c.below(50)
		s, p := patterned(int64(c.below(60)), uint16(c.below(1<<16)))
		f := fileOf(t, s, 15)
		h := newBuffer(t, f, most)
		states, bytes := []string{string(p.data)}, []int{0} // behind each change, and how many bytes it wrote
		for range 60 {
			op := c.op()
			if h.Do(op).E == api.OK && (op.Do == api.DoWrite && len(op.B) > 0 || op.Do == api.DoCut) {
				p.do(15, op)
				states, bytes = append(states, string(p.data)), append(bytes, len(op.B))
			}
			has, _ := memory.All(f)
			lacks, i := 0, len(states)-1
			for i >= 0 && states[i] != string(has) {
				lacks += bytes[i]
				i--
			}
			if i < 0 || lacks > most {
				t.Fatalf("most %d: the file below has %q, which lacks %d bytes", most, has, lacks)
			}
		}
	}
}

// At most most bytes are gathered, those of writes that lie over one another counted each time: so many are missing below at most, and that many may be.
func TestP95Most(t *testing.T) {
	c := chance(555)
	for range 300 {
		most := c.below(30)
		d := newDesk(t, 40, 0, 15, most)
		full := 0
		for range 60 {
			d.wantDo(t, c.op())
			n := d.book.bytes()
			full = max(full, n)
			if n > most || t.Failed() {
				t.Fatalf("most %d: %d bytes wait", most, n)
			}
		}
		if full == 0 && most > 9 {
			t.Errorf("most %d: nothing was ever gathered", most)
		}
	}
}

// With most 0 each write goes through at once, as it is, and nothing is ever gathered.
func TestP96AtOnce(t *testing.T) {
	c := chance(96)
	for range 500 {
		s, p := patterned(int64(c.below(60)), uint16(c.below(1<<16)))
		r := &refuser{all: fileOf(t, s, 15)}
		h := newBuffer(t, r.handle(15), 0)
		for range 60 {
			op := c.op()
			wantTold(t, h, op, p.do(11, op))
			p.wantState(t, s)
			if cannot(11, op) == api.OK && refuses(op) == api.OK && op.Do != api.DoSize && (op.Do != api.DoWrite || len(op.B) > 0) {
				asked := api.Op{Do: op.Do, At: op.At, N: op.N, B: op.B}
				switch op.Do {
				case api.DoRead:
					asked.B = nil
				case api.DoWrite:
					asked.N = 0
				case api.DoCut:
					asked.N, asked.B = 0, nil
				case api.DoSync:
					asked = api.Op{Do: api.DoSync}
				}
				r.wantCalls(t, call(asked))
			}
			if r.wantCalls(t); t.Failed() {
				t.Fatalf("Do %d at %d, %d, of %d bytes", op.Do, op.At, op.N, len(op.B))
			}
		}
	}
	r, h := kept(t, 0)
	for _, e := range errnos() {
		r.no[api.DoWrite] = e
		wantWrite(t, h, 3, "x", e)
		r.wantCalls(t, "2 3 0 x")
		wantAll(t, h, "0123456789")
		r.calls = nil
	}
}

// Two buffers over one file: what is gathered in one is not seen through the other, what was flushed is, below what the other one has gathered.
func TestTwoBuffers(t *testing.T) {
	f := newFile(t, "0123456789", 15)
	g, h := newBuffer(t, f, 6), newBuffer(t, f, 6)
	wantWrite(t, g, 1, "abc", api.OK)
	wantWrite(t, h, 3, "XYZ", api.OK)
	wantAll(t, g, "0abc456789")
	wantAll(t, h, "012XYZ6789")
	wantSync(t, g, api.OK)
	wantAll(t, f, "0abc456789")
	wantAll(t, h, "0abXYZ6789")
	wantWrite(t, g, 9, "##", api.OK) // through at once: it ends behind Size
	wantAll(t, h, "0abXYZ678##")
	wantCut(t, g, 4, api.OK)
	wantAll(t, f, "0abc")
	wantAll(t, g, "0abc")
	wantAll(t, h, "0abXYZ")
	wantSync(t, h, api.OK)
	wantAll(t, f, "0abXYZ")
	wantAll(t, g, "0abXYZ")
}

// A buffer over a buffer: a flush of the upper one is gathered below, a Sync goes through both, and so does a Cut.
func TestBufferOverBuffer(t *testing.T) {
	r := newRefuser(t, "0123456789")
	low := newBuffer(t, r.handle(15), 6)
	high := newBuffer(t, low, 4)
	wantWrite(t, high, 0, "abc", api.OK)
	wantWrite(t, high, 5, "de", api.OK)
	wantAll(t, high, "abc34de789")
	wantAll(t, low, "abc3456789")
	wantAll(t, r.all, "0123456789")
	wantWrite(t, high, 2, "fgh", api.OK)
	wantAll(t, high, "abfghde789")
	wantAll(t, low, "abc34de789")
	wantAll(t, r.all, "0123456789")
	r.calls = nil
	wantSync(t, high, api.OK)
	r.wantCalls(t, "2 0 0 abc", "2 5 0 de", "2 2 0 fgh", "5 0 0 ")
	wantAll(t, r.all, "abfghde789")
	wantWrite(t, high, 0, "z", api.OK)
	wantWrite(t, low, 9, "y", api.OK) // beside the upper one
	wantAll(t, high, "zbfghde78y")
	r.calls = nil
	wantCut(t, high, 3, api.OK)
	r.wantCalls(t, "2 9 0 y", "2 0 0 z", "3 3 0 ")
	wantAll(t, high, "zbf")
	wantWrite(t, high, 0, "1", api.OK)
	wantSync(t, high.Only(api.CanSync), api.OK)
	wantAll(t, r.all, "1bf")
}

// Buffers over buffers, many of them: what is told through the uppermost one is what a plain list tells.
func TestDeep(t *testing.T) {
	c := chance(999)
	s, p := patterned(40, 0b1100101)
	h := fileOf(t, s, 15)
	for i := range 40 {
		h = newBuffer(t, h, i*7%23)
	}
	for range 600 {
		op := c.op()
		wantTold(t, h, op, p.do(11, op))
		wantAll(t, h, string(p.data))
		if op.Do == api.DoSync || op.Do == api.DoCut && refuses(op) == api.OK {
			p.wantState(t, s)
		}
		if t.Failed() {
			t.Fatalf("Do %d at %d, %d, of %d bytes", op.Do, op.At, op.N, len(op.B))
		}
	}
}

// Over wrappers of the layers below: over a join, whose parts may refuse halfway, over a window, which does not grow behind its end, and below a tee.
func TestOverWrappers(t *testing.T) {
	a, b := newRefuser(t, "abc"), newRefuser(t, "def")
	j, e := join.New([]*face.Handle{a.handle(15), b.handle(15)})
	if e != api.OK {
		t.Fatal(e)
	}
	h := newBuffer(t, j, 6)
	wantCan(t, h, 9)
	wantWrite(t, h, 1, "1234", api.OK)
	b.no[api.DoWrite] = api.ErrQuota
	wantSync(t, h, api.ErrQuota)
	wantAll(t, h, "a1234f")
	wantAll(t, j, "a12def")
	b.no[api.DoWrite] = api.OK
	wantWrite(t, h, 5, "xy", api.ErrLong) // a join does not grow; the flush was taken
	wantAll(t, j, "a1234f")
	w, e := window.New(newFile(t, "0123456789", 15), 2, 5)
	if e != api.OK {
		t.Fatal(e)
	}
	h = newBuffer(t, w, 3)
	wantWrite(t, h, 3, "XY", api.OK)
	wantAll(t, h, "234XY")
	wantWrite(t, h, 4, "ab", api.ErrLong)
	wantAll(t, h, "234XY")
	wantAll(t, w, "234XY")
	f := newFile(t, "abcdef", 15)
	low := newBuffer(t, f, 9)
	both, e := tee.New(newFile(t, "abcdef", 15), low)
	if e != api.OK {
		t.Fatal(e)
	}
	wantWrite(t, both, 0, "X", api.OK)
	wantAll(t, f, "abcdef")
	wantSync(t, both, api.OK)
	wantAll(t, f, "Xbcdef")
}

// A log below tells which calls come to the file: none of them for what is gathered.
func TestWatchedBelow(t *testing.T) {
	w, log := tee.Watched(newFile(t, "abcdef", 15))
	h := newBuffer(t, w, 4)
	wantWrite(t, h, 0, "12", api.OK)
	wantWrite(t, h, 2, "34", api.OK)
	wantWrite(t, h, 4, "5", api.OK)
	wantSync(t, h, api.OK)
	var did []string
	for _, op := range log.Ops() {
		if op.Do != api.DoSize {
			did = append(did, call(op))
		}
	}
	if want := []string{"2 0 0 12", "2 2 0 34", "2 4 0 5", "5 0 0 "}; !slices.Equal(did, want) {
		t.Errorf("the file was asked %q, want %q", did, want)
	}
}
