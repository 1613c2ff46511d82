package memory_test

import (
	"math"
	"testing"

	"mantle/api"
	"mantle/face"
	"mantle/span"
)

// model is a file by the file's rules, a byte at a time, but for those that lie behind top: these are holes.
type model struct {
	size  int64
	data  []byte
	wrote []bool
}

const top = 1 << 8

func newModel() *model { return &model{data: make([]byte, top), wrote: make([]bool, top)} }

func (m *model) read(at int64, n int) (data []byte) {
	for ; n > 0 && at < m.size; n-- {
		if at < top {
			data = append(data, m.data[at])
		} else {
			data = append(data, 0)
		}
		at++
	}
	return data
}

func (m *model) cut(size int64) {
	for i := size; i < min(m.size, top); i++ {
		m.data[i], m.wrote[i] = 0, false
	}
	m.size = size
}

func (m *model) write(at int64, b []byte) {
	m.size = max(m.size, at+int64(len(b)))
	for i, x := range b {
		m.data[int(at)+i], m.wrote[int(at)+i] = x, true
	}
}

func (m *model) next(at int64) (from, to int64) {
	for from = max(at, 0); from < min(m.size, top); from++ {
		if m.wrote[from] {
			for to = from; to < min(m.size, top) && m.wrote[to]; to++ {
			}
			return from, to
		}
	}
	return m.size, m.size
}

// refuses is the error that the file's rules answer ahead of all else.
func refuses(op api.Op) api.Errno {
	end := op.At + int64(len(op.B)) // none of these tests makes it wrap round but where At is above MaxSize
	switch {
	case op.Do == api.DoRead && (op.At < 0 || op.N < 0), op.Do == api.DoWrite && op.At < 0, op.Do == api.DoCut && op.At < 0:
		return api.ErrArg
	case op.Do == api.DoRead && op.N > api.MaxText, op.Do == api.DoCut && op.At > api.MaxSize:
		return api.ErrLong
	case op.Do == api.DoWrite && (len(op.B) > api.MaxText || op.At > api.MaxSize || end > api.MaxSize):
		return api.ErrLong
	}
	return api.OK
}

// do is what a file that can these tells of op.
func (m *model) do(can uint8, op api.Op) (told api.Told) {
	if op.Do < 0 || op.Do > 5 {
		return api.Told{E: api.ErrArg}
	}
	if bit := [6]uint8{0, 0, 1, 2, 4, 8}[op.Do]; can&bit != bit {
		return api.Told{E: api.ErrCan}
	}
	if e := refuses(op); e != api.OK {
		return api.Told{E: e}
	}
	switch op.Do {
	case api.DoSize:
		told.N = m.size
	case api.DoRead:
		told.Data = m.read(op.At, op.N)
	case api.DoWrite:
		if len(op.B) > 0 {
			m.write(op.At, op.B)
		}
	case api.DoCut:
		m.cut(op.At)
	case api.DoNext:
		told.N, told.M = m.next(op.At)
	}
	return told
}

// wantState asks the handle, which can what can says, and its bytes all that they tell.
func (m *model) wantState(t *testing.T, s *span.Bytes, h *face.Handle, can uint8) {
	t.Helper()
	wantTold(t, h, api.Op{Do: api.DoSize}, m.do(can, api.Op{Do: api.DoSize}))
	for _, op := range []api.Op{{Do: api.DoRead, N: 2 * top}, {Do: api.DoNext}, {Do: api.DoNext, At: 3}} {
		wantTold(t, h, op, m.do(can, op))
	}
	was := stateOf(s)
	if was.size != m.size || was.data != string(m.read(0, api.MaxText)) {
		t.Errorf("the bytes are %d: %.50q, want %d: %.50q", was.size, was.data, m.size, m.data)
	}
	for i, at := 0, int64(-1); ; i++ {
		from, to := m.next(at)
		if from == to {
			if i != len(was.stretches) {
				t.Errorf("stretches %v, one of them is none", was.stretches)
			}
			return
		}
		if i >= len(was.stretches) || was.stretches[i] != (api.Stretch{From: from, To: to}) {
			t.Errorf("stretches %v, without %d to %d", was.stretches, from, to)
			return
		}
		at = to
	}
}

// pair is a file and its model.
type pair struct {
	s *span.Bytes
	m *model
}

// holedPair is the same as holed.
func holedPair() pair {
	p := pair{holed(), newModel()}
	p.m.write(0, []byte("abc"))
	p.m.write(5, []byte("xy"))
	p.m.cut(10)
	return p
}

// edges are ops with numbers at the bounds of all kinds, and wrong ones; what is taken of the writes lies ahead of top.
func edges() (l []api.Op) {
	places := []int64{math.MinInt64, -api.MaxSize, -1, 0, 1, 3, 4, 5, 9, 10, 11, top - 1, api.MaxText, api.MaxText + 1,
		api.MaxSize - 1, api.MaxSize, api.MaxSize + 1, math.MaxInt64 - 1, math.MaxInt64}
	for _, at := range places {
		l = append(l, api.Op{Do: api.DoCut, At: at}, api.Op{Do: api.DoNext, At: at})
		for _, n := range []int{math.MinInt, -1, 0, 1, 2, 9, api.MaxText, api.MaxText + 1, math.MaxInt} {
			l = append(l, api.Op{Do: api.DoRead, At: at, N: n})
		}
		for _, n := range []int{0, 1, 2, api.MaxText + 1, api.MaxData, api.MaxData + 1} {
			op := api.Op{Do: api.DoWrite, At: at, B: make([]byte, n)}
			if n == 0 || refuses(op) != api.OK || at+int64(n) <= top {
				l = append(l, op)
			}
		}
	}
	for _, do := range []int8{-128, -1, api.DoSize, api.DoSync, 6, 127} {
		l = append(l, api.Op{Do: do}, api.Op{Do: do, At: -1, N: -1, B: []byte("x")})
	}
	return l
}

// Each op on all sixteen sets: by the file's rules, where it can; ErrCan and nothing changed, where it can't (P4.5).
func TestP42P45Rules(t *testing.T) {
	ops := edges()
	for can := range uint8(16) {
		for _, op := range ops {
			p := holedPair()
			h := fileOf(t, p.s, can)
			wantTold(t, h, op, p.m.do(can, op))
			p.m.wantState(t, p.s, h, can)
			if t.Failed() {
				t.Fatalf("set %d, Do %d at %d, %d, of %d bytes", can, op.Do, op.At, op.N, len(op.B))
			}
		}
	}
}

// What can't be done falls, where it is asked for plainly, and changes nothing.
func TestP45Must(t *testing.T) {
	for can := range uint8(16) {
		for do := range int8(6) {
			p := holedPair()
			h := fileOf(t, p.s, can)
			op := api.Op{Do: do, At: 4, N: 2, B: []byte("!?")}
			want := p.m.do(can, op)
			told, fell := h.Must(op)
			if !sameTold(told, want) || fell != (want.E == api.ErrCan) {
				t.Errorf("set %d: Must of %d tells %v, %v, want %v", can, do, told, fell, want)
			}
			p.m.wantState(t, p.s, h, can)
		}
	}
}

// A write that ends at MaxSize, and one place behind it.
func TestP42MaxSize(t *testing.T) {
	for _, n := range []int{1, 2, api.MaxText - 1, api.MaxText} {
		h, b := newFile(t, []byte("abc"), 15), letters(n)
		at := int64(api.MaxSize - n)
		wantTold(t, h, api.Op{Do: api.DoWrite, At: at + 1, B: b}, api.Told{E: api.ErrLong})
		wantTold(t, h, api.Op{}, api.Told{N: 3})
		wantTold(t, h, api.Op{Do: api.DoWrite, At: at, B: b}, api.Told{})
		wantTold(t, h, api.Op{}, api.Told{N: api.MaxSize})
		wantTold(t, h, api.Op{Do: api.DoRead, At: at, N: n}, api.Told{Data: b})
		wantTold(t, h, api.Op{Do: api.DoRead, At: at + 1, N: n}, api.Told{Data: b[1:]})
		wantTold(t, h, api.Op{Do: api.DoRead, N: 5}, api.Told{Data: []byte("abc\x00\x00")})
		wantTold(t, h, api.Op{Do: api.DoNext, At: 3}, api.Told{N: at, M: api.MaxSize})
		wantTold(t, h, api.Op{Do: api.DoNext, At: api.MaxSize}, api.Told{N: api.MaxSize, M: api.MaxSize})
	}
}

// One write has at most MaxText bytes, though the bytes below would take more.
func TestP42MaxText(t *testing.T) {
	h := newFile(t, nil, 15)
	wantTold(t, h, api.Op{Do: api.DoWrite, B: make([]byte, api.MaxText+1)}, api.Told{E: api.ErrLong})
	wantTold(t, h, api.Op{Do: api.DoWrite, At: -1, B: make([]byte, api.MaxText+1)}, api.Told{E: api.ErrArg})
	wantTold(t, h, api.Op{}, api.Told{})
	b := letters(api.MaxText)
	wantTold(t, h, api.Op{Do: api.DoWrite, At: 1, B: b}, api.Told{})
	wantTold(t, h, api.Op{Do: api.DoRead, At: 1, N: api.MaxText}, api.Told{Data: b})
	wantTold(t, h, api.Op{Do: api.DoRead, N: api.MaxText}, api.Told{Data: append([]byte{0}, b[:api.MaxText-1]...)})
	wantTold(t, h, api.Op{Do: api.DoRead, N: api.MaxText + 1}, api.Told{E: api.ErrLong})
}

// An empty write changes nothing, not even Size; behind MaxSize it is refused as any other one.
func TestP42EmptyWrite(t *testing.T) {
	for _, b := range [][]byte{nil, {}} {
		p := holedPair()
		h := fileOf(t, p.s, 15)
		for at, e := range map[int64]api.Errno{0: api.OK, 10: api.OK, 11: api.OK, api.MaxSize: api.OK, -1: api.ErrArg, api.MaxSize + 1: api.ErrLong, math.MaxInt64: api.ErrLong} {
			wantTold(t, h, api.Op{Do: api.DoWrite, At: at, B: b}, api.Told{E: e})
		}
		p.m.wantState(t, p.s, h, 15)
	}
}

// The file that a handle gives answers without Do, too: numbers, and nothing beside an error.
func TestP42FileItself(t *testing.T) {
	f := fileOf(t, holed(), 15).File()
	if b, e := f.ReadAt(-1, api.MaxText+1); b != nil || e != api.ErrArg {
		t.Errorf("%q, %v", b, e)
	}
	if b, e := f.ReadAt(0, api.MaxText+1); b != nil || e != api.ErrLong {
		t.Errorf("%q, %v", b, e)
	}
	if b, e := f.ReadAt(1, 5); string(b) != "bc\x00\x00x" || e != api.OK || f.Size() != 10 {
		t.Errorf("%q, %v", b, e)
	}
}
