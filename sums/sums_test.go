package sums_test

import (
	"bytes"
	"math/big"
	"reflect"
	"slices"
	"testing"

	"mantle/api"
	"mantle/caps"
	"mantle/face"
	"mantle/memory"
	"mantle/span"
	"mantle/sums"
)

func newFile(t *testing.T, b string, can uint8) *face.Handle {
	t.Helper()
	return fileOf(t, span.New([]byte(b)), can)
}

func fileOf(t *testing.T, s *span.Bytes, can uint8) *face.Handle {
	t.Helper()
	h, e := memory.Of(s, can)
	if e != api.OK {
		t.Fatalf("a file of memory that can %d: %v", can, e)
	}
	return h
}

func newSums(t *testing.T, h, table *face.Handle) *face.Handle {
	t.Helper()
	s, e := sums.New(h, table)
	if e != api.OK || s == nil {
		t.Fatalf("New answers %v, %v", s, e)
	}
	return s
}

func sameTold(a, b api.Told) bool {
	return a.E == b.E && a.N == b.N && a.M == b.M && bytes.Equal(a.Data, b.Data)
}

func wantTold(t *testing.T, h *face.Handle, op api.Op, want api.Told) {
	t.Helper()
	if got := h.Do(op); !sameTold(got, want) {
		t.Errorf("Do %d at %d, %d, of %d bytes tells %v %d %d %.80q, want %v %d %d %.80q", op.Do, op.At, op.N, len(op.B), got.E, got.N, got.M, got.Data, want.E, want.N, want.M, want.Data)
	}
}

func wantSize(t *testing.T, h *face.Handle, want int64) {
	t.Helper()
	wantTold(t, h, api.Op{Do: api.DoSize}, api.Told{N: want})
}

func wantRead(t *testing.T, h *face.Handle, at int64, n int, want string) {
	t.Helper()
	wantTold(t, h, api.Op{Do: api.DoRead, At: at, N: n}, api.Told{Data: []byte(want)})
}

func wantNoRead(t *testing.T, h *face.Handle, at int64, n int, want api.Errno) {
	t.Helper()
	wantTold(t, h, api.Op{Do: api.DoRead, At: at, N: n}, api.Told{E: want})
}

func wantWrite(t *testing.T, h *face.Handle, at int64, b string, want api.Errno) {
	t.Helper()
	wantTold(t, h, api.Op{Do: api.DoWrite, At: at, B: []byte(b)}, api.Told{E: want})
}

func wantSync(t *testing.T, h *face.Handle, want api.Errno) {
	t.Helper()
	wantTold(t, h, api.Op{Do: api.DoSync}, api.Told{E: want})
}

// wantAll holds all bytes of a file, and its Size.
func wantAll(t *testing.T, h *face.Handle, want string) {
	t.Helper()
	wantRead(t, h, 0, api.MaxText, want)
	wantSize(t, h, int64(len(want)))
}

// wantTable holds Table of a file.
func wantTable(t *testing.T, h *face.Handle, want []byte, wantE api.Errno) {
	t.Helper()
	if got, e := sums.Table(h); e != wantE || !bytes.Equal(got, want) {
		t.Errorf("Table answers %.200x, %v, want %.200x, %v", got, e, want, wantE)
	}
}

func TestExamples(t *testing.T) {
	if x := sums.Sum(nil); x != 14695981039346656037 {
		t.Errorf("the sum of none is %d", x)
	}
	if x := sums.Sum([]byte{0x61}); x != 12638187200555641996 {
		t.Errorf("the sum of the byte 61 is %d", x)
	}
	wantTable(t, newFile(t, "", 0), nil, api.OK)
	if b, e := sums.Table(newFile(t, letters(65), 0)); len(b) != 16 || e != api.OK {
		t.Errorf("Table of 65 bytes answers %x, %v", b, e)
	}
	a := newFile(t, "abc", 15)
	h := newSums(t, a, newFile(t, "", 15))
	wantNoRead(t, h, 0, 1, api.ErrSum)
	wantRead(t, h, 3, 1, "")
	if h, e := sums.New(a, nil); h != nil || e != api.ErrNil {
		t.Errorf("New(A, nil) answers %v, %v", h, e)
	}
}

// exact is the sum by the numbers of arithmetic, which are brought below 2^64 at the end of each step.
func exact(b []byte) uint64 {
	sum, _ := new(big.Int).SetString("14695981039346656037", 10)
	round := new(big.Int).Lsh(big.NewInt(1), 64)
	for _, x := range b {
		sum.Xor(sum, big.NewInt(int64(x)))
		sum.Mul(sum, big.NewInt(1099511628211))
		sum.Mod(sum, round)
	}
	return sum.Uint64()
}

// None, each single byte, whole blocks and many: the sum wraps round modulo 2^64, and hangs on the order of the bytes.
func TestP101Sum(t *testing.T) {
	texts := [][]byte{nil, {}, {0, 0}, {1, 0}, {0, 1}, make([]byte, 64), make([]byte, 65), bytes.Repeat([]byte{255}, 64)}
	for x := range 256 {
		texts = append(texts, []byte{byte(x)}, []byte{byte(x), 255, byte(x)})
	}
	for _, n := range []int{63, 64, 65, 1000, api.MaxText, api.MaxText + 1, 1 << 20} {
		texts = append(texts, []byte(letters(n)))
	}
	for _, b := range texts {
		was := bytes.Clone(b)
		if got := sums.Sum(b); got != sumOf(b) || len(b) < 1<<16 && got != exact(b) {
			t.Errorf("the sum of %.80x, %d bytes, is %d, want %d", b, len(b), got, sumOf(b))
		}
		if !bytes.Equal(b, was) {
			t.Errorf("Sum changes its bytes: %.80x", b)
		}
	}
	for s, want := range map[string]uint64{"b": 0xaf63df4c8601f1a5, "foobar": 0x85944171f73967e8, "\x00": 0xaf63bd4c8601b7df} {
		if got := sums.Sum([]byte(s)); got != want {
			t.Errorf("the sum of %q is %x, want %x", s, got, want)
		}
	}
}

// The room behind the bytes counts for nothing.
func TestP101SumRoom(t *testing.T) {
	room := []byte(letters(80))
	for n := range 81 {
		if sums.Sum(room[:n]) != sumOf(bytes.Clone(room[:n])) {
			t.Errorf("the sum of %d bytes with room behind is another one", n)
		}
	}
}

// A nil file, a nil table, and both: as handles that there are not, or that New answered.
func TestP102Nil(t *testing.T) {
	refused, _ := sums.New(nil, nil)
	a, b, d := two(t, span.New([]byte("abc")), span.New(nil))
	for _, none := range []*face.Handle{nil, {}, refused} {
		for _, x := range [][2]*face.Handle{{none, b.handle(15)}, {a.handle(15), none}, {none, none}, {nil, none}, {none, nil}} {
			if h, e := sums.New(x[0], x[1]); h != nil || e != api.ErrNil {
				t.Errorf("New answers %v, %v", h, e)
			}
		}
		wantTable(t, none, nil, api.ErrNil)
	}
	d.wantUnasked(t)
	for do := int8(-1); do < 7; do++ {
		wantTold(t, refused, api.Op{Do: do, N: 1}, api.Told{E: api.ErrNil})
		if told, fell := refused.Must(api.Op{Do: do}); told.E != api.ErrNil || fell {
			t.Errorf("Must of %d tells %v, %v", do, told, fell)
		}
	}
}

func methods(f api.File) []string {
	var l []string
	for m := range reflect.TypeOf(f).Methods() {
		l = append(l, m.Name)
	}
	return l
}

// wantCan asks a handle in all ways what it can.
func wantCan(t *testing.T, h *face.Handle, can uint8) {
	t.Helper()
	names := []string{"ReadAt", "Size"}
	for i, name := range []string{"WriteAt", "Cut", "Next", "Sync"} {
		if can>>i&1 == 1 {
			names = append(names, name)
		}
	}
	slices.Sort(names)
	if got := methods(h.File()); h.Can() != can || !slices.Equal(got, names) {
		t.Errorf("it can %d, by %v, want %d", h.Can(), got, can)
	}
	for do, bit := range []uint8{0, 0, api.CanWrite, api.CanCut, api.CanHoles, api.CanSync} {
		told, fell := h.Must(api.Op{Do: int8(do)})
		if fell != (can&bit != bit) || fell != (told.E == api.ErrCan) {
			t.Errorf("can %d: Must of %d tells %v, %v", can, do, told, fell)
		}
	}
}

// keeps is the table's row, word for word.
func keeps(a, b uint8) (can uint8) {
	if a&api.CanWrite != 0 && b&api.CanWrite != 0 {
		can |= api.CanWrite
	}
	if a&api.CanSync != 0 && b&api.CanSync != 0 {
		can |= api.CanSync
	}
	return can
}

// Over each pair of the sixteen sets it can what chapter 2's table tells: written and synced if both can, never cut, no holes.
func TestP102Can(t *testing.T) {
	for a := range uint8(16) {
		for b := range uint8(16) {
			want, e := caps.Over(api.Wrap{Kind: api.WrapSum}, []uint8{a, b})
			if e != api.OK || want != keeps(a, b) {
				t.Fatalf("the table tells %d of %d and %d", want, a, b)
			}
			h := newSums(t, newFile(t, "abc", a), newFile(t, "", b))
			wantCan(t, h, want)
			for less := range uint8(16) {
				wantCan(t, h.Only(less), want&less)
			}
			wantCan(t, newSums(t, h, newFile(t, "", 15)), want)
			wantCan(t, newSums(t, newFile(t, "abc", 15), h), want)
			x, y, _ := two(t, span.New([]byte("abc")), span.New(nil))
			wantCan(t, newSums(t, x.handle(a), y.handle(b)), want) // their values can more than their handles
		}
	}
}

// What it can't is refused, and comes to nothing: neither file is asked.
func TestP102Cannot(t *testing.T) {
	for a := range uint8(16) {
		for b := range uint8(16) {
			x, y, d := two(t, span.New([]byte("abc")), span.New(nil))
			h := newSums(t, x.handle(a), y.handle(b))
			for do := int8(2); do < 6; do++ {
				op := api.Op{Do: do, At: 1, N: 1, B: []byte("z")}
				wantTold(t, h.Only(0), op, api.Told{E: api.ErrCan})
				if cannot(keeps(a, b), op) != api.OK {
					wantTold(t, h, op, api.Told{E: api.ErrCan})
				}
			}
			for _, do := range []int8{-128, -1, 6, 127} {
				wantTold(t, h, api.Op{Do: do, B: []byte("z")}, api.Told{E: api.ErrArg})
			}
			d.wantUnasked(t)
			wantAll(t, x.all, "abc")
			wantAll(t, y.all, "")
		}
	}
}

// New asks nothing of the files, however they may be; each handle is one of its own.
func TestP102Apart(t *testing.T) {
	a, b, d := two(t, span.New([]byte(letters(70))), span.New([]byte("no sums")))
	below, table := a.handle(15), b.handle(15)
	g, h := newSums(t, below, table), newSums(t, below, table)
	g.Can()
	d.wantUnasked(t)
	if g == h || g == below || g == table || g.File() == h.File() || g.File() == below.File() || g.File() == table.File() {
		t.Error("two of them are the same")
	}
}

// Size is the file's at each call, also when that is changed below; the table's counts for nothing.
func TestP102Size(t *testing.T) {
	a, b, h, d := summed(t, letters(70))
	for _, size := range []int64{0, 1, 63, 64, 65, 1000, api.MaxSize, 3} {
		if e := a.all.Do(api.Op{Do: api.DoCut, At: size}).E; e != api.OK {
			t.Fatal(e)
		}
		wantSize(t, h, size)
		b.all.Do(api.Op{Do: api.DoCut, At: size / 3})
		wantSize(t, h, size)
	}
	if slices.Contains(d.sizes, "b") {
		t.Error("the table's Size was asked")
	}
	d.wantCalls(t)
	a.refuseAll(api.ErrGone)
	b.refuseAll(api.ErrGone)
	wantSize(t, h, 3)
}

// Handles over the same two files see what one of them writes.
func TestShared(t *testing.T) {
	text := letters(100)
	f, table := newFile(t, text, 15), newFile(t, string(tableOf([]byte(text))), 15)
	g, h := newSums(t, f, table), newSums(t, f, table)
	wantWrite(t, g.Only(api.CanWrite), 90, "0123456789abc", api.OK)
	for _, x := range []*face.Handle{f, g, h, h.Only(0)} {
		wantAll(t, x, text[:90]+"0123456789abc")
	}
	wantWrite(t, h, 0, "XY", api.OK)
	wantAll(t, g, "XY"+text[2:90]+"0123456789abc")
}

// What is handed in is neither changed nor kept.
func TestNothingKept(t *testing.T) {
	text := letters(100)
	for _, at := range []int64{0, 1, 61, 62, 64, 97, 98, 100, 150} {
		f, table := newFile(t, text, 15), newFile(t, string(tableOf([]byte(text))), 15)
		w, ok := newSums(t, f, table).File().(api.Writer)
		if !ok {
			t.Fatal("it can't be written")
		}
		room := []byte("vwxyz")
		if e := w.WriteAt(at, room[:3]); e != api.OK || string(room) != "vwxyz" {
			t.Fatalf("a write is refused, by %v, or changes its bytes: %q", e, room)
		}
		p := &paper{[]byte(text)}
		p.write(at, []byte("vwx"))
		clear(room)
		wantAll(t, f, string(p.data))
		wantAll(t, table, string(tableOf(p.data)))
	}
}

// What is handed out is new memory each time, with the room behind it.
func TestNewMemory(t *testing.T) {
	text := letters(140)
	_, _, h, _ := summed(t, text)
	for at := range 140 {
		for _, n := range []int{0, 1, 5, 63, 64, 65, 128, 140} {
			one, _ := h.File().ReadAt(int64(at), n)
			two, _ := h.File().ReadAt(int64(at), n)
			clear(one[:cap(one)])
			if string(two) != text[at:min(at+n, 140)] {
				t.Errorf("two answers share memory: %q", two)
			}
			clear(two[:cap(two)])
			wantAll(t, h, text)
		}
	}
	one, _ := sums.Table(newFile(t, text, 0))
	two, _ := sums.Table(newFile(t, text, 0))
	clear(one[:cap(one)])
	if !bytes.Equal(two, tableOf([]byte(text))) {
		t.Error("two tables share memory")
	}
}
