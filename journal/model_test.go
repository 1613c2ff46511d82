package journal_test

import (
	"encoding/binary"
	"math"
	"testing"

	"mantle/api"
	"mantle/span"
)

// refuses is the error that the file's rules answer ahead of all else.
func refuses(op api.Op) api.Errno {
	switch op.Do {
	case api.DoRead:
		if op.At < 0 || op.N < 0 {
			return api.ErrArg
		}
		if op.N > api.MaxText {
			return api.ErrLong
		}
	case api.DoWrite:
		if op.At < 0 {
			return api.ErrArg
		}
		if len(op.B) > api.MaxText || op.At > api.MaxSize || op.At+int64(len(op.B)) > api.MaxSize {
			return api.ErrLong
		}
	case api.DoCut:
		if op.At < 0 {
			return api.ErrArg
		}
		if op.At > api.MaxSize {
			return api.ErrLong
		}
	}
	return api.OK
}

// cannot is the error of an op that a file of this set is not asked.
func cannot(can uint8, op api.Op) api.Errno {
	if op.Do < 0 || op.Do > 5 {
		return api.ErrArg
	}
	if bit := [6]uint8{0, 0, 1, 2, 4, 8}[op.Do]; can&bit != bit {
		return api.ErrCan
	}
	return api.OK
}

// keeps is the table's row, word for word.
func keeps(a, b uint8) (out uint8) {
	g := a&api.CanWrite != 0 && b&api.CanWrite != 0 && b&api.CanCut != 0
	if g {
		out |= api.CanWrite
	}
	if g && a&api.CanCut != 0 {
		out |= api.CanCut
	}
	if g {
		out |= api.CanSync
	}
	return out
}

// markOf are the bytes of the mark of so many bytes.
func markOf(long uint64) string {
	return string(binary.BigEndian.AppendUint64(nil, long)) + "\x4D\x41\x4E\x54\x4C\x45\x0D\x01"
}

// headOf are the first 13 bytes of a record.
func headOf(kind byte, place uint64, follow uint32) string {
	b := binary.BigEndian.AppendUint64([]byte{kind}, place)
	return string(binary.BigEndian.AppendUint32(b, follow))
}

// writeOf and cutOf are the bytes of records.
func writeOf(at uint64, b string) string { return headOf(1, at, uint32(len(b))) + b }

func cutOf(size uint64) string { return headOf(2, size, 0) }

// logOf is a log of these records, marked.
func logOf(records ...string) string {
	all := ""
	for _, r := range records {
		all += r
	}
	return markOf(uint64(len(all))) + all
}

// side is one of a journal's files on paper.
type side struct {
	name   string
	s      *span.Bytes
	can    uint8
	noRead api.Errno
}

// book is a journal on paper: P13.1 to P13.5, word for word, over bytes with holes.
type book struct {
	data, log side
	records   []api.Op
	spoilt    bool
	diary     diary
}

func bookOf(data, log *span.Bytes, canData, canLog uint8) *book {
	return &book{data: side{name: "data", s: data, can: canData}, log: side{name: "log", s: log, can: canLog}}
}

// ask is a call of one of the files, by Do.
func (k *book) ask(x side, op api.Op) api.Errno {
	if e := cannot(x.can, op); e != api.OK {
		return e
	}
	if e := k.diary.note(x.name, op); e != api.OK {
		return e
	}
	if e := refuses(op); e != api.OK {
		return e
	}
	switch op.Do {
	case api.DoWrite:
		return x.s.Put(op.At, op.B)
	case api.DoCut:
		return x.s.Cut(op.At)
	}
	return api.OK
}

// sync is a file's Sync, where it can.
func (k *book) sync(x side) api.Errno {
	if x.can&api.CanSync == 0 {
		return api.OK
	}
	return k.ask(x, api.Op{Do: api.DoSync})
}

// image is data with the records done to it.
func (k *book) image() *span.Bytes {
	s := k.data.s.Twin()
	for _, r := range k.records {
		if r.Do == api.DoCut {
			s.Cut(r.At)
		} else {
			s.Put(r.At, r.B)
		}
	}
	return s
}

// long is how many bytes of records there are.
func (k *book) long() (n int64) {
	for _, r := range k.records {
		n += 13 + int64(len(r.B))
	}
	return n
}

// add is what comes of a write or a cut.
func (k *book) add(op api.Op) api.Errno {
	kind := byte(2)
	if op.Do == api.DoWrite {
		kind = 1
	}
	if op.Do == api.DoWrite && len(op.B) == 0 {
		return api.OK
	}
	if k.spoilt {
		return api.ErrGone
	}
	if k.long()+13+int64(len(op.B)) > api.MaxData {
		return api.ErrLong
	}
	at := 16 + k.long()
	head := headOf(kind, uint64(op.At), uint32(len(op.B)))
	if e := k.ask(k.log, api.Op{Do: api.DoWrite, At: at, B: []byte(head)}); e != api.OK {
		return e
	}
	if op.Do == api.DoWrite {
		if e := k.ask(k.log, api.Op{Do: api.DoWrite, At: at + 13, B: op.B}); e != api.OK {
			return e
		}
	}
	k.records = append(k.records, op)
	return api.OK
}

// steps does one step behind the other; the first error ends it.
func steps(l ...func() api.Errno) api.Errno {
	for _, step := range l {
		if e := step(); e != api.OK {
			return e
		}
	}
	return api.OK
}

// do4 is step 4.
func (k *book) do4(records []api.Op) api.Errno {
	for _, r := range records {
		if e := k.ask(k.data, r); e != api.OK {
			return e
		}
	}
	return api.OK
}

// syncs is what comes of a Sync.
func (k *book) syncs() api.Errno {
	if k.spoilt {
		return api.ErrGone
	}
	if len(k.records) == 0 {
		return k.sync(k.data)
	}
	e := steps(
		func() api.Errno { return k.sync(k.log) },
		func() api.Errno {
			return k.ask(k.log, api.Op{Do: api.DoWrite, B: []byte(markOf(uint64(k.long())))})
		},
		func() api.Errno { return k.sync(k.log) },
		func() api.Errno { return k.do4(k.records) },
		func() api.Errno { return k.sync(k.data) },
		func() api.Errno { return k.ask(k.log, api.Op{Do: api.DoCut}) },
		func() api.Errno { return k.sync(k.log) },
	)
	if e != api.OK {
		k.spoilt = true
		return e
	}
	k.records = nil
	return api.OK
}

// do is what is told of op through the journal.
func (k *book) do(op api.Op) (told api.Told) {
	e := cannot(keeps(k.data.can, k.log.can), op)
	if e == api.OK {
		e = refuses(op)
	}
	if e != api.OK {
		return api.Told{E: e}
	}
	switch op.Do {
	case api.DoSize:
		told.N = k.image().Size()
	case api.DoRead:
		if op.N > 0 && op.At < k.data.s.Size() && k.data.noRead != api.OK {
			return api.Told{E: k.data.noRead}
		}
		told.Data = k.image().Get(op.At, op.N)
	case api.DoWrite:
		told.E = k.add(api.Op{Do: api.DoWrite, At: op.At, B: op.B})
	case api.DoCut:
		told.E = k.add(api.Op{Do: api.DoCut, At: op.At})
	case api.DoSync:
		told.E = k.syncs()
	}
	return told
}

// allOf are all bytes of s; at most some millions.
func allOf(s *span.Bytes) (b []byte) {
	for int64(len(b)) < s.Size() {
		b = append(b, s.Get(int64(len(b)), api.MaxText)...)
	}
	return b
}

// parsed are the records that a marked log has; not ok, if it is none of a journal's.
func parsed(b []byte) (l []api.Op, ok bool) {
	long := binary.BigEndian.Uint64(b)
	b = b[16:]
	if long > api.MaxData || long > uint64(len(b)) {
		return nil, false
	}
	for b = b[:long]; len(b) > 0; {
		if len(b) < 13 {
			return nil, false
		}
		op := api.Op{Do: api.DoWrite, At: int64(binary.BigEndian.Uint64(b[1:]))}
		n := int64(binary.BigEndian.Uint32(b[9:]))
		if b[0] == 2 {
			op.Do = api.DoCut
		}
		if b[0] != 1 && (b[0] != 2 || n != 0) || n > int64(len(b)-13) {
			return nil, false
		}
		op.B = b[13 : 13+n]
		l, b = append(l, op), b[13+n:]
	}
	return l, true
}

// recover is what comes of Recover.
func (k *book) recover() (done int, e api.Errno) {
	size := k.log.s.Size()
	if size >= 16 && k.log.noRead != api.OK {
		return 0, k.log.noRead
	}
	cut := func() api.Errno { return k.ask(k.log, api.Op{Do: api.DoCut}) }
	syncLog := func() api.Errno { return k.sync(k.log) }
	if size < 16 || string(k.log.s.Get(8, 8)) != "MANTLE\r\x01" {
		if size != 0 {
			e = steps(cut, syncLog)
		}
		return 0, e
	}
	l, ok := parsed(allOf(k.log.s))
	if !ok {
		return 0, api.ErrLog
	}
	e = steps(func() api.Errno { return k.do4(l) }, func() api.Errno { return k.sync(k.data) }, cut, syncLog)
	if e != api.OK {
		return 0, e
	}
	return len(l), api.OK
}

// wantSame holds bytes, and holes, against those of the book.
func wantSame(t *testing.T, name string, got, want *span.Bytes) {
	t.Helper()
	if got.Size() != want.Size() || got.Held() != want.Held() {
		t.Fatalf("%s has %d bytes, of which %d are written, want %d, %d", name, got.Size(), got.Held(), want.Size(), want.Held())
	}
	for at := int64(0); at < want.Size(); {
		from, to := want.Next(at)
		if f, e := got.Next(at); f != from || e != to {
			t.Fatalf("%s: Next(%d) tells %d %d, want %d %d", name, at, f, e, from, to)
		}
		for ; from < to; from += api.MaxText {
			n := int(min(api.MaxText, to-from))
			if g, w := got.Get(from, n), want.Get(from, n); string(g) != string(w) {
				t.Fatalf("%s has from %d on %.200q, want %.200q", name, from, g, w)
			}
		}
		at = to
	}
}

// wantBook holds what the files were asked, and what they have, against the book.
func (w *two) wantBook(t *testing.T, k *book) {
	t.Helper()
	w.wantCalls(t, k.diary.calls...)
	k.diary.forget()
	wantSame(t, "data", w.below, k.data.s)
	wantSame(t, "the log", w.logs, k.log.s)
}

// letters are n bytes, no two near ones of which are the same.
func letters(n int) string {
	b := make([]byte, n)
	for i := range b {
		b[i] = byte('!' + i%89)
	}
	return string(b)
}

// patterned are so many bytes, letters and holes, by five: those are written whose bit is set.
func patterned(size int64, bits uint16) *span.Bytes {
	s := span.New(nil)
	s.Cut(size)
	for i, x := range []byte(letters(int(size))) {
		if bits>>(i/5%16)&1 == 1 {
			s.Put(int64(i), []byte{x})
		}
	}
	return s
}

// edges are ops with numbers at the bounds of all kinds, and wrong ones, for a file of some 40 bytes.
func edges() (l []api.Op) {
	for _, at := range []int64{math.MinInt64, -api.MaxSize, -1, 0, 1, 13, 39, 40, 41, 60, api.MaxText, api.MaxData, api.MaxSize - 41, api.MaxSize - 40, api.MaxSize - 1, api.MaxSize, api.MaxSize + 1, math.MaxInt64 - 40, math.MaxInt64 - 1, math.MaxInt64} {
		l = append(l, api.Op{Do: api.DoNext, At: at})
		for _, n := range []int{math.MinInt, -1, 0, 1, 40, 41, api.MaxText, api.MaxText + 1, math.MaxInt} {
			l = append(l, api.Op{Do: api.DoRead, At: at, N: n})
		}
		for _, n := range []int{0, 1, 40, 41, api.MaxText + 1} {
			l = append(l, api.Op{Do: api.DoWrite, At: at, B: []byte(letters(n))}, api.Op{}, api.Op{Do: api.DoRead, At: 35, N: 50})
		}
		l = append(l, api.Op{Do: api.DoCut, At: at}, api.Op{}, api.Op{Do: api.DoCut, At: 40})
		if at%3 == 0 {
			l = append(l, api.Op{Do: api.DoSync})
		}
	}
	for _, do := range []int8{-128, -1, api.DoSize, api.DoSync, 6, 127} {
		l = append(l, api.Op{Do: do}, api.Op{Do: do, At: 2, N: 3, B: []byte("xy")}, api.Op{Do: do, At: -1, N: -1, B: []byte("x")})
	}
	return l
}

// chance tells numbers that are the same at each run.
type chance uint64

func (c *chance) below(n int) int {
	*c = *c*6364136223846793005 + 1442695040888963407
	return int(uint64(*c) >> 33 % uint64(n))
}

// bytes are so many bytes of all kinds.
func (c *chance) bytes(n int) []byte {
	b := make([]byte, n)
	for i := range b {
		b[i] = byte(c.below(256))
	}
	return b
}

// op is an op with small numbers, some of them wrong; a Sync is rare.
func (c *chance) op() api.Op {
	op := api.Op{Do: int8(c.below(8) - 1), At: int64(c.below(34) - 1), N: c.below(40) - 1, B: c.bytes(c.below(9))}
	if op.Do == api.DoSync && c.below(3) > 0 {
		op.Do = api.DoCut
	}
	if c.below(3) == 0 {
		op.Do = api.DoWrite
	}
	return op
}
