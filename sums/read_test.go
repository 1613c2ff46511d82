package sums_test

import (
	"bytes"
	"fmt"
	"math"
	"slices"
	"testing"

	"mantle/api"
	"mantle/span"
)

// readsOf are the calls of a read of these blocks: each of them whole, and then its 8 bytes of the table.
func readsOf(blocks ...int) (l []string) {
	for _, k := range blocks {
		l = append(l, fmt.Sprintf("a 1 %d 64 ", 64*k), fmt.Sprintf("b 1 %d 8 ", 8*k))
	}
	return l
}

// Every place of small files, with numbers of bytes around those of blocks: what is told is what is there, and the blocks of the answer are read, no other ones.
func TestP103Reads(t *testing.T) {
	for _, size := range []int{0, 1, 63, 64, 65, 127, 128, 129, 200} {
		text := letters(size)
		_, _, h, d := summed(t, text)
		for at := range size + 70 {
			for _, n := range []int{0, 1, 2, 40, 63, 64, 65, 127, 128, 129, 200, api.MaxText} {
				from, to := min(at, size), min(at+n, size)
				var blocks []int
				for k := from / 64; 64*k < to && from < to; k++ {
					blocks = append(blocks, k)
				}
				wantRead(t, h, int64(at), n, text[from:max(from, to)])
				d.wantCalls(t, readsOf(blocks...)...)
			}
		}
	}
}

// The edges by name: which blocks a read holds to be right.
func TestP103Blocks(t *testing.T) {
	_, _, h, d := summed(t, letters(200))
	for _, x := range []struct {
		at     int64
		n      int
		blocks []int
	}{
		{0, 0, nil}, {64, 0, nil}, {100, 0, nil}, {200, 0, nil}, {999, 0, nil}, // of none
		{200, 1, nil}, {201, 9, nil}, {api.MaxSize, 9, nil}, // at Size and behind it
		{0, 1, []int{0}}, {70, 9, []int{1}}, {64, 64, []int{1}}, // within one block
		{0, 65, []int{0, 1}}, {63, 2, []int{0, 1}}, {60, 140, []int{0, 1, 2, 3}}, // across several
		{10, 118, []int{0, 1}}, {10, 119, []int{0, 1, 2}}, // ends right at a border, and one byte behind it
		{192, 1, []int{3}}, {199, 1, []int{3}}, {192, 99, []int{3}}, {191, 2, []int{2, 3}}, // the last short block
	} {
		h.Do(api.Op{Do: api.DoRead, At: x.at, N: x.n})
		d.wantCalls(t, readsOf(x.blocks...)...)
	}
}

// spoilt is a file of these bytes and its table, of which some blocks are wrong: by a byte of the file, or of the table.
func spoilt(text string, inTable bool, blocks ...int) (data, table *span.Bytes) {
	b, sums := []byte(text), tableOf([]byte(text))
	for _, k := range blocks {
		if inTable {
			sums[8*k+k]++
		} else {
			b[64*k+k]++
		}
	}
	return span.New(b), span.New(sums)
}

// Wrong blocks ahead of the read, in it, and behind it: just those in it make it ErrSum, and it ends at the first one.
func TestP103Wrong(t *testing.T) {
	text := letters(300)
	for bits := range 32 {
		var wrong []int
		for k := range 5 {
			if bits>>k&1 == 1 {
				wrong = append(wrong, k)
			}
		}
		for _, inTable := range []bool{false, true} {
			data, table := spoilt(text, inTable, wrong...)
			a, b, d := two(t, data, table)
			h := newSums(t, a.handle(15), b.handle(15))
			for from := range 5 {
				for to := from; to < 5; to++ {
					at, end := 64*from+10, min(64*to+11, 300)
					var blocks []int
					for k := from; k <= to && (k == from || !slices.Contains(wrong, k-1)); k++ {
						blocks = append(blocks, k)
					}
					if slices.Contains(wrong, blocks[len(blocks)-1]) {
						wantNoRead(t, h, int64(at), end-at, api.ErrSum)
					} else {
						wantRead(t, h, int64(at), end-at, text[at:end])
					}
					d.wantCalls(t, readsOf(blocks...)...)
				}
			}
			wantRead(t, h, 0, 0, "")
			wantRead(t, h, 100, 0, "")
			wantRead(t, h, 300, 9, "")
			d.wantCalls(t)
		}
	}
}

// Each bit of a block, and each bit of its sum, counts, where the read tells other bytes of the block, too.
func TestP103EachBit(t *testing.T) {
	text := letters(100)
	right := tableOf([]byte(text))
	for bit := range 8 * 16 {
		sums := bytes.Clone(right)
		sums[bit/8] ^= 1 << (bit % 8)
		h := newSums(t, newFile(t, text, 15), newFile(t, string(sums), 15))
		wrong, well := int64(bit/64), int64(1-bit/64)
		wantNoRead(t, h, 64*wrong, 1, api.ErrSum)
		wantRead(t, h, 64*well, 1, text[64*well:64*well+1])
	}
	for bit := range 8 * 100 {
		b := []byte(text)
		b[bit/8] ^= 1 << (bit % 8)
		h := newSums(t, newFile(t, string(b), 15), newFile(t, string(right), 15))
		wrong, well := int64(bit/512), int64(1-bit/512)
		wantNoRead(t, h, 64*wrong+20, 1, api.ErrSum)
		wantRead(t, h, 64*well, 1, text[64*well:64*well+1])
	}
}

// A table that is too short for a block, by one byte up to all eight, or that has more than it needs.
func TestP103ShortTable(t *testing.T) {
	text := letters(130)
	right := string(tableOf([]byte(text)))
	for n := range 25 {
		h := newSums(t, newFile(t, text, 15), newFile(t, right[:n], 15))
		for k := range 3 {
			if n < 8*k+8 {
				wantNoRead(t, h, int64(64*k), 1, api.ErrSum)
			} else {
				wantRead(t, h, int64(64*k), 1, text[64*k:64*k+1])
			}
		}
	}
	for _, more := range []string{"x", letters(8), letters(1000)} {
		wantAll(t, newSums(t, newFile(t, text, 15), newFile(t, right+more, 15)), text)
	}
}

// Eight noughts, and eight bytes that are the sum of none, are no sum of noughts.
func TestP103Noughts(t *testing.T) {
	noughts := string(make([]byte, 64))
	for _, table := range []string{noughts[:8], string(entryOf(nil)), string(entryOf(make([]byte, 63)))} {
		wantNoRead(t, newSums(t, newFile(t, noughts, 15), newFile(t, table, 15)), 5, 1, api.ErrSum)
	}
	wantAll(t, newSums(t, newFile(t, noughts, 15), newFile(t, string(entryOf([]byte(noughts))), 15)), noughts)
}

// Every call of a read is refused in its turn, by errors of all kinds: it is the answer, with no bytes beside it, and nothing is asked behind it.
func TestP103Refused(t *testing.T) {
	text := letters(200)
	for _, e := range errnos() {
		all := readsOf(0, 1, 2, 3)
		for takes := range all {
			a, b, h, d := summed(t, text)
			a.data, b.data = []byte(text[:64]), tableOf([]byte(text))[:8]
			d.refuseBehind(takes, e)
			wantNoRead(t, h, 3, 190, e)
			d.wantCalls(t, all[:takes+1]...)
			wantAll(t, h, text)
		}
	}
}

// Of the file's and the table's errors that of the file comes first, block by block; a wrong block comes ahead of the errors of those behind it.
func TestP103First(t *testing.T) {
	text := letters(200)
	a, b, h, _ := summed(t, text)
	a.refuseAll(api.ErrQuota)
	b.refuseAll(api.ErrGone)
	wantNoRead(t, h, 0, 200, api.ErrQuota)
	a.refuseAll(api.OK)
	wantNoRead(t, h, 0, 200, api.ErrGone)
	wantNoRead(t, h, 200, 1, api.OK)
	wantNoRead(t, h, 9, 0, api.OK)

	for k := range 4 {
		data, table := spoilt(text, true, k)
		a, b, d := two(t, data, table)
		h := newSums(t, a.handle(0), b.handle(0))
		for takes := range 8 {
			want := api.ErrSum
			if takes < 2*k+2 {
				want = api.ErrGone
			}
			d.refuseBehind(takes, api.ErrGone)
			wantNoRead(t, h, 0, 200, want)
			d.forget()
		}
	}
}

// What the file's rules refuse comes to neither file.
func TestP103Rules(t *testing.T) {
	_, _, h, d := summed(t, letters(200))
	for _, op := range edges() {
		if op.Do == api.DoRead && refuses(op) != api.OK {
			wantTold(t, h, op, api.Told{E: refuses(op)})
		}
	}
	d.wantUnasked(t)
	wantNoRead(t, h, -1, api.MaxText+1, api.ErrArg)
	wantNoRead(t, h, 0, -1, api.ErrArg)
	wantNoRead(t, h, math.MaxInt64, api.MaxText+1, api.ErrLong)
	wantRead(t, h, math.MaxInt64, api.MaxText, "")
}

// Over files and tables of all sixteen sets a read tells the same.
func TestP103Sets(t *testing.T) {
	text := letters(130)
	table := string(tableOf([]byte(text)))
	for a := range uint8(16) {
		for b := range uint8(16) {
			h := newSums(t, newFile(t, text, a), newFile(t, table, b))
			wantAll(t, h, text)
			wantRead(t, h, 60, 9, text[60:69])
		}
	}
}

// Of a file that was made longer or shorter below, the last block is another one: it is wrong, the others are as they were.
func TestP103SizeChanged(t *testing.T) {
	text := letters(130)
	for _, size := range []int64{129, 131, 192} {
		a, _, h, _ := summed(t, text)
		a.all.Do(api.Op{Do: api.DoCut, At: size})
		wantRead(t, h, 0, 128, text[:128])
		wantNoRead(t, h, 0, 129, api.ErrSum)
		wantNoRead(t, h, 128, 1, api.ErrSum)
	}
	a, _, h, _ := summed(t, text)
	a.all.Do(api.Op{Do: api.DoCut, At: 128})
	wantAll(t, h, text[:128])
	a.all.Do(api.Op{Do: api.DoCut, At: 193})
	wantNoRead(t, h, 192, 1, api.ErrSum)
}

// Files that tell any Size, and more or fewer bytes than they should: what is right is told as far as it goes.
func TestP103Odd(t *testing.T) {
	for _, x := range []struct {
		size int64
		n    int // bytes that each read tells
		at   int64
		want string
	}{
		{math.MinInt64, 64, 0, ""},
		{math.MinInt64, 64, math.MaxInt64, ""},
		{-1, 64, 0, ""},
		{math.MaxInt64, 64, math.MaxInt64 - 5, letters(64)[58:63]},
		{math.MaxInt64, 64, 0, letters(64) + letters(6)},
		{100, 0, 0, ""},
		{100, 5, 0, letters(5)},
		{100, 5, 3, letters(5)[3:]},
		{100, 5, 9, ""},
		{100, 99, 0, letters(64) + letters(6)},
	} {
		room := []byte(letters(x.n))
		o := &odd{size: func() int64 { return x.size }, read: func(int64, int) ([]byte, api.Errno) { return room, api.OK }}
		sum := append(entryOf(room[:min(x.n, 64)]), "more than is asked"...)
		table := &odd{size: func() int64 { return 0 }, read: func(int64, int) ([]byte, api.Errno) { return sum, api.OK }}
		h := newSums(t, o.handle(), table.handle())
		wantRead(t, h, x.at, 70, x.want)
		b, _ := h.File().ReadAt(x.at, 70)
		clear(b[:cap(b)])
		if string(room) != letters(x.n) {
			t.Error("an answer is the file's memory")
		}
	}
}

// A file, its table as well, that tells all reads in the same room.
func TestP103SameRoom(t *testing.T) {
	text := letters(130)
	data, table := span.New([]byte(text)), span.New(tableOf([]byte(text)))
	room := make([]byte, 64)
	from := func(s *span.Bytes) *odd {
		return &odd{size: s.Size, read: func(at int64, n int) ([]byte, api.Errno) { return room[:copy(room, s.Get(at, n))], api.OK }}
	}
	h := newSums(t, from(data).handle(), from(table).handle())
	wantAll(t, h, text)
	wantTable(t, from(data).handle(), tableOf([]byte(text)), api.OK)
}
