package sums_test

import (
	"bytes"
	"slices"
	"testing"

	"mantle/api"
	"mantle/span"
	"mantle/sums"
)

// Of two texts of one length that differ in just one byte, at whatever place, the sums differ.
func TestP106Sum(t *testing.T) {
	c := chance(106)
	for _, n := range []int{1, 2, 3, 8, 9, 63, 64, 65, 200} {
		for _, text := range [][]byte{make([]byte, n), bytes.Repeat([]byte{255}, n), []byte(letters(n)), c.text(n)} {
			sum := sums.Sum(text)
			for at := range n {
				other := bytes.Clone(text)
				for range 255 {
					other[at]++
					if sums.Sum(other) == sum {
						t.Fatalf("%x and %x have one sum", text, other)
					}
				}
			}
		}
	}
}

// A byte changed below is told by ErrSum in all reads of its block; reads that touch only other blocks answer what they did. Put back, all is as it was.
func TestP106Changed(t *testing.T) {
	text := letters(150)
	for can := range uint8(16) {
		s := span.New([]byte(text))
		h := newSums(t, fileOf(t, s, can), newFile(t, string(tableOf([]byte(text))), 15-can))
		for at := range 150 {
			if at%16 != int(can) {
				continue
			}
			for _, x := range []byte{text[at] + 1, text[at] ^ 0x80, 0, 255} {
				s.Put(int64(at), []byte{x})
				for _, from := range []int{0, 1, 63, 64, 65, 127, 128, 149} {
					for _, to := range []int{64, 65, 128, 129, 150} {
						if from >= to {
							continue
						}
						if from/64 <= at/64 && at/64 <= (to-1)/64 {
							wantNoRead(t, h, int64(from), to-from, api.ErrSum)
						} else {
							wantRead(t, h, int64(from), to-from, text[from:to])
						}
					}
				}
			}
			s.Put(int64(at), []byte{text[at]})
			wantAll(t, h, text)
		}
	}
}

// Behind any writes that were answered OK the table's bytes are Table of the file, and what is told is what a file without sums tells.
func TestP107(t *testing.T) {
	c := chance(107)
	for range 400 {
		b := c.text(c.many())
		can := uint8(c.below(16))
		data, table := span.New(b), span.New(tableOf(b))
		f := fileOf(t, data, can|api.CanWrite)
		h := newSums(t, f, fileOf(t, table, uint8(c.below(16))|api.CanWrite))
		plain := &paper{b}
		for range 30 {
			op := c.op()
			wantTold(t, h, op, plain.do(h.Can(), op))
			plain.wantState(t, data)
			now, e := sums.Table(f)
			if e != api.OK || !bytes.Equal(now, table.Get(0, api.MaxText)) || int64(len(now)) != table.Size() {
				t.Fatalf("Table tells %x, %v, the table has %x", now, e, table.Get(0, api.MaxText))
			}
		}
		wantAll(t, h, string(plain.data))
	}
}

// Every write of up to some blocks to files of up to some blocks, at the places that matter.
func TestP107EachWrite(t *testing.T) {
	around := []int{0, 1, 2, 62, 63, 64, 65, 66, 126, 127, 128, 129, 130, 190, 191, 192, 193}
	for _, size := range around {
		text := letters(size)
		for _, at := range around {
			for _, n := range around {
				data, table := span.New([]byte(text)), span.New(tableOf([]byte(text)))
				h := newSums(t, fileOf(t, data, 15), fileOf(t, table, 15))
				s := shape{at: int64(at), n: n}
				want := text
				if n > 0 {
					want = with(text, s.at, s.bytes())
				}
				wantWrite(t, h, s.at, s.bytes(), api.OK)
				wantAll(t, h, want)
				(&paper{[]byte(want)}).wantState(t, data)
				(&paper{tableOf([]byte(want))}).wantState(t, table)
			}
		}
	}
}

// Each op at every bound, over files and tables of all sets: what is told, what the files are asked, and what they have afterwards.
func TestEdges(t *testing.T) {
	text := []byte(letters(200))
	for x := range uint8(16) {
		for _, y := range []uint8{15, 0, x} {
			data, table := span.New(text), span.New(tableOf(text))
			a, b, d := two(t, data, table)
			h := newSums(t, a.handle(x), b.handle(y))
			k := &book{data: &paper{bytes.Clone(text)}, table: &paper{tableOf(text)}, can: keeps(x, y)}
			for _, op := range edges() {
				wantTold(t, h, op, k.do(op))
				d.wantCalls(t, k.diary.calls...)
				k.diary.forget()
			}
			k.data.wantState(t, data)
			k.table.wantState(t, table)
		}
	}
}

// Any ops, with calls that are refused at any place, and bytes of both files that are changed below: as on paper.
func TestBook(t *testing.T) {
	c := chance(10)
	for range 1500 {
		text := c.text(c.below(300))
		data, table := span.New(text), span.New(tableOf(text))
		a, b, d := two(t, data, table)
		x, y := uint8(c.below(16))|9, uint8(c.below(16))|9
		h := newSums(t, a.handle(x), b.handle(y))
		k := &book{data: &paper{bytes.Clone(text)}, table: &paper{tableOf(text)}, can: keeps(x, y)}
		for range 15 {
			if c.below(4) == 0 {
				meddle(&c, data, k.data)
			}
			if c.below(8) == 0 {
				meddle(&c, table, k.table)
			}
			if c.below(3) == 0 {
				skip, e := c.below(12), errnos()[c.below(8)]
				d.refuseBehind(skip, e)
				k.diary.refuseBehind(skip, e)
			}
			op := c.op()
			wantTold(t, h, op, k.do(op))
			if !slices.Equal(d.calls, k.diary.calls) {
				t.Fatalf("of Do %d at %d, %d, of %d bytes, the files were asked %.900q, want %.900q", op.Do, op.At, op.N, len(op.B), d.calls, k.diary.calls)
			}
			d.forget()
			k.diary.forget()
			k.data.wantState(t, data)
			k.table.wantState(t, table)
		}
	}
}

// meddle changes a file, and the paper likewise: a byte, or its Size.
func meddle(c *chance, s *span.Bytes, p *paper) {
	size := s.Size()
	if size > 0 && c.below(3) > 0 {
		at, b := int64(c.below(int(size))), c.text(1)
		s.Put(at, b)
		p.write(at, b)
		return
	}
	size = max(size+int64(c.below(21)-10), 0)
	s.Cut(size)
	p.cut(size)
}
