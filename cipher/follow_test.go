package cipher_test

import (
	"bytes"
	"testing"

	"mantle/api"
	"mantle/face"
	"mantle/span"
)

// wide makes an op reach far, now and then: it is one of l, or ends near to where a cipher refuses it.
func wide(c *chance, l []api.Op, op api.Op, size int64) api.Op {
	if c.below(12) == 0 {
		return l[c.below(len(l))]
	}
	if c.below(12) == 0 {
		op.At = size + int64(api.MaxText-len(op.B)+c.below(3)-1)
	}
	return op
}

// far tells whether an op reaches so far behind the end that a cipher refuses it, where a plain file does not.
func far(op api.Op, size int64) bool {
	switch op.Do {
	case api.DoWrite:
		return len(op.B) > 0 && op.At > size && op.At+int64(len(op.B))-size > api.MaxText
	case api.DoCut:
		return op.At-size > api.MaxText
	}
	return false
}

// wantPlain does any ops, some of them out of l, through h, which can so much, and holds what is told against a plain file of these bytes; and what stands in s against them as they are below, all of them written.
func wantPlain(t *testing.T, c *chance, l []api.Op, h *face.Handle, can uint8, text []byte, s *span.Bytes, below func(b []byte) []byte) {
	t.Helper()
	plain := paperOf(text)
	for range 40 {
		op := wide(c, l, c.op(), plain.size())
		want := api.Told{E: api.ErrLong}
		if cannot(can, op) != api.OK || refuses(op) != api.OK || !far(op, plain.size()) {
			want = plain.do(can, op)
		}
		wantTold(t, h, op, want)
		if paperOf(below(plain.data)).wantState(t, s); t.Failed() {
			t.Fatalf("set %d: Do %d at %d, %d, of %d bytes", can, op.Do, op.At, op.N, len(op.B))
		}
		if plain.size() > 1000 { // a long file takes long to be held against another one, each time
			s.Cut(30)
			plain.cut(30)
		}
	}
	wantAll(t, h, string(plain.data))
}

// Any mixture of ops is told as a plain file tells it, as far as the cipher can, and below stand these bytes, turned, and nothing else.
func TestP125Plain(t *testing.T) {
	c, l := chance(125), edges()
	for range 300 {
		key, can, text := c.key(), uint8(c.below(16)), c.bytes(c.below(50))
		s := span.New(turnedOf(key, 0, text))
		h := newCipher(t, fileOf(t, s, can), key)
		wantPlain(t, &c, l, h, keeps(can), text, s, func(b []byte) []byte { return turnedOf(key, 0, b) })
	}
}

// Each op at every bound, through a handle of each set over a file of each set: what is told, what the file below is asked, and what stands there, holes too.
func TestEdges(t *testing.T) {
	for can := range uint8(16) {
		for _, only := range []uint8{15, 0, 1, 3, 8, 15 - can} {
			s, p := patterned(40, 0b10110101)
			r, _ := watched(t, s, 31)
			h := newCipher(t, r.handle(can), 31).Only(only)
			k := &book{below: p, can: can, key: 31}
			for _, op := range edges() {
				want := api.Told{E: cannot(keeps(can)&only, op)}
				if want.E == api.OK {
					want = k.do(op)
				}
				wantTold(t, h, op, want)
				r.wantCalls(t, k.diary.calls...)
				if k.diary.forget(); t.Failed() {
					t.Fatalf("set %d: Do %d at %d, %d, of %d bytes", can, op.Do, op.At, op.N, len(op.B))
				}
			}
			p.wantState(t, s)
		}
	}
}

// Any ops, with calls that are refused at any place, and bytes that are changed below: as on paper.
func TestBook(t *testing.T) {
	c := chance(12)
	for range 1500 {
		s, p := patterned(int64(c.below(50)), uint16(c.below(1<<16)))
		k := &book{below: p, can: uint8(c.below(16)) | 1, key: c.key()}
		r, _ := watched(t, s, k.key)
		h := newCipher(t, r.handle(k.can), k.key)
		for range 15 {
			if c.below(4) == 0 {
				meddle(&c, s, p)
			}
			if c.below(4) == 0 {
				e := errnos()[c.below(9)]
				r.refuseBehind(0, e)
				k.diary.refuseBehind(0, e)
			}
			op := c.op()
			wantTold(t, h, op, k.do(op))
			r.wantCalls(t, k.diary.calls...)
			k.diary.forget()
			if p.wantState(t, s); t.Failed() {
				t.Fatalf("key %x, set %d: Do %d at %d, %d, of %d bytes", k.key, k.can, op.Do, op.At, op.N, len(op.B))
			}
		}
	}
}

// meddle changes a file, and the paper likewise: a byte, or its Size.
func meddle(c *chance, s *span.Bytes, p *paper) {
	if size := s.Size(); size > 0 && c.below(3) > 0 {
		at, b := int64(c.below(int(size))), c.bytes(1)
		s.Put(at, b)
		p.write(at, b)
		return
	}
	size := int64(c.below(60))
	s.Cut(size)
	p.cut(size)
}

// A cipher over a cipher of the same key is the file: it tells what that tells, and what it writes stands below as it is, gaps as noughts.
func TestP126Twice(t *testing.T) {
	c, l := chance(1262), edges()
	for range 200 {
		key, can, text := c.key(), uint8(c.below(16)), c.bytes(c.below(50))
		s := span.New(text)
		h := newCipher(t, newCipher(t, fileOf(t, s, can), key), key)
		wantPlain(t, &c, l, h, keeps(can), text, s, bytes.Clone)
	}
}

// A cipher over a cipher of another key is neither of them, and not the file; each byte is turned by both, in whichever order.
func TestP126OtherKey(t *testing.T) {
	text := letters(60)
	for _, a := range keys() {
		for _, b := range keys() {
			if a == b {
				continue
			}
			f := newFile(t, "", 15)
			inner := newCipher(t, f, a)
			outer := newCipher(t, inner, b)
			wantWrite(t, outer, 5, text, api.OK)
			plain := "\x00\x00\x00\x00\x00" + text
			wantAll(t, outer, plain)
			wantAll(t, inner, string(turnedOf(b, 0, []byte(plain))))
			below := string(turnedOf(a, 0, turnedOf(b, 0, []byte(plain))))
			wantAll(t, f, below)
			wantAll(t, newCipher(t, newCipher(t, f, b), a), plain)
			if below == plain {
				t.Errorf("the keys %x and %x together are none", a, b)
			}
		}
	}
}

// Many ciphers, one over the other: each key twice is the file, in whatever order they stand.
func TestP126Many(t *testing.T) {
	f := newFile(t, letters(30), 15)
	h := f
	for range 2 {
		for _, key := range keys() {
			h = newCipher(t, h, key)
		}
	}
	wantAll(t, h, letters(30))
	wantWrite(t, h, 33, "xyz", api.OK)
	wantCut(t, h, 40, api.OK)
	wantCut(t, h, 39, api.OK)
	wantSync(t, h, api.OK)
	wantAll(t, f, letters(30)+"\x00\x00\x00xyz\x00\x00\x00")
	wantAll(t, h, letters(30)+"\x00\x00\x00xyz\x00\x00\x00")
}
