package pack_test

import (
	"bytes"
	"testing"

	"mantle/api"
	"mantle/face"
	"mantle/pack"
)

// wantBack: there and back, in no more bytes than are promised.
func wantBack(t *testing.T, b []byte) {
	t.Helper()
	there, e := pack.Pack(b)
	back, f := pack.Unpack(there)
	if e != api.OK || f != api.OK || !bytes.Equal(back, b) {
		t.Errorf("%d bytes, %.80q, come back as %d bytes, %.80q, %v, %v", len(b), b, len(back), back, e, f)
	}
	if n := len(b); len(there) > 4+n+(n+127)/128 {
		t.Errorf("%d bytes, %.80q, are packed into %d", n, b, len(there))
	}
}

func TestP114(t *testing.T) {
	for _, b := range texts() {
		wantBack(t, b)
	}
	for n := range 11 {
		each(n, 2, func(b []byte) { wantBack(t, b) })
	}
	c := chance(114)
	for range 1000 {
		wantBack(t, c.mixed(c.below(3000)))
		wantBack(t, c.text(c.below(700), 1+c.below(20)))
	}
	for range 8 {
		wantBack(t, c.mixed(api.MaxText-c.below(3)))
	}
}

// Bytes that never match take just as many as are promised at most.
func TestP114Most(t *testing.T) {
	for n := range 1000 {
		if there, e := pack.Pack(counted(n, 256)); len(there) != 4+n+(n+127)/128 || e != api.OK {
			t.Errorf("%d bytes are packed into %d, %v", n, len(there), e)
		}
	}
	if there, _ := pack.Pack(counted(api.MaxText, 256)); len(there) != 4+65536+512 {
		t.Errorf("%d bytes", len(there))
	}
}

// wantOnly: these are taken, and neither with an end left away nor with more behind.
func wantOnly(t *testing.T, b []byte) {
	t.Helper()
	if _, e := pack.Unpack(b); e != api.OK {
		t.Fatalf("%v is not taken: %v", some(b), e)
	}
	for n := range b {
		wantUnpack(t, b[:n], nil, api.ErrPack)
	}
	for x := range 256 {
		wantUnpack(t, append(b[:len(b):len(b)], byte(x)), nil, api.ErrPack)
	}
	for _, more := range [][]byte{run("a"), {128, 1}, {255, 1}, {128, 0}, run("abcdef"), make([]byte, 300), b} {
		wantUnpack(t, append(b[:len(b):len(b)], more...), nil, api.ErrPack)
	}
}

func TestP115(t *testing.T) {
	c := chance(115)
	wantOnly(t, four(0))
	for range 200 {
		b, _ := c.piled(c.below(400))
		wantOnly(t, b)
		there, _ := pack.Pack(c.mixed(c.below(400)))
		wantOnly(t, there)
	}
	for n := range 7 {
		each(n, 3, func(b []byte) {
			there, _ := pack.Pack(b)
			wantOnly(t, there)
		})
	}
}

// With bytes left away or more behind New does not take them, either.
func TestP115New(t *testing.T) {
	b := packed([]byte("banana banana"))
	for n := range b {
		wantRefused(t, newFile(t, b[:n], 15), api.ErrPack)
	}
	wantRefused(t, newFile(t, append(b, 0), 15), api.ErrPack)
	wantRefused(t, newFile(t, cat(b, run("x")), 15), api.ErrPack)
}

// fileOfPack is the file of Pack(b).
func fileOfPack(t *testing.T, b []byte, can uint8) *face.Handle {
	t.Helper()
	there, e := pack.Pack(b)
	if e != api.OK {
		t.Fatal(e)
	}
	return newPack(t, newFile(t, there, can))
}

// Every place and length of a few bytes; pieces of one length of many; any pieces in any order.
func TestP116(t *testing.T) {
	few := []byte("abcabcabcxyzzzzzzzzz-abcabc")
	p := fileOfPack(t, few, 15)
	for at := range len(few) + 2 {
		for n := range len(few) + 2 {
			op := api.Op{Do: api.DoRead, At: int64(at), N: n}
			wantTold(t, p, op, plain(few, op))
		}
	}
	c := chance(116)
	for i, b := range texts() {
		p := fileOfPack(t, b, uint8(i%16))
		wantAll(t, p, string(b))
		for _, n := range []int{1, 2, 3, 64, 127, 1000, 65535} {
			wantPieces(t, p, b, max(n, len(b)/500))
		}
		for range 30 {
			op := api.Op{Do: api.DoRead, At: int64(c.below(len(b) + 9)), N: c.below(len(b)/10 + 9)}
			wantTold(t, p, op, plain(b, op))
		}
	}
}

// wantPieces reads all of a file, n bytes at a time.
func wantPieces(t *testing.T, h *face.Handle, want []byte, n int) {
	t.Helper()
	var all []byte
	for {
		x := h.Do(api.Op{Do: api.DoRead, At: int64(len(all)), N: n})
		if x.E != api.OK || len(x.Data) > n {
			t.Fatalf("a read of %d tells %d bytes, %v", n, len(x.Data), x.E)
		}
		if len(x.Data) == 0 {
			break
		}
		all = append(all, x.Data...)
	}
	if !bytes.Equal(all, want) {
		t.Errorf("in pieces of %d it reads %.80q, want %.80q", n, all, want)
	}
}

// Packed bytes of packed bytes: files over files.
func TestP116Stacked(t *testing.T) {
	b := bytes.Repeat([]byte("banana "), 900)
	there := b
	const layers = 5
	for range layers {
		there, _ = pack.Pack(there)
	}
	h := newFile(t, there, 15)
	for range layers {
		h = newPack(t, h)
	}
	wantAll(t, h, string(b))
}
