package cipher_test

import (
	"math"
	"testing"

	"mantle/api"
	"mantle/span"
)

// Cuts of small files to all sizes: shorter and to just Size it is the file's Cut, longer ONE WriteAt of turned noughts at Size.
func TestP124EachCut(t *testing.T) {
	for _, key := range keys() {
		for size := range int64(20) {
			for to := range int64(40) {
				s := span.New(turnedOf(key, 0, []byte(letters(int(size)))))
				r, h := watched(t, s, key)
				wantCut(t, h, to, api.OK)
				if to <= size {
					r.wantCalls(t, wasCut(to))
				} else {
					r.wantCalls(t, wrote(size, streamOf(key, size, int(to-size))))
				}
				p := paperOf([]byte(letters(int(size))))
				p.cut(to)
				wantAll(t, h, string(p.data))
				paperOf(turnedOf(key, 0, p.data)).wantState(t, s) // all written: what is new is no hole
				if t.Failed() {
					t.Fatalf("key %x, of %d bytes, to %d", key, size, to)
				}
			}
		}
	}
}

// Longer by MaxText, and by one more, and by all there is.
func TestP124CutMaxText(t *testing.T) {
	for _, size := range []int64{0, 1, 8, 11, api.MaxText, api.MaxText + 1} {
		text := letters(int(size))
		s := span.New(turnedOf(2, 0, []byte(text)))
		r, h := watched(t, s, 2)
		for _, to := range []int64{size + api.MaxText + 1, size + api.MaxText + 2, size + 2*api.MaxText, api.MaxSize - 1, api.MaxSize, api.MaxSize + 1, math.MaxInt64} {
			wantCut(t, h, to, api.ErrLong)
		}
		for _, to := range []int64{-1, -api.MaxText, math.MinInt64} {
			wantCut(t, h, to, api.ErrArg)
		}
		r.wantCalls(t)
		wantAll(t, h, text)
		r.forget()
		for i := range int64(3) {
			end := size + i*api.MaxText
			wantCut(t, h, end+api.MaxText, api.OK)
			r.wantCalls(t, wrote(end, streamOf(2, end, api.MaxText)))
		}
		p := paperOf([]byte(text))
		p.cut(size + 3*api.MaxText)
		wantAll(t, h, string(p.data))
		paperOf(turnedOf(2, 0, p.data)).wantState(t, s)
	}
}

// A cut below leaves holes as they are: the cipher's own noughts are written.
func TestP124CutHoles(t *testing.T) {
	s := span.New(nil)
	s.Cut(api.MaxSize)
	r, h := watched(t, s, 2)
	wantCut(t, h, api.MaxSize, api.OK)
	wantCut(t, h, api.MaxSize-1, api.OK)
	wantCut(t, h, 10, api.OK)
	r.wantCalls(t, wasCut(api.MaxSize), wasCut(api.MaxSize-1), wasCut(10))
	wantAll(t, h, string(streamOf(2, 0, 10)))
	wantCut(t, h, 13, api.OK)
	wantAll(t, h, string(streamOf(2, 0, 10))+"\x00\x00\x00")
	if from, to := s.Next(0); from != 10 || to != 13 {
		t.Errorf("below, Next tells %d %d", from, to)
	}
	wantCut(t, h, 0, api.OK)
	wantAll(t, h, "")
	wantCut(t, h, 2, api.OK)
	wantAll(t, h, "\x00\x00")
}

// Without a Cut below, or without a write, there is none: also none that lengthens, or shortens.
func TestP124NoCut(t *testing.T) {
	for can := range uint8(16) {
		if can&3 == 3 {
			continue
		}
		r, _ := watched(t, span.New([]byte("abc")), 2)
		h := newCipher(t, r.handle(can), 2)
		for _, to := range []int64{-1, 0, 2, 3, 4, api.MaxSize, api.MaxSize + 1} {
			wantCut(t, h, to, api.ErrCan)
		}
		r.wantUnasked(t)
		wantAll(t, r.all, "abc")
	}
}

// Sync is the file's, once, whatever it answers, and asks nothing else; there is one over files that can nothing else, too.
func TestP124Sync(t *testing.T) {
	for can := range uint8(16) {
		if can&api.CanSync == 0 {
			continue
		}
		for _, e := range append(errnos(), api.OK) {
			r, _ := watched(t, span.New([]byte("abc")), 2)
			h := newCipher(t, r.handle(can), 2)
			r.refuseBehind(1, e)
			wantSync(t, h, api.OK)
			wantSync(t, h, e)
			wantSync(t, h, e)
			sync := call(api.Op{Do: api.DoSync})
			if r.sizes > 0 {
				t.Errorf("Size was asked %d times", r.sizes)
			}
			r.wantCalls(t, sync, sync, sync)
			wantAll(t, r.all, "abc")
		}
	}
}
