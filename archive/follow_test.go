package archive_test

import (
	"bytes"
	"slices"
	"sync"
	"testing"

	"mantle/api"
	"mantle/archive"
)

// readAll is what is told of a text that is cut at some places, by the calls alone, and whether the reader is torn.
func readAll(b []byte, ends ...int) (told list, r *archive.Reader, torn bool) {
	r = archive.New()
	at := 0
	for _, end := range append(slices.Clone(ends), len(b)) {
		l, e := r.Feed(bytes.Clone(b[at:end]))
		told = append(told, l...)
		torn = torn || e != api.OK
		at = end
	}
	return told, r, torn
}

// wantBack holds P26.4's first half.
func wantBack(t *testing.T, l list, b []byte, ends ...int) {
	t.Helper()
	told, r, torn := readAll(b, ends...)
	if torn || !r.Done() || r.Held() != 0 || !slices.EqualFunc(told, l, sameItem) {
		t.Fatalf("cut at %v, read back are %s, want %s; torn %v, Done %v, Held %d", ends, text(told), text(l), torn, r.Done(), r.Held())
	}
}

// wantAlike holds P26.4's other half: the text at once and cut.
func wantAlike(t *testing.T, b []byte, ends ...int) {
	t.Helper()
	one, r, torn := readAll(b)
	two, s, alsoTorn := readAll(b, ends...)
	if torn != alsoTorn || r.Done() != s.Done() || r.Held() != s.Held() || !slices.EqualFunc(one, two, sameItem) {
		t.Fatalf("%x: at once %s, %v; cut at %v %s, %v", b, text(one), torn, ends, text(two), alsoTorn)
	}
}

// P26.4: any items, in any pieces.
func TestP264Any(t *testing.T) {
	for seed := range chance(3000) {
		c := seed
		l := c.items(12)
		b, e, at := archive.Write(l)
		if e != api.OK || at != 0 {
			t.Fatalf("seed %d: Write(%s) answers %v, %d", seed, text(l), e, at)
		}
		wantBack(t, l, b)
		for range 5 {
			ends := c.cuts(len(b), 12)
			wantBack(t, l, b, ends...)
			read(t, b, ends...)
		}
		readBytes(t, b)
	}
}

// P26.4: as many items as may be, in pieces of many lengths.
func TestP264Many(t *testing.T) {
	for _, n := range []int{0, 1, 2, 100, 4096} {
		l := many(n)
		b, _, _ := archive.Write(l)
		for _, long := range []int{1, 2, 3, 28, 29, 1000, 65536} {
			var ends []int
			for at := long; at < len(b); at += long {
				ends = append(ends, at)
			}
			wantBack(t, l, b, ends...)
		}
	}
}

// P26.4: texts that tear, too, tell the same however they are cut.
func TestP264Torn(t *testing.T) {
	told := map[string]int{}
	for seed := range chance(12000) {
		c := seed
		b := c.forged()
		for range 3 {
			ends := c.cuts(len(b), 8)
			wantAlike(t, b, ends...)
			read(t, b, ends...)
		}
		s := readBytes(t, b)
		switch {
		case s.torn < 0 && s.end >= 0:
			told["done"]++
		case s.torn < 0:
			told["more wanted"]++
		case len(s.items) > 0:
			told["torn behind items"]++
		default:
			told["torn at once"]++
		}
	}
	for _, k := range []string{"done", "more wanted", "torn behind items", "torn at once"} {
		if told[k] < 400 {
			t.Errorf("%d: %s", told[k], k)
		}
	}
}

// turned holds P26.5 of one byte that is turned.
func turned(t *testing.T, l list, b []byte, at int, x byte, ends ...int) {
	t.Helper()
	c := bytes.Clone(b)
	c[at] = x
	told, r, _ := readAll(c, ends...)
	if len(told) > len(l) || !slices.EqualFunc(told, l[:len(told)], sameItem) || r.Done() {
		t.Fatalf("byte %d of %x is %x: told are %s; Done %v", at, b, x, text(told), r.Done())
	}
}

// P26.5: each byte of some archives, turned into each other one.
func TestP265Each(t *testing.T) {
	for _, l := range []list{nil, {file("a", "")}, {file("a", "x"), dir("b")}, each(), many(3), {link("l", "\xff\x00\x00\x00\x01")}} {
		b, _, _ := archive.Write(l)
		for at := range b {
			for x := range 256 {
				if byte(x) != b[at] {
					turned(t, l, b, at, byte(x))
					turned(t, l, b, at, byte(x), at, at+1)
				}
			}
			c := bytes.Clone(b)
			c[at] ^= 1 << (at % 8)
			readBytes(t, c)
		}
	}
}

// P26.5: of any items, too.
func TestP265Any(t *testing.T) {
	for seed := range chance(1500) {
		c := seed
		l := c.items(12)
		b, _, _ := archive.Write(l)
		for range 40 {
			at := c.below(len(b))
			turned(t, l, b, at, b[at]^byte(1+c.below(255)), c.cuts(len(b), 4)...)
		}
	}
}

// wantOnly holds P26.6 of a text.
func wantOnly(t *testing.T, b []byte) (done bool) {
	t.Helper()
	told, r, torn := readAll(b)
	if !r.Done() {
		return false
	}
	again, e, at := archive.Write(told)
	if torn || e != api.OK || at != 0 || !bytes.Equal(again, b) {
		t.Fatalf("%x is read as %s, which is written as %x, %v, %d", b, text(told), again, e, at)
	}
	return true
}

// P26.6: any texts, all of whose sums may be right.
func TestP266Any(t *testing.T) {
	done := 0
	for seed := range chance(30000) {
		c := seed
		if wantOnly(t, c.forged()) {
			done++
		}
	}
	if done < 3000 {
		t.Errorf("%d were read to the end", done)
	}
}

// P26.6: texts with a byte more or less, or with two parts in each other's place, and any bytes at all.
func TestP266Other(t *testing.T) {
	b, _, _ := archive.Write(each())
	for i := range b {
		if wantOnly(t, slices.Delete(bytes.Clone(b), i, i+1)) || wantOnly(t, b[:i]) || wantOnly(t, b[i:]) && i > 0 {
			t.Errorf("without byte %d it is read to the end", i)
		}
		for _, x := range []byte{0, 1, 0xff, b[i]} {
			if wantOnly(t, slices.Insert(bytes.Clone(b), i, x)) {
				t.Errorf("with one more %x at %d it is read to the end", x, i)
			}
		}
	}
	for seed := range chance(3000) {
		c := seed
		wantOnly(t, c.bytes(60))
		wantOnly(t, append([]byte("MTA1"), c.bytes(60)...))
		read(t, append([]byte("MTA1"), c.bytes(60)...), 4)
	}
}

// P13: how many goroutines work, each with a reader of its own, changes no answer.
func TestWorkers(t *testing.T) {
	b, _, _ := archive.Write(each())
	var all sync.WaitGroup
	for i := range 16 {
		all.Go(func() {
			for n := 1; n < 60; n++ {
				if told, r, torn := readAll(b, n, n+i); torn || !r.Done() || !slices.EqualFunc(told, each(), sameItem) {
					t.Errorf("worker %d: %s", i, text(told))
				}
				if c, e, _ := archive.Write(each()); e != api.OK || !bytes.Equal(b, c) {
					t.Errorf("worker %d writes %x", i, c)
				}
			}
		})
	}
	all.Wait()
}
