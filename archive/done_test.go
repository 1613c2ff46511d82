package archive_test

import (
	"testing"

	"mantle/archive"
)

// P26.3: at each byte of an archive.
func TestP263EachByte(t *testing.T) {
	b := wantWritten(t, file("a", "xyz"), dir("b")) // 4, 25, 22 and 13 bytes
	if len(b) != 64 {
		t.Fatalf("%d bytes", len(b))
	}
	r := archive.New()
	for i := range b {
		r.Feed(b[i : i+1])
		came := i + 1
		want := 0
		switch {
		case came < 4:
			want = came
		case came >= 4 && came < 29:
			want = came - 4
		case came >= 29 && came < 51:
			want = came - 29
		case came >= 51 && came < 64:
			want = came - 51
		}
		if r.Held() != want || r.Done() != (came == 64) {
			t.Errorf("behind %d bytes: Held %d, want %d; Done %v", came, r.Held(), want, r.Done())
		}
	}
}

// P26.3: in one Feed up to each byte.
func TestP263UpToEachByte(t *testing.T) {
	b := wantWritten(t, each()...)
	for i := range len(b) + 1 {
		wantStands(t, b[:i], len(paperRead(b[:i]).items), i == len(b))
	}
}

// P26.3: of a torn reader, wherever it was torn, whatever it held.
func TestP263Torn(t *testing.T) {
	b := wantWritten(t, each()...)
	for i := range b {
		c := append([]byte(nil), b...)
		c[i] ^= 0x08
		r := archive.New()
		for k := range c {
			r.Feed(c[k : k+1])
			if k < i && r.Done() {
				t.Fatalf("byte %d is another one: Done at %d", i, k)
			}
		}
		if r.Done() || r.Held() != 0 {
			t.Errorf("byte %d is another one: Done %v, Held %d", i, r.Done(), r.Held())
		}
		r.Feed(nil)
		r.Feed(b)
		if r.Done() || r.Held() != 0 {
			t.Errorf("byte %d is another one, and more comes: Done %v, Held %d", i, r.Done(), r.Held())
		}
	}
}

// P26.3: of a new one, of one to which the end came, and of that when it is torn.
func TestP263Done(t *testing.T) {
	r := archive.New()
	if r.Done() || r.Held() != 0 {
		t.Error("a new reader is Done, or holds something")
	}
	b := wantWritten(t)
	r.Feed(b)
	for range 3 {
		if !r.Done() || r.Held() != 0 {
			t.Errorf("behind the end: Done %v, Held %d", r.Done(), r.Held())
		}
		r.Feed(nil)
	}
	r.Feed(b[:1])
	for range 3 {
		if r.Done() || r.Held() != 0 {
			t.Errorf("behind one byte more: Done %v, Held %d", r.Done(), r.Held())
		}
		r.Feed(nil)
	}
}
