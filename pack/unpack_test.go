package pack_test

import (
	"bytes"
	"testing"

	"mantle/api"
	"mantle/pack"
)

func wantUnpack(t *testing.T, b, want []byte, wantE api.Errno) {
	t.Helper()
	got, e := pack.Unpack(b)
	if e != wantE || !bytes.Equal(got, want) || e != api.OK && got != nil {
		t.Errorf("Unpack of %d bytes, %v, answers %d bytes, %.100q, %v, want %d bytes, %.100q, %v", len(b), some(b), len(got), got, e, len(want), want, wantE)
	}
}

// wantTaken: they are packed bytes.
func wantTaken(t *testing.T, want string, pieces ...[]byte) {
	t.Helper()
	wantUnpack(t, append(four(len(want)), cat(pieces...)...), []byte(want), api.OK)
}

// wantNone: whatever number of bytes is said, they are no packed ones.
func wantNone(t *testing.T, pieces ...[]byte) {
	t.Helper()
	for n := range 300 {
		wantUnpack(t, append(four(n), cat(pieces...)...), nil, api.ErrPack)
	}
}

func TestP112Examples(t *testing.T) {
	wantUnpack(t, []byte{0, 0, 0, 4, 0, 'a', 128, 1}, []byte("aaaa"), api.OK)
	wantUnpack(t, []byte{0, 0, 0, 5, 1, 'a', 'b', 128, 2}, []byte("ababa"), api.OK)
	wantUnpack(t, []byte{0, 1, 0, 1}, nil, api.ErrLong)
	for _, b := range [][]byte{{0, 0, 0}, {0, 0, 0, 1, 0}, {0, 0, 0, 4, 0, 'a', 128, 0}, {0, 0, 0, 4, 0, 'a', 128, 2}, {0, 0, 0, 3, 0, 'a', 128, 1}, {0, 0, 0, 0, 0, 'a'}} {
		wantUnpack(t, b, nil, api.ErrPack)
	}
}

// Fewer than four bytes are none, also such as would say too many; just four are, if they say none.
func TestP112Four(t *testing.T) {
	wantUnpack(t, nil, nil, api.ErrPack)
	for n := range 4 {
		wantUnpack(t, make([]byte, n, 9), nil, api.ErrPack)
		wantUnpack(t, bytes.Repeat([]byte{255}, n), nil, api.ErrPack)
	}
	wantUnpack(t, []byte{0, 0, 0, 0}, nil, api.OK)
	for _, n := range []int{1, 2, 255, 256, api.MaxText - 1, api.MaxText} {
		wantUnpack(t, four(n), nil, api.ErrPack)
	}
}

// Above MaxText it is ErrLong, whatever stands behind: nothing, pieces that are none, and just so many bytes.
func TestP112Long(t *testing.T) {
	for _, n := range []int{api.MaxText + 1, api.MaxText + 2, api.MaxText + 256, 1 << 17, 1 << 20, 1 << 24, 1<<24 + 1, 1<<31 - 1, 1 << 31, 1<<31 + 1, 1<<32 - 65536, 1<<32 - 1} {
		for _, behind := range [][]byte{nil, {0}, {0, 'a'}, {128}, {128, 0}, {128, 1}, {0, 'a', 128, 9}, bytes.Repeat([]byte{0, 'a'}, 1000)} {
			wantUnpack(t, append(four(n), behind...), nil, api.ErrLong)
		}
	}
	wantUnpack(t, ones(api.MaxText+1), nil, api.ErrLong)
	wantUnpack(t, []byte{1, 0, 0, 0}, nil, api.ErrLong)
	wantUnpack(t, []byte{255, 255, 255, 255}, nil, api.ErrLong)
	wantUnpack(t, []byte{128, 0, 0, 0}, nil, api.ErrLong)
}

// The four bytes stand for one number, the highest first.
func TestP112Number(t *testing.T) {
	for _, n := range []int{1, 2, 127, 128, 129, 254, 255, 256, 257, 258, 511, 512, 65279, 65280, 65281, api.MaxText - 1, api.MaxText} {
		wantUnpack(t, ones(n), make([]byte, n), api.OK)
		b := append(four(n), ones(n - 1)[4:]...)
		wantUnpack(t, b, nil, api.ErrPack)
		wantUnpack(t, append(b, 0, 0, 0, 0), nil, api.ErrPack)
	}
	wantUnpack(t, append([]byte{0, 0, 1, 2}, make([]byte, 2*258)...), make([]byte, 258), api.OK)
	wantUnpack(t, append([]byte{0, 0, 2, 1}, make([]byte, 2*258)...), nil, api.ErrPack)
}

// Runs of all lengths; each of them with a byte missing, and with nothing but the byte that begins it.
func TestP112Runs(t *testing.T) {
	text := counted(128, 256)
	for n := 1; n <= 128; n++ {
		b := run(string(text[:n]))
		wantTaken(t, string(text[:n]), b)
		wantTaken(t, "."+string(text[:n])+"!", run("."), b, run("!"))
		for _, short := range []int{1, (n + 1) / 2, n} {
			wantNone(t, b[:short])
			wantNone(t, run("."), b[:short])
		}
	}
}

// Matches of all lengths, with d of 1, of all that was told, and of one more; of 0; and without their d.
func TestP112Matches(t *testing.T) {
	text := counted(128, 256)
	for long := 3; long <= 130; long++ {
		c := byte(125 + long)
		for _, ahead := range []int{1, 2, 3, 4, 100, 127, 128} {
			first := run(string(text[:ahead]))
			for d := 1; d <= ahead; d++ {
				want := bytes.Clone(text[:ahead])
				for range long {
					want = append(want, want[len(want)-d])
				}
				wantTaken(t, string(want), first, []byte{c, byte(d)})
			}
			b := append(four(ahead+long), first...)
			for d := ahead + 1; d < 256; d++ {
				wantUnpack(t, append(b, c, byte(d)), nil, api.ErrPack)
			}
			wantUnpack(t, append(b, c, 0), nil, api.ErrPack)
			wantUnpack(t, append(b, c), nil, api.ErrPack)
		}
		wantNone(t, run("a"), []byte{c})
		wantNone(t, run("a"), []byte{c, 0})
	}
}

// d counts what was told, by runs and matches alike: 255 of the most, and no more than that.
func TestP112Far(t *testing.T) {
	text := string(counted(256, 256))
	for n := 129; n <= 256; n++ {
		two := [][]byte{run(text[:128]), run(text[128:n])}
		d := min(n, 255)
		wantTaken(t, text[:n]+text[n-d:n-d+3], append(two, []byte{128, byte(d)})...)
		if d < 255 {
			wantUnpack(t, append(four(n+3), cat(two[0], two[1], []byte{128, byte(d + 1)})...), nil, api.ErrPack)
		}
	}
	wantTaken(t, "aaaa"+"aaa", run("a"), []byte{128, 1}, []byte{128, 4})
	wantUnpack(t, cat(four(7), run("a"), []byte{128, 1, 128, 5}), nil, api.ErrPack)
}

// A match can't be the first piece, whatever its d.
func TestP112FirstMatch(t *testing.T) {
	for c := 128; c < 256; c++ {
		for d := range 256 {
			wantUnpack(t, append(four(c-125), byte(c), byte(d)), nil, api.ErrPack)
		}
		wantUnpack(t, append(four(c-125), byte(c)), nil, api.ErrPack)
		wantUnpack(t, append(four(0), byte(c), 1), nil, api.ErrPack)
	}
	wantNone(t, []byte{128, 1})
	wantNone(t, []byte{128, 1}, run("abc"))
}

// Pieces that stand for one byte fewer and one more than the four bytes say, and for many more; the last of them a run, or a match.
func TestP112OtherNumber(t *testing.T) {
	for _, pieces := range [][]byte{run("a"), run("abc"), cat(run("a"), []byte{128, 1}), cat(run("ab"), []byte{255, 2}, run("cd"), []byte{130, 1}), cat(run("a"), []byte{128, 1}, run("b"))} {
		told, n := []byte(nil), 0
		for told == nil {
			n++
			told, _ = unpacked(append(four(n), pieces...))
		}
		for says := range n + 140 {
			b := append(four(says), pieces...)
			if says == n {
				wantUnpack(t, b, told, api.OK)
				continue
			}
			wantUnpack(t, b, nil, api.ErrPack)
		}
		for says := n + 140; says <= api.MaxText; says += 997 {
			wantUnpack(t, append(four(says), pieces...), nil, api.ErrPack)
		}
	}
}

// One byte more than MaxText is none, though the four bytes say MaxText.
func TestP112Most(t *testing.T) {
	for _, tail := range [][]byte{run("ab"), {128, 1}, {255, 1}, {127}, run(string(counted(128, 256)))} {
		wantUnpack(t, cat(four(api.MaxText), ones(api.MaxText - 1)[4:], tail), nil, api.ErrPack)
	}
	wantUnpack(t, cat(four(api.MaxText), ones(api.MaxText - 3)[4:], []byte{128, 1}), make([]byte, api.MaxText), api.OK)
	wantUnpack(t, cat(four(api.MaxText), ones(api.MaxText - 130)[4:], []byte{255, 255}), make([]byte, api.MaxText), api.OK)
	wantUnpack(t, append(four(0), make([]byte, 1<<20)...), nil, api.ErrPack)
}

// What Pack would not have made is taken as well.
func TestP112NotByPack(t *testing.T) {
	wantTaken(t, "abc", run("a"), run("b"), run("c"))
	wantTaken(t, "aaaa", run("aaaa"))
	wantTaken(t, "aaaaaaa", run("aaaa"), []byte{128, 4})
	wantTaken(t, "aaaaaaa", run("aaaa"), []byte{128, 3})
	wantTaken(t, "aaaaaaa", run("a"), []byte{128, 1}, []byte{128, 2})
	wantTaken(t, "abcabcabc", run("abcabc"), []byte{128, 6})
	wantTaken(t, "abcabcabc", run("abcabcabc"))
	wantTaken(t, "abcdabcd", run("abcd"), []byte{128, 4}, run("d"))
	wantTaken(t, "ababababa", run("abab"), []byte{128, 4}, run("ba"))
}

// Whatever bytes come: as on paper.
func TestP112Book(t *testing.T) {
	kinds := []byte{0, 1, 2, 3, 127, 128, 129, 255}
	for n := range 6 {
		each(n, len(kinds), func(b []byte) {
			pieces := make([]byte, n)
			for i, k := range b {
				pieces[i] = kinds[k]
			}
			for says := range 9 {
				wantBook(t, append(four(says), pieces...))
			}
		})
	}
	c := chance(112)
	for range 20000 {
		b, told := c.piled(c.below(300))
		wantUnpack(t, b, told, api.OK)
		switch at := c.below(len(b)); c.below(4) {
		case 0:
			b[at] = byte(c.below(256))
		case 1:
			b = append(b[:at], b[at+1:]...)
		case 2:
			b = cat(b[:at], c.text(1, 256), b[at:])
		case 3:
			b = b[:at]
		}
		wantBook(t, b)
		wantBook(t, c.text(c.below(12), 256))
	}
}

func wantBook(t *testing.T, b []byte) {
	t.Helper()
	want, e := unpacked(b)
	wantUnpack(t, b, want, e)
}

// What is handed in is neither changed nor kept, and the room behind it counts for nothing; what is handed out is new memory each time.
func TestP112Memory(t *testing.T) {
	c := chance(2)
	for range 300 {
		b, told := c.piled(c.below(1000))
		all := append(bytes.Clone(b), 0, 'x', 128, 1, 0, 'y')
		was := bytes.Clone(all)
		wantUnpack(t, all[:len(b)-1], nil, api.ErrPack)
		one, _ := pack.Unpack(all[:len(b)])
		two, _ := pack.Unpack(all[:len(b)])
		if !bytes.Equal(all, was) {
			t.Fatal("Unpack changes its bytes")
		}
		clear(all)
		if !bytes.Equal(one, told) {
			t.Error("the answer shares memory with the argument")
		}
		one = append(one, 1, 2, 3)
		clear(one[:cap(one)])
		if !bytes.Equal(two, told) {
			t.Error("two answers share memory")
		}
	}
}
