package pack_test

import (
	"bytes"
	"testing"

	"mantle/api"
	"mantle/pack"
)

func wantPack(t *testing.T, b, want []byte) {
	t.Helper()
	if got, e := pack.Pack(b); e != api.OK || !bytes.Equal(got, want) {
		t.Errorf("Pack of %d bytes, %.80q, answers %d bytes, %v, %v, want %d bytes, %v", len(b), b, len(got), some(got), e, len(want), some(want))
	}
}

func TestP111Examples(t *testing.T) {
	for s, want := range map[string][]byte{
		"":          {0, 0, 0, 0},
		"a":         {0, 0, 0, 1, 0, 'a'},
		"aaaa":      {0, 0, 0, 4, 0, 'a', 128, 1},
		"abcabcabc": {0, 0, 0, 9, 2, 'a', 'b', 'c', 131, 3},
	} {
		wantPack(t, []byte(s), want)
	}
	wantPack(t, nil, []byte{0, 0, 0, 0})
}

// Just MaxText bytes are taken, whatever they are; of one more and of many nothing but the error is answered.
func TestP111Long(t *testing.T) {
	for _, n := range []int{api.MaxText + 1, api.MaxText + 2, 2 * api.MaxText, 1 << 24} {
		if b, e := pack.Pack(make([]byte, n)); b != nil || e != api.ErrLong {
			t.Errorf("Pack of %d bytes answers %d bytes, %v", n, len(b), e)
		}
	}
	want := append([]byte{0, 1, 0, 0}, run("\x00")...)
	for left := api.MaxText - 1; left > 0; left -= min(left, 130) {
		want = append(want, byte(125+min(left, 130)), 1)
	}
	wantPack(t, make([]byte, api.MaxText), want) // 65535 is 504 matches of 130, and one of 15
	wantPack(t, make([]byte, api.MaxText-1), append([]byte{0, 0, 255, 255}, append(want[4:len(want)-2:len(want)-2], 125+14, 1)...))
}

// Bytes that never match: runs of 128, and one of the rest.
func TestP111Runs(t *testing.T) {
	b := counted(api.MaxText, 256)
	for _, n := range []int{1, 2, 126, 127, 128, 129, 130, 255, 256, 257, 384, 385, api.MaxText - 128, api.MaxText - 127, api.MaxText} {
		want := four(n)
		for at := 0; at < n; at += 128 {
			want = append(want, run(string(b[at:min(at+128, n)]))...)
		}
		wantPack(t, b[:n], want)
	}
}

// One byte, and then all the same: matches of 3 to 130, with d 1, that reach into themselves. What is left behind 130 of them is another piece: one of too few bytes for a match is a run.
func TestP111Alike(t *testing.T) {
	for n, want := range map[int][]byte{
		2: run("xx"), 3: run("xxx"), 4: {0, 'x', 128, 1}, 5: {0, 'x', 129, 1},
		130: {0, 'x', 254, 1}, 131: {0, 'x', 255, 1},
		132: {0, 'x', 255, 1, 0, 'x'}, 133: {0, 'x', 255, 1, 1, 'x', 'x'}, 134: {0, 'x', 255, 1, 128, 1},
		261: {0, 'x', 255, 1, 255, 1}, 262: {0, 'x', 255, 1, 255, 1, 0, 'x'},
	} {
		wantPack(t, bytes.Repeat([]byte("x"), n), append(four(n), want...))
	}
}

// The bytes of a period, and then a match that goes round: of 3 bytes at least, of 130 at most.
func TestP111Periods(t *testing.T) {
	for _, period := range []int{1, 2, 3, 4, 129, 130, 131, 254, 255} {
		for _, more := range []int{3, 4, 129, 130, 131, 132, 133, 260} {
			b := counted(period+more, period)
			want := four(len(b))
			for at := 0; at < period; at += 128 {
				want = append(want, run(string(b[at:min(at+128, period)]))...)
			}
			for more > 2 {
				want = append(want, byte(125+min(more, 130)), byte(period))
				more -= min(more, 130)
			}
			if more > 0 {
				want = append(want, run(string(b[len(b)-more:]))...)
			}
			wantPack(t, b, want)
		}
	}
}

// d is 255 at most: what stands 256 places ahead is no match.
func TestP111Far(t *testing.T) {
	for _, between := range []int{250, 251, 252, 253, 254, 300} {
		fill := counted(between, 255)
		for i := range fill {
			fill[i] = fill[i]%200 + 1 // 200 and more are not in it, and it has matches of its own
		}
		b := cat([]byte{253, 254, 255}, fill, []byte{253, 254, 255})
		got, _ := pack.Pack(b)
		tail := []byte{128, byte(between + 3)}
		if between+3 > 255 {
			tail = []byte{253, 254, 255}
		}
		if !bytes.HasSuffix(got, tail) || !bytes.Equal(got, packed(b)) {
			t.Errorf("with %d bytes between it ends with %v, want %v", between, got[len(got)-5:], tail)
		}
	}
}

// Two bytes that stood there already are no match; nor are three of which the last one is another.
func TestP111TwoMatch(t *testing.T) {
	for _, s := range []string{"ab.ab", "ab.ab!", "abab", "abxaby", "xx", "xxx", "ab-ab+ab*ab"} {
		wantPack(t, []byte(s), append(four(len(s)), run(s)...))
	}
}

// The longest one is taken, be it near or far, and wherever a shorter one stands.
func TestP111Longest(t *testing.T) {
	for s, want := range map[string][]byte{
		"abcde-abc+abcde":       cat(run("abcde-"), []byte{128, 6}, run("+"), []byte{130, 10}),
		"abc-abcde+abcde":       cat(run("abc-"), []byte{128, 4}, run("de+"), []byte{130, 6}),
		"abcd-abcx+abcy*abcd":   cat(run("abcd-"), []byte{128, 5}, run("x+"), []byte{128, 5}, run("y*"), []byte{129, 15}),
		"aaaab-aaab":            cat(run("a"), []byte{128, 1}, run("b-"), []byte{129, 5}),
		"xyzxyzxyz.yzxyzx":      cat(run("xyz"), []byte{131, 3}, run("."), []byte{131, 9}),
		"abcdefg-cdefg+bcdefgh": cat(run("abcdefg-"), []byte{130, 6}, run("+"), []byte{131, 13}, run("h")),
	} {
		wantPack(t, []byte(s), append(four(len(s)), want...))
		if got := packed([]byte(s)); !bytes.Equal(got[4:], want) {
			t.Errorf("%q: on paper %v, want %v", s, got[4:], want)
		}
	}
}

// Of several of one length it is the nearest.
func TestP111Least(t *testing.T) {
	for s, want := range map[string][]byte{
		"abc-abc+abc":          cat(run("abc-"), []byte{128, 4}, run("+"), []byte{128, 4}),
		"abcx-abcy+abcz*abc":   cat(run("abcx-"), []byte{128, 5}, run("y+"), []byte{128, 5}, run("z*"), []byte{128, 5}),
		"aaaaaaaa":             cat(run("a"), []byte{132, 1}),
		"ababababab":           cat(run("ab"), []byte{133, 2}),
		"abcde-abcde+abcde":    cat(run("abcde-"), []byte{130, 6}, run("+"), []byte{130, 6}),
		"abcde-abc+abcde!abc":  cat(run("abcde-"), []byte{128, 6}, run("+"), []byte{130, 10}, run("!"), []byte{128, 6}),
		"aaaa-aaaa+aaaa*aaaa.": cat(run("a"), []byte{128, 1}, run("-"), []byte{129, 5}, run("+"), []byte{129, 5}, run("*"), []byte{129, 5}, run(".")),
	} {
		wantPack(t, []byte(s), append(four(len(s)), want...))
	}
}

// A match of 129 and of 130 bytes; of 131 that match one is left over, and of 133 another match.
func TestP111MatchMost(t *testing.T) {
	text := counted(140, 256)
	for long := 125; long < 140; long++ {
		b := cat(text, []byte{200}, text[:long], []byte{201})
		want := cat(run(string(text[:128])), run(string(text[128:])+"\xc8"), []byte{byte(125 + min(long, 130)), 141})
		switch rest := text[min(long, 130):long]; {
		case len(rest) < 3:
			want = append(want, run(string(rest)+"\xc9")...)
		default:
			want = append(want, byte(125+len(rest)), 141, 0, 201)
		}
		wantPack(t, b, append(four(len(b)), want...))
	}
}

// A match may end with b's last byte; one that could go on behind it does not: the room behind b counts for nothing.
func TestP111End(t *testing.T) {
	for _, s := range []string{"abcdef-abcdef", "aaaaaaaaaaaa", "abababababab", "abcabcabcabc", "abcdef-abcdef+abcdefg"} {
		all := []byte(s)
		for n := range len(all) + 1 {
			want := packed(bytes.Clone(all[:n]))
			wantPack(t, all[:n], want)
			wantPack(t, all[:n:n], want)
		}
	}
	wantPack(t, []byte("abcdefabc"), []byte{0, 0, 0, 9, 5, 'a', 'b', 'c', 'd', 'e', 'f', 128, 6})
	wantPack(t, []byte("abcdefabcdef")[:9], []byte{0, 0, 0, 9, 5, 'a', 'b', 'c', 'd', 'e', 'f', 128, 6})
	wantPack(t, []byte("abcdefabcdef")[:8], cat(four(8), run("abcdefab")))
}

// A run behind a match, and a match behind runs that are full, nearly full, and just begun.
func TestP111MatchAndRun(t *testing.T) {
	fill := counted(256, 256)
	for n := 1; n <= 129; n++ {
		for _, first := range []int{3, 126, 127, 128, 129} {
			b := cat(fill[:first], fill[:3], fill[256-n:])
			wantPack(t, b, packed(b))
			got, _ := pack.Pack(b)
			l, ok := piecesOf(got[4:])
			for i, p := range l {
				if p.long == 3 && i > 0 && (len(l[i-1].run) != (first-1)%128+1 || len(l[i+1].run) != min(n, 128)) {
					t.Errorf("the match stands between runs of %d and %d, want %d and %d", len(l[i-1].run), len(l[i+1].run), (first-1)%128+1, min(n, 128))
				}
			}
			if !ok || len(l) != 3+(first-1)/128+(n-1)/128 {
				t.Errorf("%d pieces", len(l))
			}
		}
	}
}

// What a match stands for can be matched again.
func TestP111Behind(t *testing.T) {
	for s, want := range map[string][]byte{
		"abab.abab!baba":       cat(run("abab."), []byte{129, 5}, run("!"), []byte{128, 4}, run("a")),
		"aaaaaa-aaaaa":         cat(run("a"), []byte{130, 1}, run("-"), []byte{130, 6}),
		"abcabcabc-bcabca+bca": cat(run("abc"), []byte{131, 3}, run("-"), []byte{131, 9}, run("+"), []byte{128, 4}),
	} {
		wantPack(t, []byte(s), append(four(len(s)), want...))
	}
}

// Every text of few letters, and many of all kinds: as on paper.
func TestP111Book(t *testing.T) {
	for kinds, most := range map[int]int{1: 40, 2: 13, 3: 8} {
		for n := range most + 1 {
			each(n, kinds, func(b []byte) { wantPack(t, b, packed(b)) })
		}
	}
	for _, b := range texts() {
		wantPack(t, b, packed(b))
	}
	c := chance(111)
	for range 1000 {
		b := c.text(c.below(500), 2+c.below(6))
		wantPack(t, b, packed(b))
		b = c.mixed(c.below(900))
		wantPack(t, b, packed(b))
	}
}

// each goes over all texts of n bytes of so many kinds.
func each(n, kinds int, do func(b []byte)) {
	b := make([]byte, n)
	for {
		do(b)
		i := 0
		for i < n && int(b[i]) == kinds-1 {
			b[i] = 0
			i++
		}
		if i == n {
			return
		}
		b[i]++
	}
}

// What is handed in is neither changed nor kept, with the room behind it; what is handed out is new memory each time.
func TestP111Memory(t *testing.T) {
	c := chance(1)
	for _, n := range []int{0, 1, 3, 4, 128, 129, 500, 3000} {
		for _, kinds := range []int{1, 2, 256} {
			all := c.text(n+20, kinds)
			was, want := bytes.Clone(all), packed(all[:n])
			one, _ := pack.Pack(all[:n])
			two, _ := pack.Pack(all[:n])
			if !bytes.Equal(all, was) {
				t.Fatal("Pack changes its bytes")
			}
			clear(all)
			if !bytes.Equal(one, want) {
				t.Error("the answer shares memory with the argument")
			}
			one = append(one, 1, 2, 3)
			clear(one[:cap(one)])
			if !bytes.Equal(two, want) {
				t.Error("two answers share memory")
			}
			clear(two[:cap(two)])
			copy(all, was)
			wantPack(t, all[:n], want)
		}
	}
}
