package caps_test

import (
	"errors"
	"math"
	"slices"
	"strings"
	"testing"

	"mantle/api"
	"mantle/caps"
)

// texts are the sets' texts, written out.
var texts = [16]string{
	"read", "write", "cut", "write cut",
	"holes", "write holes", "cut holes", "write cut holes",
	"sync", "write sync", "cut sync", "write cut sync",
	"holes sync", "write holes sync", "cut holes sync", "write cut holes sync",
}

func wantSet(t *testing.T, s string, want uint8) {
	t.Helper()
	if can, err := caps.Parse(s); can != want || err != nil {
		t.Errorf("Parse(%q) = %d, %v, want %d", s, can, err, want)
	}
}

func wantFault(t *testing.T, s string, at int, word string) {
	t.Helper()
	can, err := caps.Parse(s)
	f, ok := err.(*api.Fault)
	want := api.Fault{Code: api.ErrArg, At: at, Word: word}
	if can != 0 || !ok || f == nil || *f != want {
		t.Errorf("Parse(%q) = %d, %#v, want %#v", s, can, err, want)
	}
	if !errors.Is(err, api.ErrArg) {
		t.Errorf("Parse(%q): no ErrArg in %v", s, err)
	}
}

func wantCan(t *testing.T, call string, can uint8, e api.Errno, want uint8) {
	t.Helper()
	if can != want || e != api.OK {
		t.Errorf("%s = %d, %v, want %d", call, can, e, want)
	}
}

func wantErr(t *testing.T, call string, can uint8, e, want api.Errno) {
	t.Helper()
	if can != 0 || e != want {
		t.Errorf("%s = %d, %v, want 0, %v", call, can, e, want)
	}
}

func over(kind int8, below ...uint8) (uint8, api.Errno) {
	return caps.Over(api.Wrap{Kind: kind}, below)
}

func TestExamples(t *testing.T) {
	for can, want := range map[uint8]string{0: "read", 15: "write cut holes sync", 9: "write sync", 16: ""} {
		if s := caps.Text(can); s != want {
			t.Errorf("Text(%d) = %q, want %q", can, s, want)
		}
	}
	wantSet(t, "write sync", 9)
	wantFault(t, "sync write", 5, "write")
	wantFault(t, "write  cut", 6, "")
	wantFault(t, "read cut", 5, "cut")
	wantFault(t, "", 0, "")
	if l := caps.All(5); !slices.Equal(l, []uint8{0, 1, 4, 5}) {
		t.Errorf("All(5) = %v", l)
	}
	if l := caps.All(0); !slices.Equal(l, []uint8{0}) {
		t.Errorf("All(0) = %v", l)
	}
	if l := caps.All(16); len(l) != 0 {
		t.Errorf("All(16) = %v", l)
	}
	can, e := over(api.WrapWindow, 15)
	wantCan(t, "a window over 15", can, e, 13)
	can, e = over(api.WrapTee, 15, 11)
	wantCan(t, "a tee over 15 and 11", can, e, 15)
	can, e = over(api.WrapBuffer, 1)
	wantCan(t, "a buffer over 1", can, e, 9)
	can, e = over(api.WrapJournal, 15, 1)
	wantCan(t, "a journal over 15 and 1", can, e, 0)
	can, e = over(api.WrapTee, 15)
	wantErr(t, "a tee over 15", can, e, api.ErrArg)
	can, e = over(11, 15)
	wantErr(t, "Kind 11 over 15", can, e, api.ErrArg)
	can, e = over(api.WrapCache, 16)
	wantErr(t, "a cache over 16", can, e, api.ErrArg)
	can, e = caps.Stack([]api.Wrap{{Kind: api.WrapCipher}, {Kind: api.WrapJoin}}, 15)
	wantCan(t, "a cipher, a join over it; 15", can, e, 9)
	can, e = caps.Stack(nil, 3)
	wantCan(t, "none, 3", can, e, 3)
}

func TestP21Text(t *testing.T) {
	for can := range 256 {
		want := ""
		if can < len(texts) {
			want = texts[can]
		}
		if s := caps.Text(uint8(can)); s != want {
			t.Errorf("Text(%d) = %q, want %q", can, s, want)
		}
	}
}

func TestP21Parse(t *testing.T) {
	for can, s := range texts {
		wantSet(t, s, uint8(can))
		wantFault(t, " "+s, 0, "")
		wantFault(t, s+" ", len(s)+1, "")
		wantFault(t, s+" read", len(s)+1, "read")
	}
	for s, f := range map[string]api.Fault{
		" ":                         {At: 0},
		"  ":                        {At: 0},
		"read read":                 {At: 5, Word: "read"},
		"read  write":               {At: 5},
		"read x":                    {At: 5, Word: "x"},
		"write write":               {At: 6, Word: "write"},
		"cut write":                 {At: 4, Word: "write"},
		"holes cut sync":            {At: 6, Word: "cut"},
		"write sync cut":            {At: 11, Word: "cut"},
		"write cut holes sync sync": {At: 21, Word: "sync"},
		"write cut holes sync x":    {At: 21, Word: "x"},
		"x write":                   {Word: "x"},
		"write x  cut":              {At: 6, Word: "x"},
		"READ":                      {Word: "READ"},
		"Write":                     {Word: "Write"},
		"writ":                      {Word: "writ"},
		"writes":                    {Word: "writes"},
		"write,cut":                 {Word: "write,cut"},
		"write\tcut":                {Word: "write\tcut"},
		"write\n":                   {Word: "write\n"},
		"write\u00a0cut":            {Word: "write\u00a0cut"},
		"write \xff\x00 cut":        {At: 6, Word: "\xff\x00"},
		"sync \u00e4\u00f6 write":   {At: 5, Word: "\u00e4\u00f6"},
	} {
		wantFault(t, s, f.At, f.Word)
	}
	long := strings.Repeat("a", 1<<20)
	wantFault(t, "cut "+long, 4, long)
	wantFault(t, strings.Repeat("write ", 1<<20), 6, "write")
	wantFault(t, strings.Repeat(" ", 1<<20), 0, "")
}

// TestP21ParseModel holds Parse, with all texts of up to five words, against
// the written-out texts: what is ahead of a set's text's last word is a set's
// text too, so the first fault ends the first piece that is none.
func TestP21ParseModel(t *testing.T) {
	vocabulary := []string{"read", "write", "cut", "holes", "sync", "", "x", "writecut"}
	var grow func(ahead []string)
	grow = func(ahead []string) {
		if len(ahead) > 0 {
			modelParse(t, ahead)
		}
		if len(ahead) == 5 {
			return
		}
		for _, w := range vocabulary {
			grow(append(slices.Clone(ahead), w))
		}
	}
	grow(nil)
}

func modelParse(t *testing.T, l []string) {
	t.Helper()
	s := strings.Join(l, " ")
	for i, w := range l {
		piece := strings.Join(l[:i+1], " ")
		if !slices.Contains(texts[:], piece) {
			wantFault(t, s, len(piece)-len(w), w)
			return
		}
	}
	wantSet(t, s, uint8(slices.Index(texts[:], s)))
}

func TestP22Less(t *testing.T) {
	for a := range 256 {
		for b := range 256 {
			want := true
			for bit := 1; bit < 256; bit *= 2 {
				want = want && (a/bit%2 == 0 || b/bit%2 == 1)
			}
			if caps.Less(uint8(a), uint8(b)) != want {
				t.Errorf("Less(%d, %d) is not %v", a, b, want)
			}
		}
	}
}

func TestP22All(t *testing.T) {
	for can := range 256 {
		var want []uint8
		for a := range 16 {
			if can <= 15 && a|can == can {
				want = append(want, uint8(a))
			}
		}
		if l := caps.All(uint8(can)); !slices.Equal(l, want) {
			t.Errorf("All(%d) = %v, want %v", can, l, want)
		}
	}
}

func TestR3Lists(t *testing.T) {
	l := caps.All(15)
	clear(l[:cap(l)])
	if again := caps.All(15); len(again) != 16 || again[15] != 15 {
		t.Errorf("All(15) shows what was written into an earlier answer: %v", again)
	}
	room := []uint8{15, 11, 7, 3}
	if can, e := over(api.WrapTee, room[:2]...); can != 15 || e != api.OK {
		t.Errorf("a tee = %d, %v", can, e)
	}
	if !slices.Equal(room, []uint8{15, 11, 7, 3}) {
		t.Errorf("Over has changed its list: %v", room)
	}
	wraps := []api.Wrap{{Kind: 2, N: 1, M: 2, Key: 3}, {Kind: 8}, {Kind: 7}}
	was := slices.Clone(wraps)
	caps.Stack(wraps[:2], 15)
	if !slices.Equal(wraps, was) {
		t.Errorf("Stack has changed its list: %v", wraps)
	}
}

func TestP23Numbers(t *testing.T) {
	for kind := range int8(11) {
		below := []uint8{11, 7}[:min(files(kind)[0], 2)]
		plain, e := caps.Over(api.Wrap{Kind: kind}, below)
		for _, n := range []int64{math.MinInt64, -1, 1, math.MaxInt64} {
			can, f := caps.Over(api.Wrap{Kind: kind, N: n, M: -n, Key: uint64(n)}, below)
			if can != plain || e != api.OK || f != api.OK {
				t.Errorf("Kind %d, numbers %d: %d, %v, want %d", kind, n, can, f, plain)
			}
		}
	}
}

func TestP27Texts(t *testing.T) {
	for can := range uint8(16) {
		s := caps.Text(can)
		wantSet(t, s, can)
		if n, _ := caps.Parse(s); caps.Text(n) != s {
			t.Errorf("Text of Parse(%q) = %q", s, caps.Text(n))
		}
	}
}

func TestP27All(t *testing.T) {
	for a := range uint8(16) {
		if n := len(caps.All(a)); n != 1<<len(strings.Fields(strings.ReplaceAll(texts[a], "read", ""))) {
			t.Errorf("All(%d) has %d sets", a, n)
		}
		for b := range uint8(16) {
			var want []uint8
			for _, c := range caps.All(15) {
				if caps.Less(c, a) && caps.Less(c, b) {
					want = append(want, c)
				}
			}
			if l := caps.All(a & b); !slices.Equal(l, want) {
				t.Errorf("All(%d & %d) = %v, want %v", a, b, l, want)
			}
		}
	}
}
