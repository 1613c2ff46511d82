package span_test

import (
	"bytes"
	"math"
	"slices"
	"testing"

	"mantle/api"
	"mantle/span"
)

func wantErr(t *testing.T, call string, got, want api.Errno) {
	t.Helper()
	if got != want {
		t.Errorf("%s = %v, want %v", call, got, want)
	}
}

func wantNum(t *testing.T, call string, got, want int64) {
	t.Helper()
	if got != want {
		t.Errorf("%s = %d, want %d", call, got, want)
	}
}

func wantGet(t *testing.T, s *span.Bytes, at int64, n int, want string) {
	t.Helper()
	if got := s.Get(at, n); string(got) != want {
		t.Errorf("Get(%d, %d) = %q, want %q", at, n, got, want)
	}
}

func wantNext(t *testing.T, s *span.Bytes, at, from, to int64) {
	t.Helper()
	if f, u := s.Next(at); f != from || u != to {
		t.Errorf("Next(%d) = %d %d, want %d %d", at, f, u, from, to)
	}
}

// stretches goes from stretch to stretch by Next.
func stretches(s *span.Bytes) []api.Stretch {
	var l []api.Stretch
	for at := int64(0); ; {
		from, to := s.Next(at)
		if from == to {
			return l
		}
		l = append(l, api.Stretch{From: from, To: to})
		at = to
	}
}

func wantStretches(t *testing.T, s *span.Bytes, want ...api.Stretch) {
	t.Helper()
	if got := stretches(s); !slices.Equal(got, want) {
		t.Errorf("stretches %v, want %v", got, want)
	}
}

func pattern(n int) []byte {
	b := make([]byte, n)
	for i := range b {
		b[i] = byte(i%251 + 1)
	}
	return b
}

func TestExamples(t *testing.T) {
	s := span.New([]byte("abc"))
	wantNum(t, "Size", s.Size(), 3)
	wantNum(t, "Held", s.Held(), 3)
	wantGet(t, s, 1, 9, "bc")
	wantGet(t, s, 3, 1, "")
	wantGet(t, s, -1, 1, "")
	wantErr(t, "Put(5, xy)", s.Put(5, []byte("xy")), api.OK)
	wantNum(t, "Size", s.Size(), 7)
	wantNum(t, "Held", s.Held(), 5)
	wantGet(t, s, 0, 9, "abc\x00\x00xy")
	wantNext(t, s, 0, 0, 3)
	wantNext(t, s, 1, 1, 3)
	wantNext(t, s, 3, 5, 7)
	wantNext(t, s, 6, 6, 7)
	wantNext(t, s, 7, 7, 7)
	wantNext(t, s, -5, 0, 3)
	wantErr(t, "Punch(1, 5)", s.Punch(1, 5), api.OK)
	wantNum(t, "Held", s.Held(), 2)
	wantNext(t, s, 0, 0, 1)
	wantNext(t, s, 1, 6, 7)
	wantErr(t, "Put(-1, a)", s.Put(-1, []byte("a")), api.ErrArg)
	wantErr(t, "Put(9, none)", s.Put(9, nil), api.OK)
	wantErr(t, "Put(2^30, a)", s.Put(1<<30, []byte("a")), api.ErrLong)
	wantErr(t, "Put(2^30-1, a)", s.Put(1<<30-1, []byte("a")), api.OK)
	wantErr(t, "Cut(-1)", s.Cut(-1), api.ErrArg)
	wantErr(t, "Cut(2^30+1)", s.Cut(1<<30+1), api.ErrLong)
	wantErr(t, "Punch(0, -1)", s.Punch(0, -1), api.ErrArg)
}

func TestP11New(t *testing.T) {
	for _, b := range [][]byte{nil, {}} {
		s := span.New(b)
		if s == nil {
			t.Fatal("New of none is nil")
		}
		wantNum(t, "Size", s.Size(), 0)
		wantNum(t, "Held", s.Held(), 0)
		wantNext(t, s, 0, 0, 0)
	}
	s := span.New([]byte{0, 0, 0})
	wantNum(t, "Held of noughts", s.Held(), 3)
	wantNext(t, s, 0, 0, 3)
	b := pattern(api.MaxData + 1)
	for _, n := range []int{api.MaxData - 1, api.MaxData, api.MaxData + 1} {
		s := span.New(b[:n])
		want := int64(min(n, api.MaxData))
		wantNum(t, "Size", s.Size(), want)
		wantNum(t, "Held", s.Held(), want)
		wantGet(t, s, want-5, 9, string(b[want-5:want]))
	}
	s = span.New([]byte("abc"))
	s.Cut(10)
	wantNum(t, "Size with a hole", s.Size(), 10)
}

func TestP12Get(t *testing.T) {
	b := pattern(api.MaxText + 10)
	s := span.New(b)
	for _, n := range []int{api.MaxText - 1, api.MaxText, api.MaxText + 1, math.MaxInt} {
		wantGet(t, s, 3, n, string(b[3:min(3+min(n, api.MaxText), len(b))]))
	}
	wantGet(t, s, 20, math.MaxInt, string(b[20:]))
	wantGet(t, s, 0, 0, "")
	wantGet(t, s, 0, -1, "")
	wantGet(t, s, -1, 5, "")
	wantGet(t, s, math.MinInt64, math.MinInt, "")
	wantGet(t, s, math.MaxInt64, math.MaxInt, "")
	wantGet(t, s, s.Size(), 1, "")
	wantGet(t, s, s.Size()+1, 1, "")
	wantGet(t, s, s.Size()-1, 5, string(b[len(b)-1:]))
	s = span.New([]byte("ab"))
	s.Cut(api.MaxSize)
	wantGet(t, s, 1, 4, "b\x00\x00\x00")
	wantGet(t, s, api.MaxSize-2, 9, "\x00\x00")
}

func TestP13Put(t *testing.T) {
	s := span.New([]byte("abcdef"))
	wantErr(t, "inside", s.Put(2, []byte("XY")), api.OK)
	wantGet(t, s, 0, 9, "abXYef")
	wantErr(t, "over the end", s.Put(5, []byte("12")), api.OK)
	wantGet(t, s, 0, 9, "abXYe12")
	wantErr(t, "noughts behind the end", s.Put(9, []byte{0, 0}), api.OK)
	wantGet(t, s, 0, 20, "abXYe12\x00\x00\x00\x00")
	wantStretches(t, s, api.Stretch{From: 0, To: 7}, api.Stretch{From: 9, To: 11})
	wantErr(t, "the gap", s.Put(7, []byte{0, 0}), api.OK)
	wantStretches(t, s, api.Stretch{From: 0, To: 11})
	s.Cut(0)
	wantErr(t, "above a cut", s.Put(4, []byte("z")), api.OK)
	wantGet(t, s, 0, 9, "\x00\x00\x00\x00z")
}

func TestP13PutEmpty(t *testing.T) {
	s := span.New([]byte("abc"))
	for _, at := range []int64{0, 1, 3, 9, api.MaxSize, api.MaxSize + 1, math.MaxInt64} {
		wantErr(t, "Put of nil", s.Put(at, nil), api.OK)
		wantErr(t, "Put of none", s.Put(at, []byte{}), api.OK)
	}
	wantErr(t, "Put(-1, none)", s.Put(-1, nil), api.ErrArg)
	wantNum(t, "Size", s.Size(), 3)
	wantStretches(t, s, api.Stretch{From: 0, To: 3})
}

func TestP13PutWrong(t *testing.T) {
	s := span.New([]byte("abc"))
	for _, at := range []int64{-1, math.MinInt64} {
		wantErr(t, "below 0", s.Put(at, make([]byte, api.MaxData+1)), api.ErrArg)
	}
	for _, at := range []int64{api.MaxSize - 1, api.MaxSize, api.MaxSize + 1, math.MaxInt64 - 1, math.MaxInt64} {
		wantErr(t, "behind MaxSize", s.Put(at, []byte("xy")), api.ErrLong)
	}
	wantErr(t, "too many", s.Put(0, make([]byte, api.MaxData+1)), api.ErrLong)
	wantGet(t, s, 0, 9, "abc")
	wantNum(t, "Held", s.Held(), 3)
	wantErr(t, "up to MaxSize", s.Put(api.MaxSize-2, []byte("xy")), api.OK)
	wantNum(t, "Size", s.Size(), api.MaxSize)
	wantGet(t, s, api.MaxSize-3, 9, "\x00xy")
}

func TestP13PutHeld(t *testing.T) {
	s := span.New(nil)
	wantErr(t, "MaxData", s.Put(api.MaxSize-api.MaxData, pattern(api.MaxData)), api.OK)
	wantNum(t, "Held", s.Held(), api.MaxData)
	wantErr(t, "one more", s.Put(0, []byte("a")), api.ErrLong)
	wantErr(t, "one more, half inside", s.Put(api.MaxSize-api.MaxData-1, []byte("ab")), api.ErrLong)
	wantGet(t, s, api.MaxSize-api.MaxData-1, 2, "\x00\x01")
	wantNum(t, "Held", s.Held(), api.MaxData)
	wantErr(t, "inside", s.Put(api.MaxSize-9, []byte("inside")), api.OK)
	wantErr(t, "all again", s.Put(api.MaxSize-api.MaxData, pattern(api.MaxData)), api.OK)
	s.Punch(api.MaxSize-5, 2)
	wantErr(t, "three", s.Put(0, []byte("abc")), api.ErrLong)
	wantErr(t, "two", s.Put(0, []byte("ab")), api.OK)
	wantNum(t, "Held", s.Held(), api.MaxData)
}

func TestP14Cut(t *testing.T) {
	s := span.New([]byte("abcdef"))
	wantErr(t, "Cut(4)", s.Cut(4), api.OK)
	wantGet(t, s, 0, 9, "abcd")
	wantErr(t, "Cut(4) again", s.Cut(4), api.OK)
	wantErr(t, "Cut(7)", s.Cut(7), api.OK)
	wantGet(t, s, 0, 9, "abcd\x00\x00\x00")
	wantStretches(t, s, api.Stretch{From: 0, To: 4})
	wantErr(t, "Put", s.Put(6, []byte("x")), api.OK)
	wantErr(t, "Cut in a hole", s.Cut(5), api.OK)
	wantNum(t, "Held", s.Held(), 4)
	wantNum(t, "Size", s.Size(), 5)
	wantErr(t, "Cut(MaxSize)", s.Cut(api.MaxSize), api.OK)
	wantNext(t, s, 4, api.MaxSize, api.MaxSize)
	for _, size := range []int64{api.MaxSize + 1, math.MaxInt64} {
		wantErr(t, "too long", s.Cut(size), api.ErrLong)
	}
	for _, size := range []int64{-1, math.MinInt64} {
		wantErr(t, "below 0", s.Cut(size), api.ErrArg)
	}
	wantNum(t, "Size", s.Size(), api.MaxSize)
	wantErr(t, "Cut(0)", s.Cut(0), api.OK)
	wantNum(t, "Held", s.Held(), 0)
	wantNum(t, "Size", s.Size(), 0)
}

func TestP14Punch(t *testing.T) {
	s := span.New([]byte("abcdef"))
	wantErr(t, "none", s.Punch(2, 0), api.OK)
	wantStretches(t, s, api.Stretch{From: 0, To: 6})
	wantErr(t, "the middle", s.Punch(2, 2), api.OK)
	wantGet(t, s, 0, 9, "ab\x00\x00ef")
	wantStretches(t, s, api.Stretch{From: 0, To: 2}, api.Stretch{From: 4, To: 6})
	wantErr(t, "behind the left part", s.Put(2, []byte("X")), api.OK)
	wantGet(t, s, 0, 9, "abX\x00ef")
	wantErr(t, "up to the end and on", s.Punch(5, math.MaxInt64), api.OK)
	wantGet(t, s, 0, 9, "abX\x00e\x00")
	wantNum(t, "Size", s.Size(), 6)
	for _, at := range []int64{6, 7, math.MaxInt64} {
		wantErr(t, "behind the end", s.Punch(at, math.MaxInt64), api.OK)
	}
	for _, c := range [][2]int64{{-1, 0}, {0, -1}, {-1, -1}, {math.MinInt64, math.MinInt64}, {math.MaxInt64, -1}} {
		wantErr(t, "below 0", s.Punch(c[0], c[1]), api.ErrArg)
	}
	wantGet(t, s, 0, 9, "abX\x00e\x00")
	wantNum(t, "Size", s.Size(), 6)
	wantNum(t, "Held", s.Held(), 4)
}

func TestP15NextHeldTwin(t *testing.T) {
	s := span.New(nil)
	s.Put(3, []byte("abc"))
	s.Put(8, []byte{0})
	s.Cut(12)
	wantNext(t, s, math.MinInt64, 3, 6)
	wantNext(t, s, 2, 3, 6)
	wantNext(t, s, 5, 5, 6)
	wantNext(t, s, 6, 8, 9)
	wantNext(t, s, 8, 8, 9)
	wantNext(t, s, 9, 12, 12)
	wantNext(t, s, 12, 12, 12)
	wantNext(t, s, math.MaxInt64, 12, 12)
	wantNum(t, "Held", s.Held(), 4)
	u := s.Twin()
	wantNum(t, "twin's Size", u.Size(), 12)
	wantNum(t, "twin's Held", u.Held(), 4)
	wantGet(t, u, 0, 20, string(s.Get(0, 20)))
	wantStretches(t, u, stretches(s)...)
	u = span.New(nil).Twin()
	if u == nil || u.Put(0, []byte("a")) != api.OK {
		t.Error("the twin of nothing cannot be put to")
	}
}

func TestTouch(t *testing.T) {
	s := span.New([]byte("cd"))
	s.Cut(0)
	s.Put(2, []byte("cd"))
	s.Put(4, []byte("e"))
	wantStretches(t, s, api.Stretch{From: 2, To: 5})
	s.Put(1, []byte("b"))
	wantStretches(t, s, api.Stretch{From: 1, To: 5})
	s.Put(6, []byte("gh"))
	wantStretches(t, s, api.Stretch{From: 1, To: 5}, api.Stretch{From: 6, To: 8})
	s.Put(5, []byte("f"))
	wantStretches(t, s, api.Stretch{From: 1, To: 8})
	s.Put(10, []byte("k"))
	s.Put(0, []byte("0123456789"))
	wantStretches(t, s, api.Stretch{From: 0, To: 11})
	wantGet(t, s, 0, 20, "0123456789k")
	s.Punch(3, 1)
	s.Punch(4, 1)
	wantStretches(t, s, api.Stretch{From: 0, To: 3}, api.Stretch{From: 5, To: 11})
}

func TestP18AllHoles(t *testing.T) {
	empty := map[string]func(s *span.Bytes){
		"Punch": func(s *span.Bytes) { s.Punch(0, s.Size()) },
		"Cut":   func(s *span.Bytes) { n := s.Size(); s.Cut(0); s.Cut(n) },
	}
	for name, all := range empty {
		s := span.New([]byte("abc"))
		s.Put(5, []byte("xy"))
		s.Cut(9)
		all(s)
		wantNum(t, name+": Held", s.Held(), 0)
		wantNum(t, name+": Size", s.Size(), 9)
		wantGet(t, s, 0, 20, string(make([]byte, 9)))
		wantNext(t, s, 0, 9, 9)
		s.Put(6, []byte("z"))
		wantGet(t, s, 0, 20, "\x00\x00\x00\x00\x00\x00z\x00\x00")
	}
}

func TestP19TwinApart(t *testing.T) {
	was := "abc\x00\x00xy"
	changes := map[string]func(s *span.Bytes){
		"Put inside":  func(s *span.Bytes) { s.Put(1, []byte("!")) },
		"Put behind":  func(s *span.Bytes) { s.Put(7, []byte("!")) },
		"Put between": func(s *span.Bytes) { s.Put(3, []byte("!!")) },
		"Cut":         func(s *span.Bytes) { s.Cut(2) },
		"Punch":       func(s *span.Bytes) { s.Punch(0, 6) },
	}
	for name, change := range changes {
		s := span.New([]byte("abc"))
		s.Put(5, []byte("xy"))
		u := s.Twin()
		for _, pair := range [][2]*span.Bytes{{s, u}, {u.Twin(), u}, {u, u.Twin()}} {
			change(pair[0])
			if got := string(pair[1].Get(0, 99)); got != was || pair[1].Held() != 5 {
				t.Errorf("%s is seen by the twin: %q", name, got)
			}
			wantStretches(t, pair[1], api.Stretch{From: 0, To: 3}, api.Stretch{From: 5, To: 7})
		}
	}
}

func TestNil(t *testing.T) {
	var s *span.Bytes
	wantNum(t, "Size", s.Size(), 0)
	wantNum(t, "Held", s.Held(), 0)
	wantGet(t, s, 0, 1, "")
	wantNext(t, s, 5, 0, 0)
	wantErr(t, "Put", s.Put(-1, nil), api.ErrNil)
	wantErr(t, "Cut", s.Cut(-1), api.ErrNil)
	wantErr(t, "Punch", s.Punch(-1, -1), api.ErrNil)
	if s.Twin() != nil {
		t.Error("the twin of nil is not nil")
	}
}

func TestListsAreNotKept(t *testing.T) {
	room := []byte("abcdefgh")
	s := span.New(room[:3])
	s.Put(3, room[3:5])
	s.Put(8, room[5:6])
	s.Put(2, []byte("CDE"))
	s.Punch(0, 1)
	if string(room) != "abcdefgh" {
		t.Errorf("what was handed in is now %q", room)
	}
	clear(room)
	wantGet(t, s, 0, 99, "\x00bCDE\x00\x00\x00f")
	got := s.Get(0, 4)
	got = got[:cap(got)]
	for i := range got {
		got[i] = '!'
	}
	wantGet(t, s, 0, 99, "\x00bCDE\x00\x00\x00f")
}

// What a Put left behind its stretch's end must not come back.
func TestGoneStaysGone(t *testing.T) {
	s := span.New(bytes.Repeat([]byte("a"), 100))
	s.Cut(90)
	s.Put(95, []byte("b"))
	wantGet(t, s, 88, 20, "aa\x00\x00\x00\x00\x00b")
	s.Put(90, []byte("c"))
	wantGet(t, s, 88, 20, "aac\x00\x00\x00\x00b")
}
