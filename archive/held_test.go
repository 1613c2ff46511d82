package archive_test

import (
	"bytes"
	"fmt"
	"slices"
	"strings"
	"testing"

	"mantle/api"
	"mantle/archive"
)

type list = []api.Item

func sameItem(x, y api.Item) bool {
	return x.Path == y.Path && x.Kind == y.Kind && string(x.Data) == string(y.Data)
}

// text is a list as a failed test tells it.
func text(l list) string {
	var b strings.Builder
	for i, x := range l {
		if i == 20 {
			fmt.Fprintf(&b, ".. (%d)", len(l))
			break
		}
		fmt.Fprintf(&b, "%.80q/%d/%.20q ", x.Path, x.Kind, x.Data)
	}
	return "[" + strings.TrimSpace(b.String()) + "]"
}

// roomy are bytes with something in the room behind their end.
func roomy(b []byte) []byte {
	out := append(slices.Clone(b), "room"...)
	return out[:len(b)]
}

// roomyList is a list with something in all of its room.
func roomyList(l list) list {
	out := make(list, 0, len(l)+1)
	for _, x := range l {
		x.Data = roomy(x.Data)
		out = append(out, x)
	}
	return append(out, file("room", "room"))[:len(l)]
}

// whole is a list with all of its room.
func whole(l list) list {
	out := slices.Clone(l[:cap(l)])
	for i := range out {
		out[i].Data = out[i].Data[:cap(out[i].Data)]
	}
	return out
}

// deep is a list with bytes of its own.
func deep(l list) list {
	out := slices.Clone(l)
	for i := range out {
		out[i].Data = slices.Clone(out[i].Data)
	}
	return out
}

// spoil writes over a list with all of its room, and holds that no two items share bytes: each must stay as it was filled.
func spoil(t *testing.T, l list) {
	t.Helper()
	sign := func(i, k int) byte { return byte(i >> (8 * (k % 2))) }
	all := whole(l)
	for i, x := range all {
		for k := range x.Data {
			x.Data[k] = sign(i, k)
		}
	}
	for i, x := range all {
		for k := range x.Data {
			if x.Data[k] != sign(i, k) {
				t.Fatalf("the bytes of item %d share memory with others", i)
			}
		}
	}
	clear(l[:cap(l)])
}

// write is Write, held against the paper.
func write(t *testing.T, l list) ([]byte, api.Errno, int) {
	t.Helper()
	want, wantE, wantAt := paperWrite(l)
	given := roomyList(l)
	was := deep(whole(given))
	b, e, at := archive.Write(given)
	if e != wantE || at != wantAt {
		t.Fatalf("Write(%s) answers %v, %d, want %v, %d", text(l), e, at, wantE, wantAt)
	}
	if !bytes.Equal(b, want) {
		t.Fatalf("Write(%s) tells %.100x, want %.100x", text(l), b, want)
	}
	if !slices.EqualFunc(whole(given), was, sameItem) {
		t.Fatalf("Write(%s) leaves %s", text(l), text(given))
	}
	room := b[:cap(b)]
	for i := range room {
		room[i] ^= 0x55
	}
	if !slices.EqualFunc(whole(given), was, sameItem) {
		t.Fatalf("what Write(%s) tells is memory of what it was given", text(l))
	}
	return want, e, at
}

// wantRefused is a Write that is refused, with that error, at that place.
func wantRefused(t *testing.T, e api.Errno, at int, l ...api.Item) {
	t.Helper()
	if _, got, place := write(t, l); got != e || place != at {
		t.Fatalf("on paper Write(%s) answers %v, %d, want %v, %d", text(l), got, place, e, at)
	}
}

// wantWritten is a Write that comes through.
func wantWritten(t *testing.T, l ...api.Item) []byte {
	t.Helper()
	b, e, at := write(t, l)
	if e != api.OK || at != 0 {
		t.Fatalf("on paper Write(%s) answers %v, %d", text(l), e, at)
	}
	return b
}

// reading is a text that comes to a reader, piece by piece.
type reading struct {
	r    *archive.Reader
	b    []byte
	s    story
	came int
}

func newReading(b []byte) *reading {
	return &reading{r: archive.New(), b: b, s: paperRead(b)}
}

// feed lets so many more bytes come, and holds all that is told against the paper.
func (x *reading) feed(t *testing.T, n int) {
	t.Helper()
	from, told := x.came, x.s.told(x.came)
	x.came += n
	given := roomy(x.b[from:x.came])
	wantE, want := api.OK, x.s.items[told:x.s.told(x.came)]
	if x.s.isTorn(x.came) {
		wantE = api.ErrTar
	}
	l, e := x.r.Feed(given)
	if e != wantE || !slices.EqualFunc(l, want, sameItem) {
		t.Fatalf("%.300x: Feed of %d to %d answers %s, %v, want %s, %v", x.b, from, x.came, text(l), e, text(want), wantE)
	}
	if string(given) != string(x.b[from:x.came]) || string(given[n:n+4]) != "room" {
		t.Fatalf("%.300x: Feed of %d to %d leaves %x", x.b, from, x.came, given)
	}
	for i := range given {
		given[i] ^= 0x55
	}
	if !slices.EqualFunc(l, want, sameItem) {
		t.Fatalf("%.300x: what Feed of %d to %d tells is memory of what it was given", x.b, from, x.came)
	}
	spoil(t, l)
	x.look(t)
}

// look is Done and Held, held against the paper.
func (x *reading) look(t *testing.T) {
	t.Helper()
	if done, want := x.r.Done(), x.s.isDone(x.came); done != want {
		t.Fatalf("%.300x: behind %d bytes Done is %v", x.b, x.came, done)
	}
	if held, want := x.r.Held(), x.s.held(x.came); held != want {
		t.Fatalf("%.300x: behind %d bytes Held is %d, want %d", x.b, x.came, held, want)
	}
}

// read lets a whole text come, in pieces that end at places that rise; some of them may be alike.
func read(t *testing.T, b []byte, ends ...int) story {
	t.Helper()
	x := newReading(b)
	x.look(t)
	for _, end := range ends {
		x.feed(t, end-x.came)
	}
	x.feed(t, len(b)-x.came)
	x.feed(t, 0)
	return x.s
}

// readBytes lets a text come byte by byte.
func readBytes(t *testing.T, b []byte) story {
	t.Helper()
	x := newReading(b)
	for range b {
		x.feed(t, 1)
	}
	return x.s
}

// wantTorn is a text that tears a reader at that byte, neither ahead of it nor behind it, when so many items are told.
func wantTorn(t *testing.T, b []byte, at, items int) {
	t.Helper()
	s := read(t, b)
	if s.torn != at || len(s.items) != items {
		t.Fatalf("on paper %.300x tears at %d behind %d items, want %d, %d", b, s.torn, len(s.items), at, items)
	}
	read(t, b, at, at+1)
	read(t, b, 0, max(at-1, 0), at, at, at+1)
	if at > 0 && len(b) < 10000 {
		readBytes(t, b)
	}
}

// wantStands is a text of which every byte can stand where it stands.
func wantStands(t *testing.T, b []byte, items int, done bool) {
	t.Helper()
	s := read(t, b)
	if s.torn >= 0 || len(s.items) != items || s.isDone(len(b)) != done {
		t.Fatalf("on paper %.300x tears at %d behind %d items", b, s.torn, len(s.items))
	}
	if len(b) < 10000 {
		readBytes(t, b)
	}
}
