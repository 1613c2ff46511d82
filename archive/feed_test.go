package archive_test

import (
	"bytes"
	"slices"
	"strings"
	"testing"

	"mantle/api"
	"mantle/archive"
)

// begun are two items that are read ahead of what a test is about.
func begun() list { return list{file("b", "one"), dir("c")} }

// behind is a text with some items ahead.
func behind(l ...raw) []byte { return textOf(append(rawsOf(begun()), l...)...) }

// P26.2: nothing has come, and nothing comes.
func TestP262None(t *testing.T) {
	r := archive.New()
	for _, b := range [][]byte{nil, {}} {
		if l, e := r.Feed(b); len(l) > 0 || e != api.OK || r.Done() || r.Held() != 0 {
			t.Errorf("Feed of nothing: %s, %v", text(l), e)
		}
	}
	wantStands(t, nil, 0, false)
	if archive.New() == archive.New() {
		t.Error("two readers are one")
	}
}

// P26.2: items are told by the Feed by which they get whole, several by one, too.
func TestP262Items(t *testing.T) {
	b := wantWritten(t, each()...)
	wantStands(t, b, len(each()), true)
	bounds := paperRead(b).bounds
	read(t, b, bounds...)
	for n := 1; n < 50; n++ {
		var ends []int
		for at := n; at < len(b); at += n {
			ends = append(ends, at)
		}
		read(t, b, ends...)
	}
	r := archive.New()
	var told list
	for i, at := range bounds[1:] {
		l, e := r.Feed(b[bounds[i]:at])
		if e != api.OK || i > 0 && i <= 8 && len(l) != 1 {
			t.Fatalf("bytes %d to %d: %s, %v", bounds[i], at, text(l), e)
		}
		told = append(told, l...)
	}
	if !slices.EqualFunc(told, each(), sameItem) || !r.Done() {
		t.Errorf("told are %s, want %s", text(told), text(each()))
	}
}

// P26.2: a piece of nothing, or two places to cut at, wherever they are.
func TestP262Cuts(t *testing.T) {
	b := wantWritten(t, file("a", "xyz"), dir("b/c"), link("d", "a"))
	for i := range len(b) + 1 {
		for j := i; j <= len(b); j++ {
			read(t, b, i, j)
		}
	}
	read(t, b, 0, 0, 0, 4, 4, 4, 5, 5, len(b), len(b))
}

// P26.2: each of the first four, and each other byte in its place.
func TestP262Mark(t *testing.T) {
	for i := range 4 {
		for x := range 256 {
			b := wantWritten(t, begun()...)
			if b[i] == byte(x) {
				continue
			}
			b[i] = byte(x)
			wantTorn(t, b, i, 0)
			wantTorn(t, b[:i+1], i, 0)
		}
	}
	for _, s := range []string{"M", "MT", "MTA", "MTA1"} {
		wantStands(t, []byte(s), 0, false)
	}
	for _, s := range []string{"m", "mta1", "T", "1ATM"} {
		wantTorn(t, []byte(s), 0, 0)
	}
	wantTorn(t, []byte("MTTA1"), 2, 0)
	wantTorn(t, []byte("MTA2"), 3, 0)
}

// P26.2: a kind that is none, ahead of all and behind others.
func TestP262Kind(t *testing.T) {
	for _, ahead := range [][]byte{textOf(), behind()} {
		items := len(paperRead(ahead).items)
		for x := range 256 {
			b := append(slices.Clone(ahead), byte(x))
			switch x {
			case 0, 1, 2, 4, 255:
				wantStands(t, b, items, false)
			default:
				wantTorn(t, b, len(ahead), items)
				wantTorn(t, append(b, 0, 1, 0xff, 0xfe, 'd'), len(ahead), items)
			}
		}
	}
}

// P26.2: as many items as may be; the kind of one more tears, an end does not.
func TestP262Many(t *testing.T) {
	l := many(4097)
	full := textOf(rawsOf(l[:4096])...)
	wantStands(t, full, 4096, false)
	wantStands(t, ended(full, 4096), 4096, true)
	for _, kind := range []byte{0, 1, 2, 3, 4, 254} {
		b := append(bytes.Clone(full), kind)
		wantTorn(t, b, len(full), 4096)
		wantTorn(t, append(b, rawOf(l[4096]).text()[1:]...), len(full), 4096)
	}
	wantTorn(t, ended(textOf(rawsOf(l)...), 4097), len(full), 4096)
	for _, count := range []int{4095, 4097, 0, 4096 << 8} {
		wantTorn(t, ended(full, count), len(full)+4, 4096)
	}
	x := newReading(full)
	for x.came < len(full) {
		x.feed(t, min(1001, len(full)-x.came))
	}
}

// P26.2: a length of a Path that is told again otherwise tears by its last byte.
func TestP262PathLengthAgain(t *testing.T) {
	good := rawOf(file("d", "x"))
	at := len(behind()) + 4
	for bit := range 16 {
		x, y := good, good
		x.long ^= 1 << bit
		y.less ^= 1 << bit
		wantTorn(t, behind(x), at, 2)
		wantTorn(t, behind(y), at, 2)
		wantTorn(t, behind(y)[:at+1], at, 2)
		wantStands(t, behind(x)[:at], 2, false)
		wantStands(t, behind(y)[:at], 2, false)
	}
	for _, less := range []uint16{0, 1, 65535, 65533, 1 << 8} {
		x := good
		x.less = less
		wantTorn(t, behind(x), at, 2)
	}
	for n := range 65536 { // all that fit: of those that may be more may come
		b := append(behind(), 0, byte(n>>8), byte(n), ^byte(n>>8), ^byte(n))
		r := archive.New()
		l, e := r.Feed(b)
		want := api.OK
		if n == 0 || n > 4096 {
			want = api.ErrTar
		}
		if len(l) != 2 || e != want {
			t.Fatalf("a Path of %d bytes: %s, %v, want %v", n, text(l), e, want)
		}
		if _, e = r.Feed(b[:0]); e != want {
			t.Fatalf("a Path of %d bytes, and nothing: %v, want %v", n, e, want)
		}
	}
}

// P26.2: a length of a Path that may not be.
func TestP262PathLength(t *testing.T) {
	at := len(behind()) + 4
	for _, n := range []int{0, 4097, 4098, 8192, 32768, 65535} {
		x := rawOf(file(strings.Repeat("d", n), "x"))
		wantTorn(t, behind(x), at, 2)
		wantStands(t, behind(x)[:at], 2, false)
		x.kind = 1
		wantTorn(t, behind(x), at, 2)
	}
	for _, n := range []int{1, 2, 255, 256, 257, 4095, 4096} {
		wantStands(t, behind(rawOf(file(pathOf('d', n), "x"))), 3, false)
	}
}

// P26.2: a Path that is not clean tears by its last byte.
func TestP262NoPath(t *testing.T) {
	for _, p := range noPaths() {
		if len(p) == 0 || len(p) > 4096 {
			continue
		}
		p = strings.ReplaceAll(p, "m", "d")
		at := len(behind()) + 4 + len(p)
		for _, kind := range []int8{0, 1, 2, 4} {
			b := behind(rawOf(api.Item{Path: p, Kind: kind}))
			wantTorn(t, b, at, 2)
			wantTorn(t, b[:at+1], at, 2)
			wantStands(t, b[:at], 2, false)
		}
		b := textOf(rawOf(file(p, "x")))
		wantTorn(t, b, 4+4+len(p), 0)
	}
}

// P26.2: a Path that does not stand behind the one ahead tears by its last byte.
func TestP262Order(t *testing.T) {
	paths := []string{"!", "-", "0", "A", "a", "a\x01", "a!", "a-", "a.", "a./b", "a/!", "a/b", "a/b/c", "a0", "aa", "b", "\x7f", "\x80", "\xff", "\xff\xff"}
	for i, p := range paths {
		first := textOf(rawOf(file(p, "x")))
		for j, q := range paths {
			b := append(bytes.Clone(first), rawOf(white(q)).text()...)
			if i < j {
				wantStands(t, b, 2, false)
				continue
			}
			wantTorn(t, b, len(first)+4+len(q), 1)
			wantStands(t, b[:len(first)+4+len(q)], 1, false)
		}
	}
	first := textOf(rawOf(file("a", "")), rawOf(file("c", "")))
	wantTorn(t, append(first, rawOf(file("b", "")).text()...), len(first)+5, 2)
}

// P26.2: a length of Data that is told again otherwise tears by its last byte.
func TestP262DataLengthAgain(t *testing.T) {
	at := len(behind()) + 13
	for _, good := range []raw{rawOf(file("d", "x")), rawOf(dir("d")), rawOf(link("d", "")), rawOf(white("d"))} {
		for bit := range 32 {
			x, y := good, good
			x.dataLong ^= 1 << bit
			y.rest ^= 1 << bit
			wantTorn(t, behind(x), at, 2)
			wantTorn(t, behind(y), at, 2)
			wantTorn(t, behind(y)[:at+1], at, 2)
			wantStands(t, behind(x)[:at], 2, false)
			wantStands(t, behind(y)[:at], 2, false)
		}
		for _, rest := range []uint32{0, 1, 4294967293, 1 << 16} {
			x := good
			x.rest = rest
			wantTorn(t, behind(x), at, 2)
		}
	}
}

// P26.2: a length of Data that the kind does not let in.
func TestP262DataLength(t *testing.T) {
	at := len(behind()) + 13
	for _, kind := range []byte{0, 1, 2, 4} {
		for _, n := range []uint32{0, 1, 2, 255, 256, 65535, 65536, 1<<22 - 1, 1 << 22, 1<<22 + 1, 1 << 23, 1 << 24, 1<<31 - 1, 1 << 31, 1<<32 - 1} {
			x := raw{kind: kind, long: 1, less: 65534, path: "d", dataLong: n, rest: ^n}
			b := behind(x)[:at+1]
			if n == 0 || n <= 1<<22 && kind != 1 && kind != 4 {
				wantStands(t, b, 2, false)
				continue
			}
			wantTorn(t, b, at, 2)
			wantTorn(t, append(b, 0, 0), at, 2)
			wantStands(t, b[:at], 2, false)
		}
	}
}

// P26.2: an item whose sum is another one tears by the sum's last byte, and is not told.
func TestP262ItemSum(t *testing.T) {
	for _, good := range []api.Item{file("d", "xyz"), dir("d/e"), link("d", ""), white("dd")} {
		n := len(behind(rawOf(good)))
		for bit := range 64 {
			x := rawOf(good)
			x.off = 1 << bit
			b := behind(x)
			wantTorn(t, b, n-1, 2)
			wantTorn(t, append(b, rawOf(file("e", "")).text()...), n-1, 2)
			wantStands(t, b[:n-1], 2, false)
		}
	}
}

// P26.2: how many there are, if it is not as many, tears by its last byte.
func TestP262Count(t *testing.T) {
	for n := range 5 {
		b := textOf(rawsOf(many(n))...)
		for _, count := range []int{0, 1, 2, 3, 4, 5, 256, n + 256, n + 1<<16, n + 1<<24, 1<<32 - 1} {
			if count == n {
				wantStands(t, ended(b, count), n, true)
				continue
			}
			wantTorn(t, ended(b, count), len(b)+4, n)
			wantTorn(t, ended(b, count)[:len(b)+5], len(b)+4, n)
			wantStands(t, ended(b, count)[:len(b)+4], n, false)
		}
	}
}

// P26.2: the end's sum, if it is another one, tears by its last byte.
func TestP262EndSum(t *testing.T) {
	for n := range 4 {
		b := textOf(rawsOf(many(n))...)
		for bit := range 64 {
			x := ended(b, n)
			x[len(x)-1-bit/8] ^= 1 << (bit % 8)
			wantTorn(t, x, len(x)-1, n)
			wantTorn(t, append(x, 0), len(x)-1, n)
			wantStands(t, x[:len(x)-1], n, false)
		}
	}
}

// P26.2: any byte behind the end tears; nothing behind it does not.
func TestP262Behind(t *testing.T) {
	for n := range 4 {
		b := wantWritten(t, many(n)...)
		wantStands(t, b, n, true)
		for x := range 256 {
			wantTorn(t, append(bytes.Clone(b), byte(x)), len(b), n)
		}
		wantTorn(t, append(bytes.Clone(b), b...), len(b), n)
		x := newReading(append(b, 0xff))
		x.feed(t, len(b))
		for range 5 {
			x.feed(t, 0)
		}
		x.feed(t, 1)
		x.feed(t, 0)
	}
}

// P26.2: beside ErrTar stand the items that got whole by that very call, and no others, ahead of it or behind it.
func TestP262Beside(t *testing.T) {
	l := each()
	good := textOf(rawsOf(l)...)
	bounds := paperRead(good).bounds
	b := append(bytes.Clone(good), 3)
	b = append(b, good[4:]...)
	for i := range bounds[1:] {
		r := archive.New()
		first, e := r.Feed(b[:bounds[i+1]])
		if e != api.OK || len(first) != i {
			t.Fatalf("%d items: %s, %v", i, text(first), e)
		}
		second, e := r.Feed(b[bounds[i+1]:])
		if e != api.ErrTar || !slices.EqualFunc(second, l[i:], sameItem) {
			t.Errorf("behind %d items: %s, %v, want %s", i, text(second), e, text(l[i:]))
		}
		spoil(t, second)
		for _, more := range [][]byte{nil, {}, good, {0xff}} {
			if l, e := r.Feed(more); len(l) > 0 || e != api.ErrTar || r.Done() || r.Held() != 0 {
				t.Errorf("behind that Feed of %x answers %s, %v", more, text(l), e)
			}
		}
	}
}

// P26.2: Data as long as may be, and a Path that is, too, in pieces.
func TestP262Large(t *testing.T) {
	data := bytes.Repeat([]byte("0123456789abcdef!"), 1<<18)[:1<<22]
	l := list{{Path: pathOf('a', 4096), Data: data}, {Path: "l", Kind: api.NodeLink, Data: data[1:]}, dir("m")}
	b := wantWritten(t, l...)
	for _, n := range []int{len(b), 1 << 16, 1<<20 + 1, 999983} {
		x := newReading(b)
		for x.came < len(b) {
			x.feed(t, min(n, len(b)-x.came))
		}
	}
	x := newReading(b)
	x.feed(t, 4+4096+21+1<<22-1)
	x.feed(t, 1)
	b[4+4096+13+1<<21] ^= 1
	wantTorn(t, b, 4+4096+21+1<<22-1, 0)
}

// P26.2: of a large text byte by byte: it ends soon, too.
func TestP262LargeBytes(t *testing.T) {
	l := list{{Path: pathOf('a', 4096), Data: make([]byte, 1<<20)}, file("b", "x")}
	b := wantWritten(t, l...)
	r := archive.New()
	var told list
	for i := range b {
		x, e := r.Feed(b[i : i+1])
		if e != api.OK || r.Done() != (i == len(b)-1) {
			t.Fatalf("byte %d: %v, %v", i, e, r.Done())
		}
		told = append(told, x...)
	}
	if !slices.EqualFunc(told, l, sameItem) {
		t.Errorf("told are %s", text(told))
	}
}

// R1: no reader.
func TestNil(t *testing.T) {
	var r *archive.Reader
	for _, b := range [][]byte{nil, {}, []byte("MTA1"), []byte("x")} {
		if l, e := r.Feed(b); len(l) > 0 || e != api.ErrNil {
			t.Errorf("Feed of %q answers %s, %v", b, text(l), e)
		}
	}
	if r.Done() || r.Held() != 0 {
		t.Error("no reader is Done, or holds something")
	}
}

// R2, R3: what is told stays, whatever comes later, and two readers know nothing of one another.
func TestTwoReaders(t *testing.T) {
	a, b := wantWritten(t, each()...), wantWritten(t, file("a", "1"), file("b", "22"), link("c", "333"))
	r, s := archive.New(), archive.New()
	var one, two list
	for i := range max(len(a), len(b)) {
		if i < len(a) {
			l, _ := r.Feed(a[i : i+1])
			one = append(one, l...)
		}
		if i < len(b) {
			l, _ := s.Feed(b[i : i+1])
			two = append(two, l...)
		}
	}
	clear(a)
	clear(b)
	s.Feed([]byte("x"))
	if !slices.EqualFunc(one, each(), sameItem) || !r.Done() || s.Done() {
		t.Errorf("the first one tells %s", text(one))
	}
	if !slices.EqualFunc(two, list{file("a", "1"), file("b", "22"), link("c", "333")}, sameItem) {
		t.Errorf("the second one tells %s", text(two))
	}
	spoil(t, slices.Clip(append(one, two...)))
}
