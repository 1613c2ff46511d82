package archive_test

import (
	"bytes"
	"encoding/hex"
	"fmt"
	"strings"
	"testing"

	"mantle/api"
	"mantle/archive"
	"mantle/sums"
)

// pathOf is a path of n bytes that may be, of names that all begin with one letter.
func pathOf(first byte, n int) string {
	var b strings.Builder
	for ; n > 64; n -= 32 {
		b.WriteString(string(first) + strings.Repeat("p", 30) + "/")
	}
	b.WriteString(string(first) + strings.Repeat("q", n-1))
	return b.String()
}

// many are n files in order.
func many(n int) (l list) {
	for i := range n {
		l = append(l, file(fmt.Sprintf("f%05d", i), ""))
	}
	return l
}

// each is a list of one of all kinds that may be, with bytes and without.
func each() list {
	return list{
		dir("a"), file("a/b", "one"), file("a/c", ""), link("a/d", "../e"), white("b"),
		link("c", ""), file("no/such/dir", "\x00\xff"), white("z/\xff"),
	}
}

// P26.1: nothing but the mark and the end.
func TestP261None(t *testing.T) {
	want := "4d544131" + "ff" + "00000000" + fmt.Sprintf("%016x", sums.Sum([]byte("MTA1\xff\x00\x00\x00\x00")))
	for _, l := range []list{nil, {}} {
		b := wantWritten(t, l...)
		if hex.EncodeToString(b) != want || len(b) != 17 {
			t.Errorf("none is told as %x, want %s", b, want)
		}
	}
}

// P26.1: all bytes of one item of each kind, one by one.
func TestP261Bytes(t *testing.T) {
	for _, x := range []struct {
		item api.Item
		want string
	}{
		{file("a", "x"), "00" + "0001" + "fffe" + "61" + "00000001" + "fffffffe" + "78"},
		{file("a", ""), "00" + "0001" + "fffe" + "61" + "00000000" + "ffffffff"},
		{dir("a/b"), "01" + "0003" + "fffc" + "612f62" + "00000000" + "ffffffff"},
		{link("\xff", "../x"), "02" + "0001" + "fffe" + "ff" + "00000004" + "fffffffb" + "2e2e2f78"},
		{link("l", ""), "02" + "0001" + "fffe" + "6c" + "00000000" + "ffffffff"},
		{white("w"), "04" + "0001" + "fffe" + "77" + "00000000" + "ffffffff"},
	} {
		item, _ := hex.DecodeString(x.want)
		want := "4d544131" + x.want + fmt.Sprintf("%016x", sums.Sum(item)) + "ff" + "00000001"
		ahead, _ := hex.DecodeString(want)
		want += fmt.Sprintf("%016x", sums.Sum(ahead))
		if b := wantWritten(t, x.item); hex.EncodeToString(b) != want {
			t.Errorf("%s is told as %x, want %s", text(list{x.item}), b, want)
		}
	}
}

// P26.1: lengths and counts of which more than the last byte is not 0.
func TestP261Lengths(t *testing.T) {
	for _, n := range []int{1, 2, 63, 64, 65, 66, 127, 128, 129, 255, 256, 258, 511, 4095, 4096} {
		p := pathOf('p', n)
		if len(p) != n || !isPath(p) {
			t.Fatalf("%d: no path of so many bytes: %q", n, p)
		}
		b := wantWritten(t, file(p, "x"))
		want := []byte{0, byte(n >> 8), byte(n), 255 - byte(n>>8), 255 - byte(n)}
		if !bytes.Equal(b[4:9], want) {
			t.Errorf("a path of %d bytes is told by %x, want %x", n, b[4:9], want)
		}
	}
	for _, n := range []int{0, 1, 255, 256, 65535, 65536, 66051, 1 << 20, 1<<22 - 1, 1 << 22} {
		for _, kind := range []int8{api.NodeFile, api.NodeLink} {
			b := wantWritten(t, api.Item{Path: "a", Kind: kind, Data: bytes.Repeat([]byte("d"), n)})
			want := []byte{byte(n >> 24), byte(n >> 16), byte(n >> 8), byte(n)}
			want = append(want, ^want[0], ^want[1], ^want[2], ^want[3])
			if !bytes.Equal(b[10:18], want) || len(b) != 4+14+n+8+13 {
				t.Errorf("%d bytes of data are told by %x, want %x; %d bytes in all", n, b[10:18], want, len(b))
			}
		}
	}
	for _, n := range []int{1, 2, 255, 256, 258, 1025} {
		b := wantWritten(t, many(n)...)
		if got := b[len(b)-13 : len(b)-8]; !bytes.Equal(got, []byte{0xff, 0, 0, byte(n >> 8), byte(n)}) {
			t.Errorf("%d items are told as %x", n, got)
		}
	}
}

// P26.1: one of all, of which directories need not be there, nor be directories.
func TestP261Each(t *testing.T) {
	wantWritten(t, each()...)
	wantWritten(t, file("a/b/c", "x"))
	wantWritten(t, file("a", "x"), file("a/b", "y"))
	wantWritten(t, link("a", "x"), dir("a/b"), white("a/b/c"))
	wantWritten(t, white("a"), white("a/a"))
	wantWritten(t, file(strings.TrimSuffix(strings.Repeat("a/", 2048), "/"), "deeper than a tree"))
}

// P26.1: as many as may be, and one more, whatever else is wrong.
func TestP261Many(t *testing.T) {
	l := many(4097)
	b := wantWritten(t, l[:4096]...)
	if !bytes.Equal(b[len(b)-13:len(b)-8], []byte{0xff, 0, 0, 0x10, 0}) {
		t.Errorf("4096 are told as %x", b[len(b)-13:])
	}
	wantRefused(t, api.ErrLong, 4096, l...)
	wantRefused(t, api.ErrLong, 4096, many(5000)...)
	wantRefused(t, api.ErrLong, 4096, make(list, 4097)...)
	for _, x := range noItems() {
		for _, at := range []int{0, 1, 4095, 4096} {
			bad := many(4097)
			bad[at] = x
			wantRefused(t, api.ErrLong, 4096, bad...)
		}
	}
	l[4095].Path = l[4094].Path
	wantRefused(t, api.ErrArg, 4095, l[:4096]...)
	l[4095] = long("z")
	wantRefused(t, api.ErrLong, 4095, l[:4096]...)
}

// long is a file with one byte more than may be.
func long(path string) api.Item {
	return api.Item{Path: path, Data: make([]byte, 4194305)}
}

// noItems are such as may not be, though none has too much Data.
func noItems() list {
	l := list{
		{Path: "m", Kind: 3}, {Path: "m", Kind: 5}, {Path: "m", Kind: -1}, {Path: "m", Kind: 127}, {Path: "m", Kind: -128},
		{Path: "m", Kind: 1, Data: []byte("x")}, {Path: "m", Kind: 4, Data: []byte("x")}, {Path: "m", Kind: 1, Data: make([]byte, 4194304)},
	}
	for _, p := range noPaths() {
		l = append(l, file(p, "x"))
	}
	return l
}

// noPaths are those that path.Clean refuses or tells otherwise, and the empty one.
func noPaths() []string {
	return []string{
		"", "/", "/m", "m/", "m//n", "//m", ".", "..", "./m", "../m", "m/.", "m/..", "m/./n", "m/../n", "m/../../n",
		"m\x00", "\x00", "m/\x00/n", strings.Repeat("m", 65), "m/" + strings.Repeat("m", 65), strings.Repeat("m", 65) + "/m",
		strings.Repeat("m", 300), strings.Repeat("m/", 2048), "/" + pathOf('m', 4095), "./" + pathOf('m', 4094),
		pathOf('m', 4097), pathOf('m', 4098), pathOf('m', 65535), pathOf('m', 65537), pathOf('m', 70000),
	}
}

// P26.1: an item that may not be, alone, ahead of others and behind them.
func TestP261NoItem(t *testing.T) {
	a, z := file("a", "1"), file("z", "2")
	for _, x := range noItems() {
		wantRefused(t, api.ErrArg, 0, x)
		wantRefused(t, api.ErrArg, 0, x, z)
		wantRefused(t, api.ErrArg, 1, a, x)
		wantRefused(t, api.ErrArg, 1, a, x, z, z)
	}
	for k := -128; k < 128; k++ {
		x := api.Item{Path: "m", Kind: int8(k)}
		if k == 0 || k == 1 || k == 2 || k == 4 {
			wantWritten(t, a, x, z)
			continue
		}
		wantRefused(t, api.ErrArg, 1, a, x, z)
	}
	for _, p := range []string{"...", "m.", ".m", "..m", "m/...", " ", "\x01", "\xff\xfe", "m\\n", strings.Repeat("m", 64), pathOf('m', 4096)} {
		wantWritten(t, file(p, ""))
	}
}

// P26.1: too much Data is ErrLong, whatever else is wrong with the item, though not if a kind may have none.
func TestP261Long(t *testing.T) {
	a, x := file("a", "1"), long("m")
	wantRefused(t, api.ErrLong, 0, x)
	wantRefused(t, api.ErrLong, 1, a, x, a)
	for k := -128; k < 128; k++ {
		x.Kind = int8(k)
		if _, e, at := archive.Write(list{a, x}); e != api.ErrLong || at != 1 {
			t.Errorf("too much of kind %d: %v, %d", k, e, at)
		}
	}
	for _, p := range append(noPaths(), "a", "B", "0") {
		if b, e, at := archive.Write(list{a, {Path: p, Data: x.Data}}); b != nil || e != api.ErrLong || at != 1 {
			t.Errorf("too much at %.100q: %v, %d", p, e, at)
		}
	}
}

// P26.1: of two that are wrong the first one counts.
func TestP261TwoWrong(t *testing.T) {
	a, bad := file("a", "1"), append(noItems(), long("m"), long(""))
	for _, x := range bad {
		for _, y := range []api.Item{bad[0], bad[8], long("m"), a} {
			want := api.ErrArg
			if len(x.Data) > 4194304 {
				want = api.ErrLong
			}
			if b, e, at := archive.Write(list{a, x, y}); b != nil || e != want || at != 1 {
				t.Errorf("%s: %v, %d, want %v, 1", text(list{a, x, y}), e, at, want)
			}
		}
	}
}

// P26.1: paths rise byte by byte, which is not the order of trees.
func TestP261Order(t *testing.T) {
	rising := []string{"!", "-", "0", "A", "a", "a\x01", "a!", "a-", "a.", "a./b", "a/", "a/!", "a/b", "a/b/c", "a0", "aa", "b", "\x7f", "\x80", "\xff", "\xff\xff"}
	for i, p := range rising {
		for j, q := range rising {
			switch {
			case p == "a/" || q == "a/":
			case i < j:
				wantWritten(t, file(p, ""), file(q, ""))
			default:
				wantRefused(t, api.ErrArg, 1, file(p, ""), file(q, ""))
				wantRefused(t, api.ErrArg, 2, file("\x01", ""), file(p, "x"), dir(q), file("\xff\xff\xff", ""))
			}
		}
	}
	wantWritten(t, dir("a"), dir("a!"), dir("a/b"), dir("a0"))
	wantRefused(t, api.ErrArg, 2, dir("a"), dir("a/b"), dir("a!"), dir("a0"))
	wantRefused(t, api.ErrArg, 2, file("a", ""), file("c", ""), file("b", ""), file("d", ""))
	wantRefused(t, api.ErrArg, 2, file("b", ""), file("c", ""), file("b", ""))
	long := pathOf('m', 4095)
	wantWritten(t, file(long, ""), file(long+"q", ""))
	wantRefused(t, api.ErrArg, 1, file(long+"q", ""), file(long, ""))
}

// P26.1: any items, of which some may not be or stand where they may.
func TestP261Any(t *testing.T) {
	told := map[string]int{}
	for seed := range chance(6000) {
		c := seed
		l := c.spoilt(c.items(8))
		_, e, at := write(t, l)
		switch {
		case e == api.OK:
			told["written"]++
		case at == 0:
			told["the first one"]++
		default:
			told["a later one"]++
		}
	}
	for _, k := range []string{"written", "the first one", "a later one"} {
		if told[k] < 500 {
			t.Errorf("%d: %s", told[k], k)
		}
	}
}

// What was told once is neither kept nor changed by what is told later.
func TestWriteAgain(t *testing.T) {
	first, _, _ := archive.Write(each())
	was := bytes.Clone(first)
	archive.Write(many(20))
	clear(first[:cap(first)])
	again, e, _ := archive.Write(each())
	if e != api.OK || !bytes.Equal(again, was) {
		t.Errorf("written again: %x, want %x", again, was)
	}
}
