package tree_test

import (
	"fmt"
	"math"
	"slices"
	"strings"
	"testing"

	"mantle/api"
	"mantle/node"
	"mantle/tree"
)

// P19.1: no items make an empty directory, a new one each time.
func TestP191None(t *testing.T) {
	var met []*node.Node
	for _, l := range [][]api.Item{nil, {}, make([]api.Item, 0, 5)} {
		n, e, at := tree.Make(l)
		if n.Kind() != api.NodeDir || e != api.OK || at != 0 || slices.Contains(met, n) {
			t.Errorf("Make of none answers one of kind %d, %v, %d", n.Kind(), e, at)
		}
		met = append(met, n)
		wantMade(t, l...)
	}
}

// P19.1: files, directories and links at several depths.
func TestP191Made(t *testing.T) {
	wantMade(t, dir("d"), file("d/a", "xy"), link("l", "d/a"))
	wantMade(t, file("a.b", ""), dir("a"), file("a/c", ""))
	wantMade(t, dir("a"), dir("a/b"), dir("a/b/c"), file("a/b/c/f", "1"), link("a/b/c/l", "../f"), file("a/b/f", "2"), link("a/l", "/"), file("f", "3"), dir("e"))
	wantMade(t, dir("x"), dir("x/x"), dir("x/x/x"), file("x/x/x/x", "x"))
	wantMade(t, file("a", ""), link("b", "a"), link("c", "c"), link("d", "not there"))
	wantMade(t, file("A", "1"), file("a", "2"), file("a ", "3"), file(" a", "4"), file("é", "5"), file("\xff", "6"), file("\x01", "7"))
}

// An empty list of bytes is none, be it nil or not.
func TestP191EmptyBytes(t *testing.T) {
	for _, b := range [][]byte{nil, {}, make([]byte, 0, 9)} {
		wantMade(t, api.Item{Path: "d", Kind: api.NodeDir, Data: b}, api.Item{Path: "f", Data: b})
		wantPlace(t, []api.Item{{Path: "l", Kind: api.NodeLink, Data: b}}, api.ErrName, 0)
	}
}

// P19.1: files are of memory, and can all; each has bytes of its own.
func TestP191Files(t *testing.T) {
	b := []byte("abc")
	n := made(t, api.Item{Path: "a", Data: b}, api.Item{Path: "b", Data: b})
	other := made(t, api.Item{Path: "a", Data: b})
	a, _ := n.Get("a")
	h, e := a.Open()
	if e != api.OK || h.Can() != 15 {
		t.Fatalf("the file can %d, %v", h.Can(), e)
	}
	for _, op := range []api.Op{{Do: api.DoWrite, At: 1, B: []byte("xyz")}, {Do: api.DoCut, At: 6}, {Do: api.DoSync}} {
		if told := h.Do(op); told.E != api.OK {
			t.Errorf("%v answers %v", op, told.E)
		}
	}
	if told := h.Do(api.Op{Do: api.DoNext}); told.N != 0 || told.M != 4 {
		t.Errorf("the first stretch is %d to %d", told.N, told.M)
	}
	wantList(t, "behind the write", stands(t, n), []api.Item{file("a", "axyz\x00\x00"), file("b", "abc")})
	wantList(t, "another tree", stands(t, other), []api.Item{file("a", "abc")})
	if string(b) != "abc" {
		t.Errorf("the bytes that were handed in are %q", b)
	}
}

// P19.1: each of the kinds that a number can tell.
func TestP191Kinds(t *testing.T) {
	for k := math.MinInt8; k <= math.MaxInt8; k++ {
		for _, b := range []string{"", "x"} {
			x := api.Item{Path: "a", Kind: int8(k), Data: []byte(b)}
			want := api.OK
			switch {
			case k < 0 || k > 2 || k == 1 && b != "":
				want = api.ErrArg
			case k == 2 && b == "":
				want = api.ErrName
			}
			wantPlace(t, []api.Item{x}, want, 0)
		}
	}
}

// badNames are no names; a stroke would part them.
func badNames() []string {
	return []string{"", ".", "..", "\x00", "a\x00", "\x00a", "a\x00b", strings.Repeat("n", 65), strings.Repeat("é", 33), strings.Repeat("n", 200)}
}

// goodNames are names, though they look like none.
func goodNames() []string {
	return []string{"...", " ", ".a", "a.", "..a", "a..", ". ", "\\", "\n", "\xff", "\x01", "~", strings.Repeat("n", 64), strings.Repeat("é", 32), strings.Repeat(".", 64)}
}

// P19.1: a name that is none at each place of a path, and names that are some.
func TestP191Names(t *testing.T) {
	for _, name := range badNames() {
		for _, x := range []api.Item{file("", ""), dir(""), link("", "x")} {
			for _, form := range []string{"%s", "%s/b", "d/%s", "d/%s/b", "d/e/%s", "%s/%s", "f/%s", "q/%s"} {
				x.Path = strings.ReplaceAll(form, "%s", name)
				wantPlace(t, []api.Item{dir("d"), dir("d/e"), file("f", ""), x}, api.ErrName, 3)
			}
		}
	}
	for _, name := range goodNames() {
		wantMade(t, dir(name), dir(name+"/"+name), file(name+"/"+name+"/"+name, "x"), link(name+"/l", name))
	}
}

// P19.1: strokes ahead, behind and twice.
func TestP191Strokes(t *testing.T) {
	for _, path := range []string{"", "/", "//", "/a", "a/", "a//b", "/d/b", "d/b/", "d//b", "//a", "a//", "./a", "a/.", "d/..", "../a", "d/./b", "d/../b"} {
		wantPlace(t, []api.Item{dir("d"), dir("a"), file(path, "")}, api.ErrName, 2)
		wantPlace(t, []api.Item{file(path, "")}, api.ErrName, 0)
	}
}

// deep is a chain of n directories with names of so many bytes, and the path of the last one.
func deep(n, long int) (l []api.Item, path string) {
	name := strings.Repeat("n", long)
	for i := range n {
		if i > 0 {
			path += "/"
		}
		path += name
		l = append(l, dir(path))
	}
	return l, path
}

// P19.1: 4096 bytes of a path, and one more.
func TestP191PathBytes(t *testing.T) {
	l, path := deep(63, 64)
	if len(path) != 4094 {
		t.Fatal(len(path))
	}
	for _, x := range []api.Item{file("", "x"), dir(""), link("", "x")} {
		x.Path = path + "/a"
		wantMade(t, append(l, x)...)
		for _, more := range []string{"/ab", "/abc", "/" + strings.Repeat("n", 64)} {
			x.Path = path + more
			wantPlace(t, append(l, x), api.ErrLong, 63)
		}
	}
	for _, n := range []int{4095, 4096, 4097, 1 << 20} {
		want := api.ErrName
		if n > 4096 {
			want = api.ErrLong
		}
		wantPlace(t, []api.Item{file(strings.Repeat("n", n), "")}, want, 0)
		wantPlace(t, []api.Item{file("q/"+strings.Repeat("n", n-2), "")}, want, 0)
	}
}

// P19.1: 64 names of a path, and one more.
func TestP191PathNames(t *testing.T) {
	for _, x := range []api.Item{file("", "x"), dir(""), link("", "x")} {
		for _, n := range []int{62, 63, 64} {
			l, path := deep(n, 1)
			x.Path = path + "/x"
			if n < 64 {
				wantMade(t, append(l, x)...)
			} else {
				wantPlace(t, append(l, x), api.ErrLong, n)
			}
		}
	}
	for strokes, want := range map[int]api.Errno{1: api.ErrName, 62: api.ErrName, 63: api.ErrName, 64: api.ErrLong, 65: api.ErrLong, 4096: api.ErrLong} {
		wantPlace(t, []api.Item{file(strings.Repeat("/", strokes), "")}, want, 0)
		wantPlace(t, []api.Item{file(strings.Repeat("q/", min(strokes, 2000))+"x", "")}, []api.Errno{api.ErrNone, api.ErrLong}[min(strokes/64, 1)], 0)
	}
}

// P19.1: bytes of files that are together MaxData, and one more; those of links count for nothing.
func TestP191Bytes(t *testing.T) {
	big := make([]byte, 4194304+1)
	of := func(path string, n int) api.Item { return api.Item{Path: path, Data: big[:n]} }
	wantMade(t, of("a", 4194304))
	wantPlace(t, []api.Item{of("a", 4194305)}, api.ErrLong, 0)
	wantMade(t, of("a", 4194303), of("b", 1), of("c", 0), link("l", "abc"), dir("d"))
	wantPlace(t, []api.Item{of("a", 4194303), of("b", 2), of("c", 0)}, api.ErrLong, 1)
	wantPlace(t, []api.Item{of("a", 4194304), of("b", 0), dir("d"), link("l", "abc"), of("d/x", 0), of("c", 1)}, api.ErrLong, 5)
	l := []api.Item{dir("d")}
	for i := range 64 {
		l = append(l, of(fmt.Sprint("d/", i), 65536))
	}
	wantMade(t, l...)
	wantMade(t, append(l, link("l", "x"), of("e", 0))...)
	wantPlace(t, append(l, of("e", 1)), api.ErrLong, 65)
	var links []api.Item
	for i := range 1100 {
		links = append(links, link(fmt.Sprint(i), strings.Repeat("x", 4096)))
	}
	wantMade(t, append(links, of("f", 4194304))...)
}

// P19.1: the bytes are asked ahead of the name and of the place, behind the path's length and the kind.
func TestP191BytesInOrder(t *testing.T) {
	big := make([]byte, 4194304+1)
	for path, want := range map[string]api.Errno{"a": api.ErrLong, "": api.ErrLong, "q/a": api.ErrLong, "f/a": api.ErrLong, "f": api.ErrLong} {
		wantPlace(t, []api.Item{file("f", ""), {Path: path, Data: big}}, want, 1)
		wantPlace(t, []api.Item{file("f", "x"), {Path: path, Data: big[1:]}}, want, 1)
		for _, kind := range []int8{-1, 1, 3, 4} {
			wantPlace(t, []api.Item{file("f", ""), {Path: path, Kind: kind, Data: big}}, api.ErrArg, 1)
		}
	}
	wantPlace(t, []api.Item{{Path: "a", Kind: api.NodeLink, Data: big}}, api.ErrLong, 0)
	wantPlace(t, []api.Item{{Path: "", Kind: api.NodeLink, Data: big}}, api.ErrName, 0)
}

// many are so many items: directories, and files in them.
func many(n int) (l []api.Item) {
	for i := range n {
		if i%100 == 0 {
			l = append(l, dir(fmt.Sprint(i/100)))
		} else {
			l = append(l, file(fmt.Sprint(i/100, "/", i), ""))
		}
	}
	return l
}

// P19.1: 4096 nodes, and one more, wherever they stand: the root is none of them.
func TestP191Nodes(t *testing.T) {
	wantMade(t, many(4096)...)
	for _, x := range []api.Item{dir("x"), file("x", ""), link("x", "y"), file("0/x", ""), link("x", "")} {
		wantMade(t, append(many(4094), dir("y"), dir("z"))...)
		wantPlace(t, append(many(4096), x), api.ErrFull, 4096)
		wantPlace(t, append(many(4096), x, file("", "")), api.ErrFull, 4096)
	}
	var flat []api.Item
	for i := range 4096 {
		flat = append(flat, link(fmt.Sprint(i), "x"))
	}
	wantMade(t, flat...)
	wantPlace(t, append(flat, dir("d")), api.ErrFull, 4096)
}

// P19.1: a link's bytes: none, few, 4096, and one more.
func TestP191Links(t *testing.T) {
	for n, want := range map[int]api.Errno{0: api.ErrName, 1: api.OK, 4095: api.OK, 4096: api.OK, 4097: api.ErrLong, 1 << 17: api.ErrLong} {
		for _, part := range []string{"x", "/", "\x00", "\xff", "."} {
			wantPlace(t, []api.Item{link("l", strings.Repeat(part, n))}, want, 0)
		}
	}
	wantMade(t, link("l", "l"), link("a", ".."), link("b", "//"), link("c", "\x00"))
}

// P19.1: a parent that is not there, that comes later, that is no directory.
func TestP191Parents(t *testing.T) {
	for _, x := range []api.Item{file("", "x"), dir(""), link("", "x")} {
		at := func(path string) api.Item { y := x; y.Path = path; return y }
		wantPlace(t, []api.Item{at("d/a")}, api.ErrNone, 0)
		wantPlace(t, []api.Item{at("d/a"), dir("d")}, api.ErrNone, 0)
		wantPlace(t, []api.Item{dir("d"), at("d/e/a"), dir("d/e")}, api.ErrNone, 1)
		wantPlace(t, []api.Item{dir("d"), at("d/d/d")}, api.ErrNone, 1)
		wantPlace(t, []api.Item{dir("d"), at("e/a")}, api.ErrNone, 1)
		wantPlace(t, []api.Item{dir("d"), at("D/a")}, api.ErrNone, 1)
		wantPlace(t, []api.Item{file("f", "x"), at("f/a")}, api.ErrDir, 1)
		wantPlace(t, []api.Item{dir("d"), link("l", "d"), at("l/a")}, api.ErrDir, 2)
		wantPlace(t, []api.Item{dir("d"), file("d/f", ""), at("d/f/a")}, api.ErrDir, 2)
		wantPlace(t, []api.Item{file("f", "x"), at("f/a/b")}, api.ErrNone, 1)
		wantPlace(t, []api.Item{link("l", "l"), at("l/a/b/c")}, api.ErrNone, 1)
		wantPlace(t, []api.Item{dir("d"), dir("d/f"), file("f", ""), at("d/f/a"), at("f/a")}, api.ErrDir, 4)
	}
}

// P19.1: the same path twice, be the two of which kinds they like.
func TestP191Twice(t *testing.T) {
	kinds := []api.Item{file("", "x"), dir(""), link("", "x"), link("", ""), link("", strings.Repeat("x", 4097))}
	for _, path := range []string{"a", "d/a", "d/d"} {
		for _, x := range kinds[:3] {
			for _, y := range kinds {
				x.Path, y.Path = path, path
				wantPlace(t, []api.Item{dir("d"), x, dir("e"), y}, api.ErrThere, 3)
			}
		}
	}
	wantMade(t, dir("a"), dir("a/a"), dir("b"), dir("b/a"), file("b/b", ""))
}

// chosen are items ahead of which a flawed one may come: with a file of all bytes, or with all nodes.
func chosen(heavy, full bool) []api.Item {
	l, _ := deep(63, 64)
	l = append(l, dir("d"), file("f", ""), link("l", "d"), file("d/t", ""))
	if heavy {
		l[64].Data = make([]byte, 4194304)
	}
	for i := 0; full && len(l) < 4096; i++ {
		l = append(l, link(fmt.Sprint("fill", i), "x"))
	}
	return l
}

// somePaths are such with no flaw, with one and with several at once.
func somePaths() []string {
	_, path := deep(63, 64)
	_, absent := deep(63, 63)
	long := strings.Repeat("/q", 32)
	return []string{
		"n", "d/n", path + "/n",
		path + "/nn", absent + "/" + strings.Repeat("n", 64) + "/n", strings.Repeat("n", 4097), path + "/\x00\x00",
		"q" + long + long, "q" + strings.Repeat("/", 64), "f" + long + long,
		"", "d/", "d/..", "q/..", "f/..", "./f", "d//t", strings.Repeat("n", 65),
		"q/n", "d/q/n", "f/n/n", "f/n", "l/n", "d/t/n",
		"f", "d", "l", "d/t", path,
	}
}

// someItems are such with and without a flaw of their kind or their bytes.
func someItems() []api.Item {
	return []api.Item{
		file("", ""), file("", "x"), {Data: make([]byte, 4194305)},
		dir(""), {Kind: api.NodeDir, Data: []byte("x")},
		link("", "x"), link("", ""), link("", strings.Repeat("x", 4097)),
		{Kind: api.NodeMount}, {Kind: api.NodeWhite, Data: []byte("x")}, {Kind: -1},
	}
}

// P19.1, R5: all flaws of an item, one or several at once, at the first, a middle and the last place, with others behind them.
func TestP191Order(t *testing.T) {
	told := map[api.Errno]int{}
	behind := []api.Item{dir("z"), file("", ""), {Path: "y", Kind: 9}}
	for i, front := range [][]api.Item{nil, chosen(true, false), chosen(false, false), chosen(false, true)} {
		for _, path := range somePaths() {
			for _, x := range someItems() {
				x.Path = path
				e, at := paperMake(append(slices.Clip(front), x))
				told[e]++
				wantOrder(t, append(slices.Clip(front), x), e, at)
				if e != api.OK && i < 2 {
					wantOrder(t, append(append(slices.Clip(front), x), behind...), e, at)
				}
			}
		}
	}
	for _, e := range []api.Errno{api.OK, api.ErrArg, api.ErrLong, api.ErrFull, api.ErrName, api.ErrThere, api.ErrNone, api.ErrDir} {
		if told[e] == 0 {
			t.Errorf("no item was answered %v", e)
		}
	}
}

func wantOrder(t *testing.T, l []api.Item, want api.Errno, place int) {
	t.Helper()
	n, e, at := tree.Make(l)
	if e != want || at != place || (n == nil) != (e != api.OK) {
		t.Errorf("Make answers %v, %d, want %v, %d: %s", e, at, want, place, text(l[max(0, len(l)-4):]))
	}
}

// The first of several flawed items is told, wherever they stand.
func TestP191FirstOfSeveral(t *testing.T) {
	flawed := []api.Item{file("", ""), file("q/a", ""), {Path: "m", Kind: api.NodeMount}, link("l", ""), link("k", strings.Repeat("x", 4097)), dir("a"), file("f/x", "")}
	errs := []api.Errno{api.ErrName, api.ErrNone, api.ErrArg, api.ErrName, api.ErrLong, api.ErrThere, api.ErrDir}
	good := []api.Item{dir("a"), file("f", ""), dir("a/b"), link("a/b/l", "x"), file("a/f", "abc")}
	for i, x := range flawed {
		for _, y := range flawed {
			for at := 2; at <= len(good); at++ {
				for more := at; more <= len(good); more++ {
					l := slices.Insert(slices.Clone(good), more, y)
					wantPlace(t, slices.Insert(l, at, x), errs[i], at)
				}
			}
		}
	}
}

// R3: what is done to the list behind the call, with the room behind its lists' ends, is not seen; and none of it was changed.
func TestP191KeepsNothing(t *testing.T) {
	room := []byte("abcdefgh")
	l := make([]api.Item, 0, 9)
	l = append(l, dir("d"), api.Item{Path: "d/f", Data: room[:3]}, api.Item{Path: "l", Kind: api.NodeLink, Data: room[3:5]}, api.Item{Path: "g", Data: room[5:5]})
	spare := l[:cap(l)]
	spare[5] = file("spare", "spare")
	want := inOrder(cloned(l))
	n := made(t, l...)
	if string(room) != "abcdefgh" || spare[5].Path != "spare" || string(spare[5].Data) != "spare" || spare[4].Path != "" {
		t.Errorf("the room is %q, %s", room, text(spare))
	}
	for i := range room {
		room[i] = '!'
	}
	clear(spare)
	wantList(t, "behind changes of the list", stands(t, n), want)
	for _, name := range []string{"d", "g"} {
		m, _ := n.Get(name)
		if d, e := m.Get("f"); e == api.OK {
			m = d
		}
		h, _ := m.Open()
		h.Do(api.Op{Do: api.DoWrite, B: []byte("0123456")})
	}
	if string(room) != "!!!!!!!!" {
		t.Errorf("behind writes the room is %q", room)
	}
}
