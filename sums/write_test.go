package sums_test

import (
	"fmt"
	"math"
	"slices"
	"testing"

	"mantle/api"
	"mantle/face"
	"mantle/span"
)

// entries are the calls by which the sums of these blocks of a text are put into the table, each block read anew.
func entries(text string, blocks ...int) (l []string) {
	for _, k := range blocks {
		block := text[min(64*k, len(text)):min(64*k+64, len(text))]
		l = append(l, fmt.Sprintf("a 1 %d 64 ", 64*k), fmt.Sprintf("b 2 %d 0 %s", 8*k, entryOf([]byte(block))))
	}
	return l
}

// with is a text into which another one was written.
func with(text string, at int64, b string) string {
	p := &paper{[]byte(text)}
	p.write(at, []byte(b))
	return string(p.data)
}

// shapes are writes to a file of 200 bytes, by name: the blocks that are held to be right ahead of it, and those whose sums are put into the table behind it.
func shapes() []shape {
	return []shape{
		{"within one block", 70, 9, []int{1}, []int{1}},
		{"a whole block", 64, 64, nil, []int{1}},
		{"a block but for its first byte", 65, 63, []int{1}, []int{1}},
		{"a block but for its last byte", 64, 63, []int{1}, []int{1}},
		{"a block and one byte behind", 64, 65, []int{2}, []int{1, 2}},
		{"a block and one byte ahead", 63, 65, []int{0}, []int{0, 1}},
		{"parts of two blocks, one between", 60, 80, []int{0, 2}, []int{0, 1, 2}},
		{"across one border", 63, 2, []int{0, 1}, []int{0, 1}},
		{"all", 0, 200, nil, []int{0, 1, 2, 3}},
		{"all but for the last byte", 0, 199, []int{3}, []int{0, 1, 2, 3}},
		{"all and more", 0, 300, nil, []int{0, 1, 2, 3, 4}},
		{"the short block", 192, 8, nil, []int{3}},
		{"the short block, grown by one byte", 192, 9, nil, []int{3}},
		{"the short block, grown over its border", 192, 70, nil, []int{3, 4}},
		{"the short block but for its first byte", 193, 7, []int{3}, []int{3}},
		{"the short block but for its last byte", 192, 7, []int{3}, []int{3}},
		{"the short block in part, grown", 199, 2, []int{3}, []int{3}},
		{"at Size", 200, 1, []int{3}, []int{3}},
		{"at Size, up to the border", 200, 56, []int{3}, []int{3}},
		{"at Size, over the border", 200, 57, []int{3}, []int{3, 4}},
		{"behind Size, a gap in one block", 210, 5, []int{3}, []int{3}},
		{"behind Size, a gap up to the border", 256, 5, []int{3}, []int{3, 4}},
		{"behind Size, a gap over several blocks", 400, 100, []int{3}, []int{3, 4, 5, 6, 7}},
		{"behind Size, whole blocks ahead", 384, 1, []int{3}, []int{3, 4, 5, 6}},
	}
}

type shape struct {
	name string
	at   int64
	n    int
	held []int
	puts []int
}

// bytes are what is written: none of them is one of letters.
func (s shape) bytes() string {
	b := []byte(letters(s.n))
	for i := range b {
		b[i] += 100
	}
	return string(b)
}

// calls are all calls of the write, in their order, to a file of this text.
func (s shape) calls(text string) []string {
	write := call("a", api.Op{Do: api.DoWrite, At: s.at, B: []byte(s.bytes())})
	return slices.Concat(readsOf(s.held...), []string{write}, entries(with(text, s.at, s.bytes()), s.puts...))
}

// Each shape: which blocks are held to be right, then the one write, then which sums are put into the table, all rising.
func TestP104Shapes(t *testing.T) {
	text := letters(200)
	for _, s := range shapes() {
		a, b, h, d := summed(t, text)
		wantWrite(t, h, s.at, s.bytes(), api.OK)
		if !slices.Equal(d.sizes, []string{"a"}) {
			t.Errorf("%s: Sizes were asked: %q", s.name, d.sizes)
		}
		if want := s.calls(text); !slices.Equal(d.calls, want) {
			t.Errorf("%s: the files were asked %.900q, want %.900q", s.name, d.calls, want)
		}
		d.forget()
		now := with(text, s.at, s.bytes())
		wantAll(t, a.all, now)
		wantAll(t, b.all, string(tableOf([]byte(now))))
		wantAll(t, h, now)
	}
}

// A file whose last block is whole: a write at Size, or behind it, touches none of the old blocks.
func TestP104WholeBlocks(t *testing.T) {
	text := letters(128)
	for _, x := range []struct {
		at   int64
		n    int
		puts []int
	}{{128, 1, []int{2}}, {128, 64, []int{2}}, {128, 65, []int{2, 3}}, {130, 1, []int{2}}, {192, 1, []int{2, 3}}, {300, 1, []int{2, 3, 4}}} {
		s := shape{at: x.at, n: x.n, puts: x.puts}
		_, b, h, d := summed(t, text)
		wantWrite(t, h, s.at, s.bytes(), api.OK)
		d.wantCalls(t, s.calls(text)...)
		wantAll(t, b.all, string(tableOf([]byte(with(text, s.at, s.bytes())))))
	}
}

// A file of none, whose table has none.
func TestP104None(t *testing.T) {
	for _, x := range []struct {
		at   int64
		n    int
		puts []int
	}{{0, 1, []int{0}}, {0, 64, []int{0}}, {0, 65, []int{0, 1}}, {9, 1, []int{0}}, {63, 1, []int{0}}, {64, 1, []int{0, 1}}, {130, 70, []int{0, 1, 2, 3}}} {
		s := shape{at: x.at, n: x.n, puts: x.puts}
		_, b, h, d := summed(t, "")
		wantWrite(t, h, s.at, s.bytes(), api.OK)
		d.wantCalls(t, s.calls("")...)
		wantAll(t, h, with("", s.at, s.bytes()))
		wantAll(t, b.all, string(tableOf([]byte(with("", s.at, s.bytes())))))
	}
}

// A write of none is OK wherever it is, over wrong blocks too, and comes to neither file.
func TestP104Empty(t *testing.T) {
	data, table := spoilt(letters(200), false, 0, 1, 2, 3)
	a, b, d := two(t, data, table)
	a.refuseAll(api.ErrGone)
	b.refuseAll(api.ErrGone)
	h := newSums(t, a.handle(15), b.handle(15))
	for _, at := range []int64{0, 1, 64, 199, 200, 201, 200 + api.MaxText, 201 + api.MaxText, api.MaxSize} {
		for _, none := range [][]byte{nil, {}} {
			wantTold(t, h, api.Op{Do: api.DoWrite, At: at, B: none}, api.Told{})
		}
	}
	d.wantCalls(t)
	wantSize(t, h, 200)
}

// Just MaxText behind Size is taken, one byte further is refused, and neither file is asked for more than its Size.
func TestP104Far(t *testing.T) {
	for _, size := range []int{0, 1, 63, 64, 65, 200} {
		text := letters(size)
		far := int64(size) + api.MaxText
		a, b, h, d := summed(t, text)
		for _, x := range []struct {
			at int64
			b  string
		}{{far + 1, "x"}, {far + 2, "x"}, {far + 1, letters(api.MaxText)}, {api.MaxSize - 1, "x"}, {api.MaxSize - api.MaxText, letters(api.MaxText)}} {
			wantWrite(t, h, x.at, x.b, api.ErrLong)
		}
		d.wantCalls(t)
		wantAll(t, a.all, text)
		wantAll(t, b.all, string(tableOf([]byte(text))))

		long := letters(api.MaxText)
		wantWrite(t, h, far, long, api.OK)
		now := with(text, far, long)
		wantSize(t, h, int64(len(now)))
		wantRead(t, h, far-9, api.MaxText, now[far-9:far-9+api.MaxText])
		wantRead(t, h, 0, api.MaxText, now[:api.MaxText])
		wantTable(t, a.all, tableOf([]byte(now)), api.OK)
		wantRead(t, b.all, 0, api.MaxText, string(tableOf([]byte(now))))
	}
}

// By the Size at that moment, also when it was changed below.
func TestP104FarBySizeNow(t *testing.T) {
	a, _, h, _ := summed(t, "")
	a.all.Do(api.Op{Do: api.DoCut, At: 640})
	wantWrite(t, h, 641+api.MaxText, "x", api.ErrLong)
	wantWrite(t, h, 640+api.MaxText, "x", api.OK)
	a.all.Do(api.Op{Do: api.DoCut, At: 0})
	wantWrite(t, h, 1+api.MaxText, "x", api.ErrLong)
	wantWrite(t, h, api.MaxText, "x", api.OK)
}

// A write that covers a wrong block whole makes it right; one that leaves a byte of it is refused, and nothing is written.
func TestP104Wrong(t *testing.T) {
	text := letters(200)
	for _, inTable := range []bool{false, true} {
		for k := range 4 {
			from, to := 64*k, min(64*k+64, 200)
			whole := shape{at: int64(from), n: to - from}
			for _, s := range []shape{{at: int64(from + 1), n: to - from - 1}, {at: int64(from), n: to - from - 1}, {at: int64(from + 5), n: 1}} {
				data, table := spoilt(text, inTable, k)
				was, sums := string(data.Get(0, 200)), string(table.Get(0, 200))
				a, b, d := two(t, data, table)
				h := newSums(t, a.handle(15), b.handle(15))
				wantWrite(t, h, s.at, s.bytes(), api.ErrSum)
				d.wantCalls(t, readsOf(k)...)
				wantAll(t, a.all, was)
				wantAll(t, b.all, sums)

				wantWrite(t, h, whole.at, whole.bytes(), api.OK)
				now := with(text, whole.at, whole.bytes())
				wantAll(t, h, now)
				wantAll(t, b.all, string(tableOf([]byte(now))))
			}
		}
	}
}

// Wrong blocks that the write does not touch make no difference, and stay wrong.
func TestP104WrongElsewhere(t *testing.T) {
	text := letters(300)
	data, table := spoilt(text, false, 0, 4)
	a, b, _ := two(t, data, table)
	h := newSums(t, a.handle(15), b.handle(15))
	wantWrite(t, h, 100, letters(100), api.OK)
	wantRead(t, h, 64, 192, with(text, 100, letters(100))[64:256])
	wantNoRead(t, h, 0, 1, api.ErrSum)
	wantNoRead(t, h, 299, 1, api.ErrSum)
	wantWrite(t, h, 300, "x", api.ErrSum)
	wantWrite(t, h, 500, "x", api.ErrSum)
	wantSize(t, h, 300)
}

// Of several wrong blocks the first is told, and those behind it are not asked for.
func TestP104FirstWrong(t *testing.T) {
	text := letters(300)
	s := shape{at: 10, n: 200}
	for _, x := range []struct {
		wrong []int
		reads []int
	}{{[]int{0, 3}, []int{0}}, {[]int{0}, []int{0}}, {[]int{3}, []int{0, 3}}, {[]int{1, 2, 3}, []int{0, 3}}} {
		data, table := spoilt(text, true, x.wrong...)
		a, b, d := two(t, data, table)
		wantWrite(t, newSums(t, a.handle(15), b.handle(15)), s.at, s.bytes(), api.ErrSum)
		d.wantCalls(t, readsOf(x.reads...)...)
	}
}

// A table that is too short for a block that is left in part, by one byte up to all eight; for one that is covered whole it is made as long as it must be.
func TestP104ShortTable(t *testing.T) {
	text := letters(130)
	right := string(tableOf([]byte(text)))
	for n := 16; n < 24; n++ {
		f, table := newFile(t, text, 15), newFile(t, right[:n], 15)
		h := newSums(t, f, table)
		wantWrite(t, h, 129, "x", api.ErrSum)
		wantWrite(t, h, 130, "x", api.ErrSum)
		wantAll(t, f, text)
		wantAll(t, table, right[:n])
		wantWrite(t, h, 128, "xyz", api.OK)
		wantAll(t, h, text[:128]+"xyz")
		wantAll(t, table, right[:16]+string(entryOf([]byte("xyz"))))
	}
	h := newSums(t, newFile(t, text, 15), newFile(t, right+"more", 15))
	wantWrite(t, h, 129, "x", api.OK)
	wantAll(t, h, text[:129]+"x")
}

// Every call of a write is refused in its turn, by errors of all kinds: that is the answer, nothing is asked behind it, and what was written by then stays written, in both files.
func TestP104Refused(t *testing.T) {
	text := letters(200)
	for _, s := range shapes() {
		all := s.calls(text)
		for takes := range all {
			for _, e := range errnos() {
				a, b, h, d := summed(t, text)
				a.data, b.data = []byte(text[:64]), []byte(letters(8))
				d.refuseBehind(takes, e)
				wantWrite(t, h, s.at, s.bytes(), e)
				d.wantCalls(t, all[:takes+1]...)

				data, sums := text, string(tableOf([]byte(text)))
				if takes > 2*len(s.held) {
					data = with(text, s.at, s.bytes())
				}
				for i := 2*len(s.held) + 1; i+1 < takes; i += 2 {
					k := s.puts[(i-2*len(s.held))/2]
					sums = with(sums, int64(8*k), string(entryOf([]byte(data[64*k:min(64*k+64, len(data))]))))
				}
				wantAll(t, a.all, data)
				wantAll(t, b.all, sums)
			}
		}
	}
}

// By name: the file refuses the write; the file refuses the read behind it; the table refuses its first, a middle, its last 8 bytes.
func TestP104RefusedByName(t *testing.T) {
	text := letters(200)
	at, b := int64(10), letters(150) // blocks 0 and 2 are held to be right: four calls; then the write; then two calls for each of 0, 1, 2
	now := with(text, at, b)
	was, will := string(tableOf([]byte(text))), string(tableOf([]byte(now)))
	for _, x := range []struct {
		takes       int
		data, table string
	}{
		{4, text, was},
		{5, now, was},
		{6, now, was},
		{8, now, will[:8] + was[8:]},
		{9, now, will[:16] + was[16:]},
		{10, now, will[:16] + was[16:]},
		{11, now, will},
	} {
		y, z, h, d := summed(t, text)
		d.refuseBehind(x.takes, api.ErrQuota)
		want := api.ErrQuota
		if x.takes == 11 {
			want = api.OK
		}
		wantWrite(t, h, at, b, want)
		wantAll(t, y.all, x.data)
		wantAll(t, z.all, x.table)
	}
}

// What is held to be right comes ahead of the file's refusal of the write, and that ahead of the table's.
func TestP104Order(t *testing.T) {
	data, table := spoilt(letters(200), false, 1)
	a, b, _ := two(t, data, table)
	h := newSums(t, a.handle(15), b.handle(15))
	a.no[api.DoWrite], b.no[api.DoWrite] = api.ErrQuota, api.ErrGone
	wantWrite(t, h, 70, "x", api.ErrSum)
	wantWrite(t, h, 64, letters(64), api.ErrQuota)
	wantWrite(t, h, 0, "x", api.ErrQuota)
	wantWrite(t, h, 201+api.MaxText, "x", api.ErrLong)
	a.no[api.DoWrite] = api.OK
	wantWrite(t, h, 0, "x", api.ErrGone)
	wantNoRead(t, h, 0, 1, api.ErrSum) // its byte is another one, its sum is not
	a.no[api.DoRead], b.no[api.DoRead] = api.ErrNil, api.ErrArg
	wantWrite(t, h, 130, "x", api.ErrNil)
	a.no[api.DoRead] = api.OK
	wantWrite(t, h, 130, "x", api.ErrArg)
}

// What the file's rules refuse comes to neither file, not even for its Size.
func TestP104Rules(t *testing.T) {
	_, _, h, d := summed(t, letters(200))
	for _, op := range edges() {
		if op.Do == api.DoWrite && refuses(op) != api.OK {
			wantTold(t, h, op, api.Told{E: refuses(op)})
		}
	}
	wantWrite(t, h, -1, letters(api.MaxText+1), api.ErrArg)
	wantWrite(t, h, -1, "", api.ErrArg)
	wantWrite(t, h, 0, letters(api.MaxText+1), api.ErrLong)
	wantWrite(t, h, api.MaxSize, "x", api.ErrLong)
	wantWrite(t, h, api.MaxSize+1, "", api.ErrLong)
	wantWrite(t, h, math.MaxInt64, "x", api.ErrLong)
	d.wantUnasked(t)
}

// A write that ends right at MaxSize is taken, if the Size lies near.
func TestP104MaxSize(t *testing.T) {
	s := span.New(nil)
	s.Cut(api.MaxSize - 128)
	f, table := fileOf(t, s, 15), newFile(t, "", 15)
	h := newSums(t, f, table)
	wantWrite(t, h, api.MaxSize-64, letters(64), api.OK)
	wantSize(t, h, api.MaxSize)
	wantRead(t, h, api.MaxSize-70, 99, string(make([]byte, 6))+letters(64))
	wantSize(t, table, api.MaxSize/8)
	wantWrite(t, h, api.MaxSize-64, letters(65), api.ErrLong)
}

// Over files and tables of all sixteen sets: those that can be written both are written, and the others stay as they are.
func TestP104Sets(t *testing.T) {
	text := letters(130)
	for a := range uint8(16) {
		for b := range uint8(16) {
			f, table := newFile(t, text, a), newFile(t, string(tableOf([]byte(text))), b)
			h := newSums(t, f, table)
			want, now := api.ErrCan, text
			if a&b&api.CanWrite != 0 {
				want, now = api.OK, with(text, 120, letters(99))
			}
			wantWrite(t, h, 120, letters(99), want)
			wantAll(t, h, now)
			wantAll(t, f, now)
			wantAll(t, table, string(tableOf([]byte(now))))
		}
	}
}

// A file that tells a Size below 0 counts as one of none; one that tells any other Size is held to it.
func TestP104Odd(t *testing.T) {
	for _, x := range []struct {
		size int64
		at   int64
		e    api.Errno
	}{{math.MinInt64, 0, api.OK}, {-1, 70, api.OK}, {-1, api.MaxText, api.OK}, {-1, api.MaxText + 1, api.ErrLong}, {math.MinInt64, api.MaxText + 1, api.ErrLong}, {math.MaxInt64, 0, api.ErrSum}, {math.MaxInt64, api.MaxSize - 1, api.ErrSum}} {
		s := span.New([]byte(letters(10)))
		var places []int64
		o := &odd{size: func() int64 { return x.size }, read: func(at int64, n int) ([]byte, api.Errno) {
			places = append(places, at)
			return make([]byte, 70), api.OK
		}, write: s.Put}
		h := newSums(t, o.handle(), newFile(t, "", 15))
		wantWrite(t, h, x.at, "x", x.e)
		if slices.ContainsFunc(places, func(at int64) bool { return at < 0 }) {
			t.Errorf("it was read at %d", places)
		}
	}
}

// A file that writes elsewhere, or other bytes: the sums are those of what it has.
func TestP104ReadAnew(t *testing.T) {
	s := span.New([]byte(letters(64)))
	o := &odd{size: s.Size, read: func(at int64, n int) ([]byte, api.Errno) { return s.Get(at, n), api.OK }, write: func(at int64, b []byte) api.Errno {
		return s.Put(at, []byte("!?"))
	}}
	table := newFile(t, string(tableOf([]byte(letters(64)))), 15)
	h := newSums(t, o.handle(), table)
	wantWrite(t, h, 10, "abcdef", api.OK)
	wantAll(t, h, with(letters(64), 10, "!?"))
	wantAll(t, table, string(entryOf([]byte(with(letters(64), 10, "!?")))))
}

// One file that is both the file and the table: it does what the words say, and does not panic.
func TestSameFile(t *testing.T) {
	c := chance(5)
	for range 300 {
		b := c.text(c.below(300))
		s, p := span.New(b), &paper{b}
		f := fileOf(t, s, 15)
		h := newSums(t, f, f)
		k := &book{data: p, table: p, can: 9}
		for range 20 {
			op := c.op()
			wantTold(t, h, op, k.do(op))
			p.wantState(t, s)
		}
	}
	for _, op := range edges() {
		f := newFile(t, letters(200), 15)
		newSums(t, f, f).Do(op)
	}
}

// Sums over sums, and over a file with sums as the table: what is read is what was written, and a change at the bottom is told at the top.
func TestOverSums(t *testing.T) {
	text := letters(150)
	table := string(tableOf([]byte(text)))
	for _, build := range []func(f *face.Handle) *face.Handle{
		func(f *face.Handle) *face.Handle {
			return newSums(t, newSums(t, f, newFile(t, table, 15)), newFile(t, table, 15))
		},
		func(f *face.Handle) *face.Handle {
			own := newSums(t, newFile(t, table, 15), newFile(t, string(tableOf([]byte(table))), 15))
			return newSums(t, f, own)
		},
	} {
		f := newFile(t, text, 15)
		h := build(f)
		wantAll(t, h, text)
		wantWrite(t, h, 60, letters(9), api.OK)
		wantWrite(t, h, 300, "end", api.OK)
		now := with(with(text, 60, letters(9)), 300, "end")
		wantAll(t, h, now)
		wantAll(t, f, now)
		wantSync(t, h, api.OK)
		wantWrite(t, f, 70, "~", api.OK)
		wantNoRead(t, h, 64, 1, api.ErrSum)
		wantWrite(t, h, 65, "x", api.ErrSum)
		wantRead(t, h, 0, 64, now[:64])
	}
}
