package buffer_test

import (
	"strings"
	"testing"

	"mantle/api"
	"mantle/face"
	"mantle/memory"
)

// kept is a file of ten bytes that writes down its calls, and a buffer in which these writes are gathered.
func kept(t *testing.T, most int, l ...api.Op) (*refuser, *face.Handle) {
	t.Helper()
	r := newRefuser(t, "0123456789")
	h := newBuffer(t, r.handle(15), most)
	for _, op := range l {
		wantTold(t, h, op, api.Told{})
	}
	r.wantCalls(t)
	return r, h
}

// What comes to the file below of a write, with AB gathered at 2: nothing, or the flush, or the flush and the write itself.
func TestP93Where(t *testing.T) {
	const flush = "2 2 0 AB"
	for name, x := range map[string]struct {
		most  int
		op    api.Op
		calls []string
		seen  string
	}{
		"within Size":                           {9, put(5, "xyz"), nil, "01AB4xyz89"},
		"over what is gathered":                 {9, put(1, "xyzw"), nil, "0xyzw56789"},
		"ends right at Size":                    {9, put(7, "xyz"), nil, "01AB456xyz"},
		"ends right at Size, all of it":         {12, put(0, "abcdefghij"), nil, "abcdefghij"},
		"ends one byte behind Size":             {9, put(7, "xyzw"), []string{flush, "2 7 0 xyzw"}, "01AB456xyzw"},
		"begins at Size":                        {9, put(10, "x"), []string{flush, "2 10 0 x"}, "01AB456789x"},
		"begins behind Size":                    {9, put(12, "x"), []string{flush, "2 12 0 x"}, "01AB456789\x00\x00x"},
		"from 0 to behind Size":                 {99, put(0, "abcdefghijk"), []string{flush, "2 0 0 abcdefghijk"}, "abcdefghijk"},
		"behind Size, above most":               {2, put(8, "xyz"), []string{flush, "2 8 0 xyz"}, "01AB4567xyz"},
		"together just most":                    {5, put(5, "xyz"), nil, "01AB4xyz89"},
		"together one above most":               {5, put(5, "xyzw"), []string{flush}, "01AB4xyzw9"},
		"together one above, over one another":  {3, put(2, "xy"), []string{flush}, "01xy456789"},
		"together one above, by one byte":       {2, put(0, "x"), []string{flush}, "x1AB456789"},
		"just most bytes":                       {4, put(5, "xyzw"), []string{flush}, "01AB4xyzw9"},
		"one more than most":                    {4, put(5, "xyzwv"), []string{flush, "2 5 0 xyzwv"}, "01AB4xyzwv"},
		"one more than most, over what is kept": {2, put(1, "xyz"), []string{flush, "2 1 0 xyz"}, "0xyz456789"},
		"of none":                               {2, put(5, ""), nil, "01AB456789"},
		"of none, where all is full":            {2, put(0, ""), nil, "01AB456789"},
		"of none, at Size":                      {9, put(10, ""), nil, "01AB456789"},
		"of none, behind Size":                  {9, put(99, ""), nil, "01AB456789"},
		"of none, at MaxSize":                   {9, put(api.MaxSize, ""), nil, "01AB456789"},
	} {
		r, h := kept(t, x.most, put(2, "AB"))
		wantTold(t, h, x.op, api.Told{})
		r.wantCalls(t, x.calls...)
		below := &paper{[]byte("0123456789"), make([]bool, 10)}
		for i, op := range []api.Op{put(2, "AB"), x.op}[:len(x.calls)] {
			if below.write(op.At, op.B); call(op) != x.calls[i] {
				t.Errorf("the call is %q", call(op))
			}
		}
		wantAll(t, r.all, string(below.data))
		wantAll(t, h, x.seen)
		r.calls = nil
		wantSync(t, h, api.OK)
		rest := []string{flush, call(x.op)}[len(x.calls):]
		if len(x.op.B) == 0 {
			rest = rest[:len(rest)-1]
		}
		r.wantCalls(t, append(rest, "5 0 0 ")...)
		wantAll(t, r.all, x.seen)
		if t.Failed() {
			t.Fatal(name)
		}
	}
}

// The same with nothing gathered: there is no flush.
func TestP93FirstWrite(t *testing.T) {
	for _, most := range []int{0, 1, 2, 3, 9, 10, 11, 65536} {
		for at := range int64(13) {
			for n := range 13 {
				op := put(at, letters(n))
				r, h := kept(t, most)
				wantTold(t, h, op, api.Told{})
				if n > 0 && (int(at)+n > 10 || n > most) {
					r.wantCalls(t, call(op))
				} else {
					r.wantCalls(t)
				}
				p := &paper{[]byte("0123456789"), make([]bool, 10)}
				if n > 0 {
					p.write(at, op.B)
				}
				if wantAll(t, h, string(p.data)); t.Failed() {
					t.Fatal(most, at, n)
				}
			}
		}
	}
}

// Bytes are gathered up to most of them, one by one, and those behind a flush up to most again.
func TestP93Full(t *testing.T) {
	for _, most := range []int{1, 2, 3, 7} {
		r, h := kept(t, most)
		n := 0
		for i := range 50 {
			wantWrite(t, h, int64(i%10), "x", api.OK)
			if n++; n > most {
				if len(r.calls) != most {
					t.Fatalf("most %d: of %d writes %d come to the file", most, n, len(r.calls))
				}
				n, r.calls = 1, nil
			}
			r.wantCalls(t)
		}
	}
}

// A flush hands the writes on one by one, in their order, none of them joined with another.
func TestP93Order(t *testing.T) {
	l := []api.Op{put(3, "abc"), put(6, "d"), put(0, "e"), put(4, "fg"), put(3, "h"), put(6, "d")}
	r, h := kept(t, 9, l...)
	wantWrite(t, h, 9, "z", api.OK)
	r.wantCalls(t, calls(l)...)
	wantAll(t, r.all, "e12hfgd789")
	wantAll(t, h, "e12hfgd78z")
	wantSync(t, h, api.OK)
	r.wantCalls(t, "1 0 65536 ", "2 9 0 z", "5 0 0 ")
}

// ways are the calls that flush, and what else they ask of the file.
func ways() map[string]api.Op {
	return map[string]api.Op{
		"a write that ends behind Size": put(8, "xyz"),
		"a write behind Size":           put(12, "x"),
		"a write for which is no room":  put(0, "xyz"),
		"a write above most":            put(0, "wvwxyzwvw"),
		"a cut that shortens":           cutTo(3),
		"a cut that lengthens":          cutTo(20),
		"a cut to the same size":        cutTo(10),
		"a sync":                        {Do: api.DoSync},
	}
}

// A flush that is refused at each of its writes: the file below has those ahead of it, the others stay gathered, nothing else is done, and the answer is the file's; a later flush goes on from there.
func TestP93FlushRefused(t *testing.T) {
	l := []api.Op{put(1, "ab"), put(2, "cd"), put(7, "e"), put(0, "fg")}
	for name, op := range ways() {
		for takes := range l {
			for _, e := range errnos() {
				r, h := kept(t, 8, l...)
				r.refuseBehind(takes, e)
				seen, below := &paper{[]byte("0123456789"), make([]bool, 10)}, &paper{[]byte("0123456789"), make([]bool, 10)}
				for i, op := range l {
					if seen.write(op.At, op.B); i < takes {
						below.write(op.At, op.B)
					}
				}
				wantTold(t, h, op, api.Told{E: e})
				r.wantCalls(t, calls(l[:takes+1])...)
				wantAll(t, r.all, string(below.data))
				wantReads(t, h, string(seen.data))
				r.calls = nil
				wantSync(t, h, e) // refused again: by the same write
				r.wantCalls(t, calls(l[takes:takes+1])...)
				wantAll(t, h, string(seen.data))
				r.no[api.DoWrite], r.calls = api.OK, nil
				wantSync(t, h, api.OK)
				r.wantCalls(t, append(calls(l[takes:]), "5 0 0 ")...)
				wantAll(t, r.all, string(seen.data))
				if t.Failed() {
					t.Fatal(name, takes, e)
				}
			}
		}
	}
}

// Behind a flush that was refused in its midst there is room for as many bytes as were taken, and for no more.
func TestP93RoomBehindRefused(t *testing.T) {
	r, h := kept(t, 6, put(0, "ab"), put(2, "c"), put(3, "def"))
	r.refuseBehind(2, api.ErrQuota)
	wantWrite(t, h, 5, "x", api.ErrQuota)
	r.wantCalls(t, "2 0 0 ab", "2 2 0 c", "2 3 0 def")
	wantWrite(t, h, 7, "gh", api.OK)
	wantWrite(t, h, 9, "i", api.OK)
	r.wantCalls(t)
	wantAll(t, h, "abcdef6ghi")
	r.calls = nil
	wantWrite(t, h, 0, "j", api.ErrQuota)
	r.wantCalls(t, "2 3 0 def")
	wantAll(t, h, "abcdef6ghi")
	wantAll(t, r.all, "abc3456789")
	r.no[api.DoWrite], r.calls = api.OK, nil
	wantWrite(t, h, 0, "j", api.OK)
	r.wantCalls(t, "2 3 0 def", "2 7 0 gh", "2 9 0 i")
	wantAll(t, h, "jbcdef6ghi")
}

// Behind a flush that was refused the Size is that of what is left: writes up to it are gathered, if the file was cut below.
func TestP93SizeBehindRefused(t *testing.T) {
	r, h := kept(t, 9, put(8, "ab"), put(5, "cd"), put(3, "e"))
	wantCut(t, r.all, 2, api.OK)
	wantSize(t, h, 10)
	r.refuseBehind(1, api.ErrQuota)
	wantSync(t, h, api.ErrQuota)
	wantSize(t, h, 10)
	wantCut(t, r.all, 2, api.OK)
	wantReads(t, h, "01\x00e\x00cd")
	r.refuseBehind(1, api.ErrQuota)
	wantSync(t, h, api.ErrQuota)
	wantCut(t, r.all, 2, api.OK)
	wantReads(t, h, "01\x00e")
	r.no[api.DoWrite] = api.OK
	wantSync(t, h, api.OK)
	wantReads(t, h, "01\x00e")
	wantCut(t, r.all, 2, api.OK)
	wantReads(t, h, "01")
}

// The file's own write is refused behind a flush that was taken: what was gathered is in the file, b is not, and nothing is gathered any more.
func TestP93OwnWriteRefused(t *testing.T) {
	for name, op := range map[string]api.Op{
		"ends behind Size": put(8, "xyz"),
		"behind Size":      put(20, "x"),
		"above most":       put(1, "vwxyz"),
	} {
		for _, e := range errnos() {
			r, h := kept(t, 4, put(1, "ab"), put(2, "cd"))
			r.refuseBehind(2, e)
			wantTold(t, h, op, api.Told{E: e})
			r.wantCalls(t, "2 1 0 ab", "2 2 0 cd", call(op))
			wantAll(t, r.all, "0acd456789")
			wantAll(t, h, "0acd456789")
			r.calls = nil
			wantSync(t, h, api.OK)
			r.wantCalls(t, "5 0 0 ")
			wantWrite(t, h, 6, "efgh", api.OK)
			if r.wantCalls(t); t.Failed() {
				t.Fatal(name, e)
			}
		}
	}
}

// Without anything gathered a write that goes through is refused by the file alone, and one that is gathered is not refused.
func TestP93RefusedAtOnce(t *testing.T) {
	r, h := kept(t, 4)
	r.refuseAll(api.ErrGone)
	wantWrite(t, h, 7, "abcd", api.ErrGone)
	wantWrite(t, h, 1, "abcde", api.ErrGone)
	r.wantCalls(t, "2 7 0 abcd", "2 1 0 abcde")
	wantWrite(t, h, 1, "abcd", api.OK)
	wantWrite(t, h, 1, "", api.OK)
	r.wantCalls(t)
	wantWrite(t, h, 0, "x", api.ErrGone)
	r.wantCalls(t, "2 1 0 abcd")
	r.no = [6]api.Errno{}
	wantAll(t, h, "0abcd56789")
	wantAll(t, r.all, "0123456789")
}

// Calls that the file's rules refuse are refused ahead of all else: the file is asked nothing, and what is gathered stays gathered.
func TestOwnErrorsFirst(t *testing.T) {
	for _, most := range []int{2, 99} {
		r, h := kept(t, most, put(3, "ab"))
		r.refuseAll(api.ErrGone)
		r.sizes = 0
		n := 0
		for _, op := range edges() {
			if e := refuses(op); e != api.OK {
				wantTold(t, h, op, api.Told{E: e})
				n++
			}
		}
		wantNoRead(t, h, -1, api.MaxText+1, api.ErrArg)
		wantNoRead(t, h, 999, api.MaxText+1, api.ErrLong)
		wantWrite(t, h, -1, letters(api.MaxText+1), api.ErrArg)
		wantWrite(t, h, -1, "", api.ErrArg)
		wantWrite(t, h, api.MaxSize+1, "", api.ErrLong)
		wantWrite(t, h, api.MaxSize-1, "xy", api.ErrLong)
		wantCut(t, h, -1, api.ErrArg)
		wantCut(t, h, api.MaxSize+1, api.ErrLong)
		r.wantUnasked(t)
		if n < 100 {
			t.Errorf("only %d ops are refused", n)
		}
		r.no = [6]api.Errno{}
		wantAll(t, h, "012ab56789")
		wantAll(t, r.all, "0123456789")
	}
}

// The bounds of the file's rules and of most are taken, one past them is not.
func TestBounds(t *testing.T) {
	text, other := letters(api.MaxText), strings.Repeat("-+", api.MaxText/2)
	r := newRefuser(t, text)
	h := newBuffer(t, r.handle(15), api.MaxText)
	wantWrite(t, h, 0, other, api.OK) // just most bytes, and just up to Size
	r.wantCalls(t)
	wantAll(t, h, other)
	wantAll(t, r.all, text)
	r.calls = nil
	wantWrite(t, h, 9, "x", api.OK)
	r.wantCalls(t, call(put(0, other)))
	wantWrite(t, h, 0, other+"x", api.ErrLong)
	wantWrite(t, h, 1, other, api.OK) // one byte behind Size
	r.wantCalls(t, call(put(9, "x")), call(put(1, other)))
	wantWrite(t, h, api.MaxSize-2, "xy", api.OK)
	wantSize(t, h, api.MaxSize)
	r.calls = nil
	wantWrite(t, h, api.MaxSize-3, "abc", api.OK)
	r.wantCalls(t)
	wantRead(t, h, api.MaxSize-4, api.MaxText, "\x00abc")
	wantRead(t, r.all, api.MaxSize-4, api.MaxText, "\x00\x00xy")
	wantWrite(t, h, api.MaxSize-2, "abc", api.ErrLong)
	wantCut(t, h, api.MaxSize, api.OK)
	wantRead(t, r.all, api.MaxSize-4, api.MaxText, "\x00abc")
	small := newBuffer(t, r.all, api.MaxText-1)
	wantWrite(t, small, 0, text, api.OK) // one above most
	wantRead(t, r.all, 0, api.MaxText, text)
}

// As many writes as can be gathered, of one byte each, and reads beside them, take no long time.
func TestP93Many(t *testing.T) {
	f := newFile(t, letters(api.MaxText), 15)
	h := newBuffer(t, f, api.MaxText)
	for i := range int64(api.MaxText) {
		if e := h.Do(put(i, "-")).E; e != api.OK {
			t.Fatal(i, e)
		}
		wantSize(t, h, api.MaxText)
	}
	wantRead(t, f, 0, api.MaxText, letters(api.MaxText))
	wantRead(t, h, 0, api.MaxText, strings.Repeat("-", api.MaxText))
	wantWrite(t, h, 7, "x", api.OK)
	wantRead(t, f, 0, api.MaxText, strings.Repeat("-", api.MaxText))
	b, e := memory.All(h)
	if e != api.OK || string(b[:9]) != "-------x-" {
		t.Errorf("%v %.20q", e, b)
	}
}
