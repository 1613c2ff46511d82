package journal_test

import (
	"fmt"
	"math"
	"testing"

	"mantle/api"
	"mantle/face"
	"mantle/span"
)

func write(at int64, b string) api.Op { return api.Op{Do: api.DoWrite, At: at, B: []byte(b)} }

func cut(to int64) api.Op { return api.Op{Do: api.DoCut, At: to} }

// wantReads holds every read of a small file, and its Size.
func wantReads(t *testing.T, h *face.Handle, want string) {
	t.Helper()
	wantAll(t, h, want)
	for at := 0; at < len(want)+3; at++ {
		for n := 0; n < len(want)+3; n++ {
			from := min(at, len(want))
			wantRead(t, h, int64(at), n, want[from:min(from+n, len(want))])
		}
	}
}

// What is read over data of abcdef, record by record.
func TestP132Records(t *testing.T) {
	for i, x := range []struct {
		ops  []api.Op
		want string
	}{
		{nil, "abcdef"},
		{[]api.Op{write(0, "x")}, "xbcdef"},
		{[]api.Op{write(5, "x")}, "abcdex"},
		{[]api.Op{write(0, "uvwxyz")}, "uvwxyz"},
		{[]api.Op{write(1, "xyz"), write(2, "UVW")}, "axUVWf"},                                            // they overlap
		{[]api.Op{write(2, "UVW"), write(1, "xyz")}, "axyzWf"},                                            // the later one holds
		{[]api.Op{write(1, "uvwx"), write(2, "YZ")}, "auYZxf"},                                            // one within the other
		{[]api.Op{write(1, "xy"), write(3, "zu")}, "axyzuf"},                                              // they touch
		{[]api.Op{write(1, "x"), write(3, "y")}, "axcyef"},                                                // they are apart
		{[]api.Op{write(3, "\x00\x00")}, "abc\x00\x00f"},                                                  // noughts are bytes
		{[]api.Op{write(5, "xyz")}, "abcdexyz"},                                                           // over the end
		{[]api.Op{write(6, "xyz")}, "abcdefxyz"},                                                          // at the end
		{[]api.Op{write(7, "xyz")}, "abcdef\x00xyz"},                                                      // behind it: a gap
		{[]api.Op{write(9, "x"), write(7, "y")}, "abcdef\x00y\x00x"},                                      // into the gap
		{[]api.Op{cut(0)}, ""},                                                                            // shorter
		{[]api.Op{cut(4)}, "abcd"},                                                                        //
		{[]api.Op{cut(6)}, "abcdef"},                                                                      // to just Size
		{[]api.Op{cut(8)}, "abcdef\x00\x00"},                                                              // longer
		{[]api.Op{cut(2), cut(4)}, "ab\x00\x00"},                                                          // what was cut off is gone
		{[]api.Op{cut(2), cut(9)}, "ab\x00\x00\x00\x00\x00\x00\x00"},                                      // also behind data's end
		{[]api.Op{cut(8), cut(3)}, "abc"},                                                                 //
		{[]api.Op{cut(2), write(4, "x")}, "ab\x00\x00x"},                                                  // a cut, and a write behind it
		{[]api.Op{cut(2), write(2, "x")}, "abx"},                                                          //
		{[]api.Op{cut(2), write(1, "xy")}, "axy"},                                                         //
		{[]api.Op{cut(0), write(7, "x")}, "\x00\x00\x00\x00\x00\x00\x00x"},                                //
		{[]api.Op{write(2, "wxyz"), cut(4)}, "abwx"},                                                      // a write, and a cut through it
		{[]api.Op{write(2, "wxyz"), cut(4), cut(6)}, "abwx\x00\x00"},                                      //
		{[]api.Op{write(8, "xy"), cut(9), write(11, "z")}, "abcdef\x00\x00x\x00\x00z"},                    //
		{[]api.Op{write(8, "xy"), cut(7)}, "abcdef\x00"},                                                  // a cut through the gap
		{[]api.Op{write(8, "xy"), cut(3), cut(10)}, "abc\x00\x00\x00\x00\x00\x00\x00"},                    //
		{[]api.Op{cut(8), write(7, "x"), cut(2), write(3, "y"), cut(5), write(0, "z")}, "zb\x00y\x00"},    //
		{[]api.Op{write(0, ""), write(99, ""), cut(6)}, "abcdef"},                                         // writes of none
		{[]api.Op{write(0, "x"), cut(-1), write(-1, "y"), cut(api.MaxSize + 1), write(1, "z")}, "xzcdef"}, // what is refused
	} {
		d, l := newFile(t, "abcdef", 15), newFile(t, "", 15)
		h := newJournal(t, d, l)
		for _, op := range x.ops {
			h.Do(op)
		}
		wantReads(t, h, x.want)
		wantReads(t, h.Only(0), x.want)
		wantAll(t, d, "abcdef")
		wantSync(t, h, api.OK)
		wantReads(t, h, x.want)
		if wantReads(t, d, x.want); t.Failed() {
			t.Fatalf("row %d", i)
		}
	}
}

// Every two records, at any places of a small file, of any lengths.
func TestP132TwoRecords(t *testing.T) {
	var all []api.Op
	for at := range int64(6) {
		all = append(all, cut(at), write(at, "X"), write(at, "YZ"), write(at, "UVW"))
	}
	for _, text := range []string{"", "a", "abc"} {
		for _, a := range all {
			for _, b := range all {
				plain := newFile(t, text, 15)
				h := newJournal(t, newFile(t, text, 15), newFile(t, "", 15))
				for _, op := range []api.Op{a, b} {
					h.Do(op)
					plain.Do(op)
				}
				if wantReads(t, h, string(plain.Do(api.Op{Do: api.DoRead, N: 99}).Data)); t.Failed() {
					t.Fatalf("%q, %v, %v", text, a, b)
				}
			}
		}
	}
}

// Reads at places and lengths at every bound, with records far apart.
func TestP132Bounds(t *testing.T) {
	h := newJournal(t, newFile(t, letters(40), 15), newFile(t, "", 15))
	wantWrite(t, h, api.MaxSize-3, "xyz", api.OK)
	wantWrite(t, h, api.MaxText, "m", api.OK)
	wantSize(t, h, api.MaxSize)
	wantRead(t, h, api.MaxSize-5, 9, "\x00\x00xyz")
	wantRead(t, h, api.MaxSize-1, 1, "z")
	wantRead(t, h, api.MaxSize-1, 0, "")
	wantRead(t, h, 0, api.MaxText, letters(40)+string(make([]byte, api.MaxText-40)))
	wantRead(t, h, 1, api.MaxText, letters(40)[1:]+string(make([]byte, api.MaxText-40))+"m")
	wantRead(t, h, api.MaxSize-api.MaxText, api.MaxText, string(make([]byte, api.MaxText-3))+"xyz")
	for _, at := range []int64{api.MaxSize, api.MaxSize + 1, math.MaxInt64 - api.MaxText, math.MaxInt64} {
		for _, n := range []int{0, 1, api.MaxText} {
			wantRead(t, h, at, n, "")
		}
		wantNoRead(t, h, at, -1, api.ErrArg)
		wantNoRead(t, h, at, api.MaxText+1, api.ErrLong)
	}
	for _, at := range []int64{-1, math.MinInt64} {
		for _, n := range []int{math.MinInt, -1, 0, 1, api.MaxText + 1, math.MaxInt} {
			wantNoRead(t, h, at, n, api.ErrArg)
		}
	}
	wantNoRead(t, h, 0, math.MinInt, api.ErrArg)
	wantNoRead(t, h, 0, math.MaxInt, api.ErrLong)
	wantCut(t, h, api.MaxSize, api.OK)
	wantCut(t, h, 39, api.OK)
	wantAll(t, h, letters(40)[:39])
}

// Data that refuses reads is told so wherever it has bytes, be they cut off or written over, and nowhere else.
func TestP132Refused(t *testing.T) {
	for _, e := range errnos() {
		for _, beside := range []string{"", "zzzzzzzzzzzz"} {
			for _, ops := range [][]api.Op{nil, {write(0, "uvwxyz")}, {cut(2)}, {cut(0)}, {write(8, "xy")}, {cut(2), write(8, "xy")}, {cut(12)}} {
				w, h := watched(t, "abcdef", 15, 15)
				plain := newFile(t, "abcdef", 15)
				for _, op := range ops {
					h.Do(op)
					plain.Do(op)
				}
				size := plain.Do(api.Op{}).N
				w.data.noRead, w.data.beside = e, []byte(beside)
				for at := range int64(15) {
					for n := range 15 {
						if op := (api.Op{Do: api.DoRead, At: at, N: n}); at < 6 && n > 0 {
							wantNoRead(t, h, at, n, e)
						} else {
							wantTold(t, h, op, plain.Do(op))
						}
					}
				}
				wantNoRead(t, h, -1, 1, api.ErrArg)
				wantNoRead(t, h, 0, -1, api.ErrArg)
				wantNoRead(t, h, 0, api.MaxText+1, api.ErrLong)
				wantSize(t, h, size)
				w.data.noRead = api.OK
				wantAll(t, h, string(plain.Do(api.Op{Do: api.DoRead, N: 99}).Data))
			}
		}
	}
}

// The error hangs on what data has at the time of the read.
func TestP132RefusedLater(t *testing.T) {
	w, h := watched(t, "", 15, 15)
	w.data.noRead = api.ErrSum
	wantWrite(t, h, 0, "abc", api.OK)
	wantRead(t, h, 0, 9, "abc")
	wantSync(t, h, api.OK)
	wantNoRead(t, h, 2, 9, api.ErrSum)
	wantRead(t, h, 3, 9, "")
	w.below.Cut(2)
	wantRead(t, h, 2, 9, "")
	wantNoRead(t, h, 1, 9, api.ErrSum)
}

// A log that can't be read, or has other bytes by now, makes no difference to what is read.
func TestP132LogIsNotRead(t *testing.T) {
	w, h := watched(t, "abcdef", 15, 15)
	w.log.noRead = api.ErrSum
	wantWrite(t, h, 2, "XY", api.OK)
	wantAll(t, h, "abXYef")
	w.logs.Cut(0)
	w.logs.Put(0, []byte(logOf(cutOf(0))))
	wantAll(t, h, "abXYef")
	wantSync(t, h, api.OK)
	wantAll(t, h, "abXYef")
}

// short is data of these bytes that tells at most so many of them at a time, and any Size.
func short(b string, most int, size func() int64) *face.Handle {
	s := span.New([]byte(b))
	return (&odd{size: size, read: func(at int64, n int) ([]byte, api.Errno) { return s.Get(at, min(n, most)), api.OK }, write: s.Put, cut: s.Cut}).handle()
}

func always(n int64) func() int64 { return func() int64 { return n } }

// Data that tells fewer bytes than asked ends there, unless records lie behind.
func TestP132Short(t *testing.T) {
	for most := range 7 {
		h := newJournal(t, short("abcdef", most, always(6)), newFile(t, "", 15))
		for at := range 8 {
			for n := range 9 {
				from := min(at, 6)
				wantRead(t, h, int64(at), n, "abcdef"[from:min(from+min(n, most), 6)])
			}
		}
		wantSize(t, h, 6)
		wantWrite(t, h, 7, "x", api.OK)
		wantSize(t, h, 8)
		told := "abcdef"[:most]
		wantRead(t, h, 0, most, told)
		wantRead(t, h, 0, 99, told+string(make([]byte, 7-most))+"x")
		wantCut(t, h, 2, api.OK)
		wantCut(t, h, 3, api.OK)
		wantRead(t, h, 0, 99, told[:min(most, 2)]+string(make([]byte, 3-min(most, 2))))
	}
}

// Data that tells more bytes than asked: no more than those asked are told.
func TestP132More(t *testing.T) {
	for _, e := range []api.Errno{api.OK, api.ErrFull} {
		data := (&odd{size: always(6), read: func(at int64, n int) ([]byte, api.Errno) { return []byte("abcdefghij"), e }}).handle()
		h := newJournal(t, data, newFile(t, "", 15))
		for n := 1; n < 10; n++ {
			if e != api.OK {
				wantNoRead(t, h, 0, n, e)
			} else {
				wantRead(t, h, 0, n, "abcdefghij"[:n])
			}
		}
		wantRead(t, h, 0, 0, "")
		wantRead(t, h, 6, 4, "")
	}
}

// Size is asked at each call, and any Size is taken.
func TestP132Sizes(t *testing.T) {
	for _, size := range []int64{math.MinInt64, -api.MaxSize, -1, 0, 1, 5, 6, 7, api.MaxSize, api.MaxSize + 1, math.MaxInt64} {
		now := int64(3)
		h := newJournal(t, short("abcdef", 99, func() int64 { return now }), newFile(t, "", 15))
		wantSize(t, h, 3)
		now = size
		wantSize(t, h, size)
		if size > 0 {
			wantRead(t, h, 0, 2, "ab")
		} else {
			wantRead(t, h, 0, 2, "")
		}
		wantRead(t, h, max(size, 0), 2, "")
		wantWrite(t, h, 4, "x", api.OK)
		wantSize(t, h, max(size, 5))
		now = 2
		wantSize(t, h, 5)
		now = size
		wantCut(t, h, 3, api.OK)
		wantSize(t, h, 3)
		now = 100
		wantSize(t, h, 3)
		wantWrite(t, h, 9, "y", api.OK)
		wantSize(t, h, 10)
	}
}

// Reads over many records: each one is seen, the last one on top.
func TestP132Many(t *testing.T) {
	h := newJournal(t, newFile(t, "", 15), newFile(t, "", 15))
	want := ""
	for i := range 3000 {
		wantWrite(t, h, int64(i), fmt.Sprintf("%cz", 'a'+i%25), api.OK)
		want += string(rune('a' + i%25))
	}
	wantAll(t, h, want+"z")
	wantRead(t, h, 2999, 9, want[2999:]+"z")
	wantSync(t, h, api.OK)
	wantAll(t, h, want+"z")
}
