package journal_test

import (
	"math"
	"strings"
	"testing"

	"mantle/api"
	"mantle/span"
)

// wantRecovered recovers data and a log of these bytes, over files of these sets, and holds all that comes of it against the book; the call behind skip is refused by refused, if it is an error. It tells whether it was OK.
func wantRecovered(t *testing.T, data, log *span.Bytes, a, b uint8, skip int, refused api.Errno) bool {
	t.Helper()
	w := twoOf(t, data.Twin(), log.Twin())
	k := bookOf(data.Twin(), log.Twin(), a, b)
	w.refuse(skip, refused)
	k.diary.refuse(skip, refused)
	done, e := k.recover()
	wantRecover(t, w.data.handle(a), w.log.handle(b), done, e)
	w.wantBook(t, k)
	if e == api.OK {
		wantRecover(t, w.data.handle(a), w.log.handle(b), 0, api.OK)
		w.wantCalls(t) // it does nothing more
	}
	return e == api.OK
}

// wantRecovers is a Recover over abcdef, and a log of these bytes, of files that can all.
func wantRecovers(t *testing.T, log string, done int, e api.Errno, data string) {
	t.Helper()
	d, l := newFile(t, "abcdef", 15), newFile(t, log, 15)
	wantRecover(t, d, l, done, e)
	wantAll(t, d, data)
	if e == api.OK {
		wantAll(t, l, "")
	} else {
		wantAll(t, l, log)
	}
	if wantRecovered(t, span.New([]byte("abcdef")), span.New([]byte(log)), 15, 15, 0, api.OK); t.Failed() {
		t.Fatalf("the log %.100q", log)
	}
}

// Logs that are not marked are made empty; data is not touched.
func TestP135NotMarked(t *testing.T) {
	whole := logOf(cutOf(2))
	logs := []string{"", "x", "\x00", whole[:15], strings.Repeat("x", 15), noughts, strings.Repeat("x", 16), noughts + cutOf(2), noughts[:8] + cutOf(2), "x" + whole, whole[1:], letters(api.MaxText + 20)}
	for i := range 8 {
		for bit := range 8 { // each of the last eight bytes turned
			b := []byte(whole)
			b[8+i] ^= 1 << bit
			logs = append(logs, string(b))
		}
		b := []byte(whole)
		clear(b[8+i : 16]) // torn there
		logs = append(logs, string(b), whole[:8+i])
	}
	for _, log := range logs {
		for a := range uint8(16) {
			for b := range uint8(16) {
				w := twoOf(t, span.New([]byte("abcdef")), span.New([]byte(log)))
				e, left := api.OK, ""
				var want []string
				if log != "" && b&api.CanCut == 0 {
					e, left = api.ErrCan, log
				} else if log != "" {
					want = append(want, wasCut("log", 0))
					if b&api.CanSync != 0 {
						want = append(want, synced("log"))
					}
				}
				wantRecover(t, w.data.handle(a), w.log.handle(b), 0, e)
				w.wantCalls(t, want...)
				wantAll(t, w.log.all, left)
				if wantAll(t, w.data.all, "abcdef"); t.Failed() {
					t.Fatalf("the log %q, sets %d and %d", log, a, b)
				}
			}
		}
	}
}

// A refusal of what is done to a log that is not marked.
func TestP135NotMarkedRefused(t *testing.T) {
	for _, e := range errnos() {
		for k := range 2 {
			w := twoOf(t, span.New([]byte("abcdef")), span.New([]byte("xyz")))
			w.refuse(k, e)
			wantRecover(t, w.data.handle(15), w.log.handle(15), 0, e)
			w.wantCalls(t, []string{wasCut("log", 0), synced("log")}[:k+1]...)
			wantAll(t, w.log.all, [2]string{"xyz", ""}[k]) // what was done by then stays
			wantAll(t, w.data.all, "abcdef")
		}
	}
}

// Marked logs: how many records there were, and what they do.
func TestP135Marked(t *testing.T) {
	wantRecovers(t, markOf(0), 0, api.OK, "abcdef")
	wantRecovers(t, markOf(0)+cutOf(2), 0, api.OK, "abcdef")
	wantRecovers(t, logOf(cutOf(2)), 1, api.OK, "ab")
	wantRecovers(t, logOf(cutOf(2))+"more", 1, api.OK, "ab")
	wantRecovers(t, logOf(cutOf(2))+cutOf(1), 1, api.OK, "ab")
	wantRecovers(t, logOf(cutOf(6)), 1, api.OK, "abcdef")
	wantRecovers(t, logOf(cutOf(8)), 1, api.OK, "abcdef\x00\x00")
	wantRecovers(t, logOf(writeOf(1, "xy")), 1, api.OK, "axydef")
	wantRecovers(t, logOf(writeOf(8, "xy")), 1, api.OK, "abcdef\x00\x00xy")
	wantRecovers(t, logOf(writeOf(1, "xy"), cutOf(4)), 2, api.OK, "axyd")
	wantRecovers(t, logOf(cutOf(2), writeOf(4, "x"), writeOf(4, "y"), cutOf(6)), 4, api.OK, "ab\x00\x00y\x00")
	wantRecovers(t, logOf(writeOf(3, "")), 1, api.OK, "abcdef") // a write of none is a record, too
	wantRecovers(t, logOf(writeOf(99, ""), writeOf(0, "x"), writeOf(api.MaxSize, "")), 3, api.OK, "xbcdef")
	wantRecovers(t, logOf(writeOf(0, letters(api.MaxText))), 1, api.OK, letters(api.MaxText))
	wantRecovers(t, logOf(writeOf(0, letters(api.MaxText)), writeOf(1, letters(api.MaxText)), cutOf(9)), 3, api.OK, "!"+letters(8))
}

// The mark's number: of fewer and of more bytes than there are, of MaxData, one more, with the highest bit set.
func TestP135Number(t *testing.T) {
	for _, records := range [][]string{{cutOf(2)}, {writeOf(1, "xyz")}, {cutOf(2), writeOf(1, "xyz")}, {writeOf(1, "xyz"), cutOf(2)}} {
		all := strings.Join(records, "")
		results := map[string]string{all[:0]: "abcdef", cutOf(2): "ab", writeOf(1, "xyz"): "axyzef", cutOf(2) + writeOf(1, "xyz"): "axyz", writeOf(1, "xyz") + cutOf(2): "ax"}
		for n := range len(all) + 3 {
			log := markOf(uint64(n)) + all
			ends := 0 // how many of the records end just there
			if data, whole := results[all[:min(n, len(all))]]; whole && n <= len(all) {
				for ends < len(records) && len(strings.Join(records[:ends], "")) < n {
					ends++
				}
				wantRecovers(t, log, ends, api.OK, data)
			} else {
				wantRecovers(t, log, 0, api.ErrLog, "abcdef")
			}
		}
		for _, n := range []uint64{api.MaxData, api.MaxData + 1, api.MaxSize, 1 << 32, 1<<32 + 13, 1<<56 + 13, math.MaxInt64, 1 << 63, 1<<63 + 13, math.MaxUint64 - 15, math.MaxUint64} {
			wantRecovers(t, markOf(n)+all, 0, api.ErrLog, "abcdef")
		}
	}
}

// hollow is a log of writes of noughts whose bytes are holes, of so many bytes of records, of which the mark tells long.
func hollow(bytes int, long uint64) (s *span.Bytes, records int) {
	s = span.New([]byte(markOf(long)))
	for at := 16; bytes > 0; records++ {
		n := min(bytes-13, api.MaxText)
		if left := bytes - 13 - n; left > 0 && left < 13 {
			n -= 13 // no record is shorter
		}
		s.Put(int64(at), []byte(headOf(1, uint64(records), uint32(n))))
		at += 13 + n
		bytes -= 13 + n
		s.Cut(int64(at))
	}
	return s, records
}

// Records of just MaxData bytes are done, one byte more is none of a journal's logs.
func TestP135MaxData(t *testing.T) {
	log, records := hollow(api.MaxData, api.MaxData)
	d := newFile(t, "", 15)
	wantRecover(t, d, fileOf(t, log.Twin(), 15), records, api.OK)
	wantSize(t, d, int64(records-2)+api.MaxText)
	wantRecovered(t, span.New(nil), log, 15, 15, 0, api.OK)
	log.Cut(16 + api.MaxData + 99)
	wantRecover(t, d, fileOf(t, log.Twin(), 15), records, api.OK)
	log, _ = hollow(api.MaxData+1, api.MaxData+1)
	wantRecover(t, newFile(t, "", 15), fileOf(t, log, 15), 0, api.ErrLog)
	if log.Size() != 16+api.MaxData+1 {
		t.Error("the log is cut")
	}
	log, records = hollow(api.MaxData-20, api.MaxData)
	log.Put(api.MaxData-20+16, []byte(cutOf(0)))
	log.Cut(16 + api.MaxData)
	wantRecover(t, newFile(t, "a", 15), fileOf(t, log, 15), 0, api.ErrLog) // 7 noughts behind the cut
	log.Put(api.MaxData-20+16, []byte(writeOf(0, letters(7))))
	wantRecover(t, newFile(t, "a", 15), fileOf(t, log, 15), records+1, api.OK)
}

// Records that are none: kinds that are none, a cut with bytes, one that is not whole. Nothing is done then, of the records ahead neither.
func TestP135NoRecords(t *testing.T) {
	right := []string{"", cutOf(2), writeOf(1, "xyz"), cutOf(2) + writeOf(1, "xyz")}
	for _, ahead := range right {
		for kind := range 256 {
			if kind != 1 && kind != 2 {
				wantRecovers(t, logOf(ahead, headOf(byte(kind), 2, 0)), 0, api.ErrLog, "abcdef")
				wantRecovers(t, logOf(ahead, headOf(byte(kind), 2, 3), "xyz"), 0, api.ErrLog, "abcdef")
			}
		}
		for _, follow := range []uint32{1, 3, 256, 1 << 16, 1 << 31, math.MaxUint32} {
			wantRecovers(t, logOf(ahead, headOf(2, 2, follow), letters(int(follow&3))), 0, api.ErrLog, "abcdef") // a cut with bytes
		}
		for _, behind := range right[1:] {
			for lacks := 1; lacks < len(behind); lacks++ { // of its head, or of its bytes
				part := behind[:len(behind)-lacks]
				if len(part) == 13 && part[0] == 2 {
					continue // the cut ahead of the write is whole
				}
				wantRecovers(t, logOf(ahead, part), 0, api.ErrLog, "abcdef")
				wantRecovers(t, logOf(ahead, part)+behind[len(part):], 0, api.ErrLog, "abcdef") // the bytes are there, but behind what the mark tells
			}
		}
		for _, follow := range []uint32{4, 259, 1 << 16, 1<<31 + 3, math.MaxUint32} { // more than follow
			wantRecovers(t, logOf(ahead, headOf(1, 2, follow), "xyz"), 0, api.ErrLog, "abcdef")
			wantRecovers(t, logOf(ahead, headOf(1, 2, follow), "xyz")+"more", 0, api.ErrLog, "abcdef")
		}
	}
}

// Places and sizes that a file refuses: its error is the answer; what was done by then stays, and so does the log.
func TestP135Places(t *testing.T) {
	for _, x := range []struct {
		record string
		e      api.Errno
	}{
		{writeOf(1<<63, "x"), api.ErrArg},
		{writeOf(math.MaxUint64, "x"), api.ErrArg},
		{writeOf(1<<63, ""), api.ErrArg},
		{writeOf(api.MaxSize, "x"), api.ErrLong},
		{writeOf(api.MaxSize-1, "xy"), api.ErrLong},
		{writeOf(api.MaxSize+1, ""), api.ErrLong},
		{writeOf(1<<32, "x"), api.ErrLong},
		{writeOf(math.MaxInt64, "x"), api.ErrLong},
		{writeOf(0, letters(api.MaxText+1)), api.ErrLong},
		{cutOf(1 << 63), api.ErrArg},
		{cutOf(math.MaxUint64), api.ErrArg},
		{cutOf(api.MaxSize + 1), api.ErrLong},
		{cutOf(1<<32 + 2), api.ErrLong},
		{cutOf(math.MaxInt64), api.ErrLong},
	} {
		wantRecovers(t, logOf(x.record), 0, x.e, "abcdef")
		wantRecovers(t, logOf(x.record, cutOf(2)), 0, x.e, "abcdef")
		wantRecovers(t, logOf(writeOf(0, "xy"), x.record, cutOf(2)), 0, x.e, "xycdef")
		wantRecovers(t, logOf(x.record, cutOf(2), "?"), 0, api.ErrLog, "abcdef") // nothing is done ahead of all being right
	}
	d := newFile(t, "abcdef", 15)
	wantRecover(t, d, newFile(t, logOf(writeOf(api.MaxSize-1, "x"), cutOf(api.MaxSize), cutOf(3)), 15), 3, api.OK)
	wantAll(t, d, "abc")
}

// The steps 4 to 7, in their order, over files of all sets; what data or log can't is ErrCan.
func TestP135Steps(t *testing.T) {
	for a := range uint8(16) {
		for b := range uint8(16) {
			for _, records := range append(scripts(), nil) {
				log := ""
				for _, r := range records {
					log += bytesOf(r)
				}
				w := twoOf(t, span.New([]byte("abcdef")), span.New([]byte(logOf(log))))
				want, e := lastStepsOf(a, b, records)
				done := len(records)
				if e != api.OK {
					done = 0
				}
				wantRecover(t, w.data.handle(a), w.log.handle(b), done, e)
				w.wantCalls(t, want...)
				if wantRecovered(t, span.New([]byte("abcdef")), span.New([]byte(logOf(log))), a, b, 0, api.OK); t.Failed() {
					t.Fatalf("sets %d and %d, %v", a, b, records)
				}
			}
		}
	}
}

// A refusal at every single call: the error is told beside 0, the rest is not done, and what was done by then stays; done again it comes to its end.
func TestP135Refused(t *testing.T) {
	for _, records := range scripts() {
		log, plain := "", newFile(t, "abcdef", 15)
		for _, r := range records {
			log += bytesOf(r)
			plain.Do(r)
		}
		log = logOf(log)
		want, _ := lastStepsOf(15, 15, records)
		for k := range want {
			for _, e := range errnos() {
				w := twoOf(t, span.New([]byte("abcdef")), span.New([]byte(log)))
				w.refuse(k, e)
				wantRecover(t, w.data.handle(15), w.log.handle(15), 0, e)
				w.wantCalls(t, want[:k+1]...)
				done := len(records)
				if k == len(want)-1 { // the log is cut, and only its Sync is missing
					done = 0
					wantAll(t, w.log.all, "")
				} else {
					wantAll(t, w.log.all, log)
				}
				wantRecover(t, w.data.handle(15), w.log.handle(15), done, api.OK)
				wantAll(t, w.data.all, string(plain.Do(api.Op{Do: api.DoRead, N: 999}).Data))
				wantAll(t, w.log.all, "")
				wantRecovered(t, span.New([]byte("abcdef")), span.New([]byte(log)), 15, 15, k, e)
			}
		}
	}
}

// A log that refuses its reads, all or from a place on: the error is told, and nothing is done.
func TestP135NoRead(t *testing.T) {
	text := logOf(writeOf(0, letters(api.MaxText)), writeOf(1, letters(api.MaxText)), cutOf(9))
	for _, e := range errnos() {
		for _, from := range []int64{0, 16, 17, api.MaxText, api.MaxText + 17, int64(len(text) - 1)} {
			w := twoOf(t, span.New([]byte("abcdef")), span.New([]byte(text)))
			log := (&odd{
				size: w.logs.Size,
				read: func(at int64, n int) ([]byte, api.Errno) {
					if at+int64(n) > from {
						return []byte(text), e
					}
					return w.logs.Get(at, n), api.OK
				},
				write: w.log.WriteAt,
				cut:   w.log.Cut,
			}).handle()
			wantRecover(t, w.data.handle(15), log, 0, e)
			w.wantCalls(t)
			wantAll(t, w.data.all, "abcdef")
		}
	}
}

// A log that tells fewer bytes than its Size: it is not marked, or its records are not whole.
func TestP135Short(t *testing.T) {
	text := logOf(writeOf(1, "xyz"), cutOf(9))
	for has := range len(text) {
		w := twoOf(t, span.New([]byte("abcdef")), span.New([]byte(text[:has])))
		log := (&odd{size: always(int64(len(text))), read: w.log.ReadAt, write: w.log.WriteAt, cut: w.log.Cut}).handle()
		if has < 16 {
			wantRecover(t, w.data.handle(15), log, 0, api.OK)
			w.wantCalls(t, wasCut("log", 0))
		} else {
			wantRecover(t, w.data.handle(15), log, 0, api.ErrLog)
			w.wantCalls(t)
		}
		wantAll(t, w.data.all, "abcdef")
	}
}

// A read that tells fewer bytes than asked ends it: the log is not read behind them, where it would refuse.
func TestP135ShortPiece(t *testing.T) {
	text := logOf(writeOf(0, letters(api.MaxText)), writeOf(1, letters(api.MaxText)))
	log := (&odd{size: always(int64(len(text))), read: func(at int64, n int) ([]byte, api.Errno) {
		if at > api.MaxText/2 {
			return nil, api.ErrFull
		}
		return []byte(text)[at : at+int64(max(n-1, 16))], api.OK
	}}).handle()
	d := newFile(t, "abcdef", 15)
	wantRecover(t, d, log, 0, api.ErrLog)
	wantAll(t, d, "abcdef")
}

// A log that tells more bytes than it is asked, or a Size that is none: every call ends.
func TestP135Odd(t *testing.T) {
	text := []byte(logOf(cutOf(2)))
	more := func(at int64, n int) ([]byte, api.Errno) { return text[min(at, int64(len(text))):], api.OK }
	d := newFile(t, "abcdef", 15)
	wantRecover(t, d, (&odd{size: always(29), read: more}).handle(), 1, api.OK)
	wantAll(t, d, "ab")
	cuts := 0
	count := func(size int64) api.Errno {
		cuts += 1 + int(size)
		return api.OK
	}
	for _, size := range []int64{math.MinInt64, -1, 15} {
		wantRecover(t, d, (&odd{size: always(size), read: more, cut: count}).handle(), 0, api.OK)
	}
	if cuts != 3 {
		t.Errorf("cut %d times", cuts)
	}
	wantRecover(t, d, (&odd{size: always(28), read: more, cut: count}).handle(), 0, api.ErrLog)
	wantRecover(t, d, (&odd{size: always(math.MaxInt64), read: more, cut: count}).handle(), 1, api.OK)
}

// logByChance is a log like those that journals leave, with some of its bytes changed, or any bytes.
func logByChance(c *chance) *span.Bytes {
	var records []string
	for range c.below(4) {
		if c.below(3) == 0 {
			records = append(records, cutOf(uint64(c.below(12))))
		} else {
			records = append(records, writeOf(uint64(c.below(12)), string(c.bytes(c.below(5)))))
		}
	}
	b := []byte(logOf(records...))
	if c.below(3) == 0 {
		b[7] += byte(c.below(5) - 2)
	}
	if c.below(3) == 0 {
		b = append(b, c.bytes(c.below(20))...)
	}
	for range c.below(3) {
		b[c.below(len(b))] = byte(c.below(4))
	}
	if c.below(6) == 0 {
		b = b[:c.below(len(b))]
	}
	return span.New(b)
}

// Any logs, over files of all sets, with refusals at any call: as on paper.
func TestP135Chance(t *testing.T) {
	c, oks := chance(135), 0
	for range 20000 {
		data, a, b := patterned(int64(c.below(12)), uint16(c.below(1<<16))), uint8(15), uint8(15)
		if c.below(2) == 0 {
			a, b = uint8(c.below(16)), uint8(c.below(16))
		}
		e := api.OK
		if c.below(3) == 0 {
			e = errnos()[c.below(9)]
		}
		if log := logByChance(&c); wantRecovered(t, data, log, a, b, c.below(6), e) {
			oks++
		}
		if t.Failed() {
			t.FailNow()
		}
	}
	if oks < 4000 || oks > 16000 {
		t.Errorf("%d of them were OK", oks)
	}
}
