package buffer_test

import (
	"testing"

	"mantle/api"
)

// A cut, of all kinds: the flush first, then the file's Cut, once, to the size that was asked.
func TestP94Cut(t *testing.T) {
	l := []api.Op{put(1, "ab"), put(7, "cd"), put(2, "e")}
	for size := range int64(14) {
		for _, gather := range []bool{false, true} {
			l := l
			if !gather {
				l = nil
			}
			r, h := kept(t, 9, l...)
			p := &paper{[]byte("0123456789"), make([]bool, 10)}
			for _, op := range l {
				p.write(op.At, op.B)
			}
			p.cut(size)
			wantCut(t, h, size, api.OK)
			r.wantCalls(t, append(calls(l), call(cutTo(size)))...)
			wantAll(t, r.all, string(p.data))
			wantReads(t, h, string(p.data))
			r.calls = nil
			wantSync(t, h, api.OK)
			if r.wantCalls(t, "5 0 0 "); t.Failed() {
				t.Fatal(size, gather)
			}
		}
	}
}

// A cut that the file refuses is told as the file tells it; what was gathered is in the file by then, and what is read is as it was.
func TestP94CutRefused(t *testing.T) {
	for _, size := range []int64{0, 3, 10, 14} {
		for _, e := range errnos() {
			r, h := kept(t, 9, put(1, "ab"), put(7, "cd"))
			r.no[api.DoCut] = e
			wantCut(t, h, size, e)
			r.wantCalls(t, "2 1 0 ab", "2 7 0 cd", call(cutTo(size)))
			wantAll(t, r.all, "0ab3456cd9")
			wantReads(t, h, "0ab3456cd9")
			r.calls = nil
			wantCut(t, h, size, e)
			r.wantCalls(t, call(cutTo(size)))
		}
	}
}

// A cut whose flush is refused does not come to the file, however far the flush came; one that comes later goes on from there.
func TestP94CutBehindRefused(t *testing.T) {
	for takes := range 2 {
		for _, size := range []int64{0, 3, 10, 14} {
			r, h := kept(t, 9, put(1, "ab"), put(7, "cd"))
			r.refuseBehind(takes, api.ErrSum)
			r.no[api.DoCut] = api.ErrGone // never asked
			wantCut(t, h, size, api.ErrSum)
			r.wantCalls(t, []string{"2 1 0 ab", "2 7 0 cd"}[:takes+1]...)
			wantAll(t, r.all, []string{"0123456789", "0ab3456789"}[takes])
			wantAll(t, h, "0ab3456cd9")
			r.no, r.calls = [6]api.Errno{}, nil
			wantCut(t, h, size, api.OK)
			r.wantCalls(t, append([]string{"2 1 0 ab", "2 7 0 cd"}[takes:], call(cutTo(size)))...)
			wantAll(t, h, ("0ab3456cd9" + "\x00\x00\x00\x00")[:size])
		}
	}
}

// A file that can be cut and not written: nothing is ever gathered, the cut is the file's.
func TestP94CutAlone(t *testing.T) {
	for _, can := range []uint8{2, 6, 10, 14} {
		r := newRefuser(t, "abcdef")
		h := newBuffer(t, r.handle(can), 4)
		wantCut(t, h, 3, api.OK)
		wantWrite(t, h, 0, "x", api.ErrCan)
		wantCut(t, h, 5, api.OK)
		r.wantCalls(t, "3 3 0 ", "3 5 0 ")
		wantAll(t, h, "abc\x00\x00")
		r.no[api.DoCut] = api.ErrQuota
		wantCut(t, h, 0, api.ErrQuota)
	}
}

// A sync with nothing gathered, and with something: the flush first, then the file's Sync, once.
func TestP94Sync(t *testing.T) {
	r, h := kept(t, 9)
	for range 3 {
		wantSync(t, h, api.OK)
		r.wantCalls(t, "5 0 0 ")
	}
	wantWrite(t, h, 1, "ab", api.OK)
	wantWrite(t, h, 2, "cd", api.OK)
	wantSync(t, h, api.OK)
	r.wantCalls(t, "2 1 0 ab", "2 2 0 cd", "5 0 0 ")
	wantAll(t, r.all, "0acd456789")
	wantAll(t, h, "0acd456789")
	r.calls = nil
	wantSync(t, h, api.OK) // they are gathered no more
	r.wantCalls(t, "5 0 0 ")
	wantWrite(t, h, 12, "x", api.OK) // one that went through is not written again
	r.wantCalls(t, "2 12 0 x")
	wantSync(t, h, api.OK)
	r.wantCalls(t, "5 0 0 ")
}

// A sync that the file refuses is told as the file tells it: what was gathered is in the file by then, and is gathered no more.
func TestP94SyncRefused(t *testing.T) {
	for _, e := range errnos() {
		r, h := kept(t, 9, put(1, "ab"))
		r.no[api.DoSync] = e
		wantSync(t, h, e)
		r.wantCalls(t, "2 1 0 ab", "5 0 0 ")
		wantAll(t, r.all, "0ab3456789")
		wantAll(t, h, "0ab3456789")
		r.calls = nil
		wantSync(t, h, e)
		r.wantCalls(t, "5 0 0 ")
	}
}

// A sync whose flush is refused does not come to the file; the error is the write's, not that of the Sync.
func TestP94SyncBehindRefused(t *testing.T) {
	for takes := range 3 {
		l := []api.Op{put(1, "ab"), put(2, "cd"), put(9, "e")}
		r, h := kept(t, 9, l...)
		r.refuseBehind(takes, api.ErrFull)
		r.no[api.DoSync] = api.ErrGone
		wantSync(t, h, api.ErrFull)
		r.wantCalls(t, calls(l[:takes+1])...)
		wantAll(t, h, "0acd45678e")
		r.no[api.DoWrite], r.calls = api.OK, nil
		wantSync(t, h, api.ErrGone)
		r.wantCalls(t, append(calls(l[takes:]), "5 0 0 ")...)
	}
}

// Over a file that can be written and not synced a Sync is the flush and no more, be it that the file's value could.
func TestP94SyncWithoutSync(t *testing.T) {
	for _, can := range []uint8{1, 3, 5, 7} {
		r := newRefuser(t, "0123456789")
		h := newBuffer(t, r.handle(can), 9)
		r.no[api.DoSync] = api.ErrGone // never asked
		wantSync(t, h, api.OK)
		r.wantCalls(t)
		wantWrite(t, h, 1, "ab", api.OK)
		wantAll(t, r.all, "0123456789")
		wantSync(t, h, api.OK)
		r.wantCalls(t, "2 1 0 ab")
		wantAll(t, r.all, "0ab3456789")
		wantWrite(t, h, 1, "cd", api.OK)
		r.no[api.DoWrite] = api.ErrQuota
		wantSync(t, h, api.ErrQuota)
		r.wantCalls(t, "2 1 0 cd")
	}
}

// Over a file that can be synced and not written the Sync is the file's.
func TestP94SyncAlone(t *testing.T) {
	for _, can := range []uint8{8, 10, 12, 14} {
		r := newRefuser(t, "abc")
		h := newBuffer(t, r.handle(can), 4)
		wantSync(t, h, api.OK)
		for _, e := range errnos() {
			r.calls, r.no[api.DoSync] = nil, e
			wantSync(t, h, e)
			r.wantCalls(t, "5 0 0 ")
		}
	}
}

// A flush over a file that was cut below makes it as long again; then it is cut.
func TestP94CutBelow(t *testing.T) {
	for size := range int64(12) {
		r, h := kept(t, 9, put(6, "ab"))
		wantCut(t, r.all, 3, api.OK)
		wantCut(t, h, size, api.OK)
		r.wantCalls(t, "2 6 0 ab", call(cutTo(size)))
		want := "012\x00\x00\x00ab\x00\x00\x00\x00"[:size]
		wantReads(t, h, want)
		wantAll(t, r.all, want)
	}
}
