package crash_test

import (
	"testing"

	"mantle/api"
	"mantle/crash"
	"mantle/journal"
)

// begin lays a journal over the two files of a machine, which has a fuse from then on, and does to it what the document's example 4 tells: whether its Sync was answered OK.
func begin(t *testing.T, fuse int) (*crash.Power, bool) {
	t.Helper()
	p := newPower(t, "abcdef", "")
	p.Fuse(fuse)
	h, e := journal.New(p.Handle(0), p.Handle(1))
	if e != api.OK {
		t.Fatal(e)
	}
	for _, op := range []api.Op{write(1, "xy"), cut(4), sync()} {
		if h.Do(op).E != api.OK {
			return p, false
		}
	}
	return p, true
}

// choices goes over what may be kept of n operations, whole, and with each one torn at some bytes.
func choices(n int, f func(kept, torn []int)) {
	for mask := range 1 << n {
		var kept []int
		for i := range n {
			if mask>>i&1 == 1 {
				kept = append(kept, i)
			}
		}
		f(kept, nil)
		for i := range kept {
			for bytes := range 20 {
				torn := make([]int, i+1)
				for j := range i {
					torn[j] = -1
				}
				torn[i] = bytes
				f(kept, torn)
			}
		}
	}
}

// The document's example 5: the power fails ahead of, in, and behind that Sync, and behind Recover the file reads abcdef or axyd.
func TestP5Example(t *testing.T) {
	seen := map[string]int{}
	for fuse := range 20 {
		p, synced := begin(t, fuse)
		choices(len(p.Open()), func(kept, torn []int) {
			q := p.Fail(kept, torn)
			if _, e := journal.Recover(q.Handle(0), q.Handle(1)); e != api.OK {
				t.Fatalf("with a fuse of %d and %v kept, torn %v, Recover answers %v", fuse, kept, torn, e)
			}
			b := string(q.Image(0))
			seen[b]++
			if b != "axyd" && (b != "abcdef" || synced) {
				t.Fatalf("with a fuse of %d and %v kept, torn %v, the file reads %q", fuse, kept, torn, b)
			}
			wantImages(t, q.Fail(nil, nil), b, "")
		})
	}
	if len(seen) != 2 {
		t.Errorf("seen were %v", seen)
	}
}
