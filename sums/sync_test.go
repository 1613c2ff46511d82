package sums_test

import (
	"testing"

	"mantle/api"
)

// The file's Sync, then the table's, once each, whatever the blocks are; the first error is the answer, and ends it.
func TestP105Sync(t *testing.T) {
	data, table := spoilt(letters(100), true, 0, 1)
	a, b, d := two(t, data, table)
	h := newSums(t, a.handle(15), b.handle(15))
	wantSync(t, h, api.OK)
	if len(d.sizes) > 0 {
		t.Errorf("Sizes were asked: %q", d.sizes)
	}
	d.wantCalls(t, "a 5 0 0 ", "b 5 0 0 ")
	for _, e := range errnos() {
		d.refuseBehind(0, e)
		wantSync(t, h, e)
		d.wantCalls(t, "a 5 0 0 ")
		d.refuseBehind(1, e)
		wantSync(t, h, e)
		d.wantCalls(t, "a 5 0 0 ", "b 5 0 0 ")
	}
	a.no[api.DoSync], b.no[api.DoSync] = api.ErrQuota, api.ErrGone
	wantSync(t, h, api.ErrQuota)
	a.no[api.DoSync] = api.OK
	wantSync(t, h, api.ErrGone)
}

// A Sync changes nothing, and is there if both can.
func TestP105Sets(t *testing.T) {
	text := letters(100)
	for x := range uint8(16) {
		for y := range uint8(16) {
			a, b, _, d := summed(t, text)
			h := newSums(t, a.handle(x), b.handle(y))
			if x&y&api.CanSync == 0 {
				wantSync(t, h, api.ErrCan)
				d.wantUnasked(t)
				continue
			}
			wantSync(t, h, api.OK)
			d.wantCalls(t, "a 5 0 0 ", "b 5 0 0 ")
			wantAll(t, h, text)
		}
	}
}
