package disk_test

import (
	"testing"

	"mantle/api"
)

// Left asks the file for the map alone, and changes nothing.
func TestP215Left(t *testing.T) {
	for _, n := range borders() {
		for can := range uint8(16) {
			for _, b := range [][]byte{bytesOf(n), filled(n)} {
				x := bothOf(t, b, n, can)
				x.want(t, act{do: doLeft})
				x.refuse(rules{bad: api.Stretch{From: 0, To: 64}, noRead: api.ErrSum})
				x.want(t, act{do: doLeft})
				x.refuse(rules{bad: api.Stretch{From: int64(64 * (mapBlocks(n) + 1)), To: api.MaxSize}, noRead: api.ErrSum})
				x.want(t, act{do: doLeft})
				x.wantBytes(t)
			}
		}
	}
}

// Where the map can't be read, or is no more all there, none is left.
func TestP215NoMap(t *testing.T) {
	for _, e := range errnos() {
		for _, n := range []int{9, 513} {
			x := bothOf(t, bytesOf(n), n, 15)
			x.spy.beside = bytesOf(n)[64:]
			for at := 64; at < 64*(mapBlocks(n)+1); at++ {
				x.refuse(rules{bad: api.Stretch{From: int64(at), To: int64(at + 1)}, noRead: e})
				wantLeft(t, x.disk, 0)
			}
			x.refuse(rules{})
			x.cut(t, 64*(mapBlocks(n)+1))
			wantLeft(t, x.disk, n-1-mapBlocks(n))
			x.cut(t, 64*(mapBlocks(n)+1)-1)
			wantLeft(t, x.disk, 0)
		}
	}
}

// The file's Sync, and nothing else, where it can be synced.
func TestP215Sync(t *testing.T) {
	for can := range uint8(16) {
		for _, e := range append(errnos(), api.OK) {
			x := bothOf(t, filled(9), 9, can)
			x.refuse(rules{bad: api.Stretch{From: 0, To: api.MaxSize}, noRead: api.ErrSum, noWrite: api.ErrQuota, noSync: e})
			x.want(t, act{do: doSync})
			if x.spy.asked > 0 {
				t.Error("a Sync reads the file")
			}
			x.wantBytes(t)
		}
	}
}

// A disk that Format made can do what its file can, as one that was opened.
func TestP215Formatted(t *testing.T) {
	for can := range uint8(16) {
		s := spyOf(t, nil)
		d := formatted(t, s.handle(can|api.CanWrite), 9)
		s.forget()
		if can&api.CanSync == 0 {
			wantE(t, d.Sync(), api.ErrCan)
			s.wantUnasked(t)
			continue
		}
		wantE(t, d.Sync(), api.OK)
		s.wantCalls(t, synced)
	}
}
