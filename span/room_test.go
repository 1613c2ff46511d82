package span

import (
	"testing"

	"mantle/api"
)

func room(s *Bytes) int {
	n := cap(s.list)
	for _, r := range s.list {
		n += cap(r.data)
	}
	return n
}

// Holes take no room: neither those of a long file, nor those that are made.
func TestHolesTakeNoRoom(t *testing.T) {
	empty := map[string]func(s *Bytes) api.Errno{
		"Punch all":           func(s *Bytes) api.Errno { return s.Punch(0, api.MaxSize) },
		"Punch but the first": func(s *Bytes) api.Errno { return s.Punch(1, api.MaxSize) },
		"Punch but the last":  func(s *Bytes) api.Errno { return s.Punch(0, s.Size()-1) },
		"Cut to 1":            func(s *Bytes) api.Errno { return s.Cut(1) },
	}
	for name, do := range empty {
		whole, parts := New(make([]byte, 1<<16)), New(nil)
		for at := range int64(1 << 10) {
			parts.Put(2*at, []byte{1})
		}
		for _, s := range []*Bytes{whole, parts} {
			do(s)
			if got := room(s); got > 16 {
				t.Errorf("%s: room for %d, held are %d", name, got, s.Held())
			}
		}
	}
	s := New(nil)
	s.Put(api.MaxSize-1, []byte{1})
	if got := room(s.Twin()) + room(s); got > 32 {
		t.Errorf("one byte takes room for %d", got)
	}
}

// Stretches that share memory would write over one another when they grow.
func TestPartsShareNoMemory(t *testing.T) {
	s := New([]byte("abcdefgh"))
	s.Punch(2, 1)
	for i := range s.list {
		data := s.list[i].data
		_ = append(data, "!!!!!!"...)
	}
	if got := string(s.Get(0, 9)); got != "ab\x00defgh" {
		t.Errorf("behind appends: %q", got)
	}
}
