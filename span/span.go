// Package span is layer 1: see shared/doc/01-span.md.
package span

import (
	"slices"

	"mantle/api"
)

// Bytes is bytes with holes.
type Bytes struct {
	size int64
	held int64
	list []stretch // in order, none of them empty, no two of them touching
}

// New: P1.1.
func New(b []byte) *Bytes {
	s := &Bytes{}
	s.Put(0, b[:min(len(b), api.MaxData)])
	return s
}

// Size: P1.1.
func (s *Bytes) Size() int64 {
	if s == nil {
		return 0
	}
	return s.size
}

// Get: P1.2.
func (s *Bytes) Get(at int64, n int) []byte {
	if s == nil || at < 0 || n < 0 || at >= s.size {
		return nil
	}
	out := make([]byte, min(int64(n), api.MaxText, s.size-at))
	for _, r := range s.within(at, at+int64(len(out))) {
		begin := max(at, r.from)
		copy(out[begin-at:], r.data[begin-r.from:])
	}
	return out
}

// Put: P1.3.
func (s *Bytes) Put(at int64, b []byte) api.Errno {
	if s == nil {
		return api.ErrNil
	}
	if at < 0 {
		return api.ErrArg
	}
	if len(b) == 0 {
		return api.OK
	}
	n := int64(len(b))
	if n > api.MaxSize-at { // at+n might wrap round
		return api.ErrLong
	}
	held := s.held - s.written(at, at+n) + n
	if held > api.MaxData {
		return api.ErrLong
	}
	s.lay(at, b)
	s.held = held
	s.size = max(s.size, at+n)
	return api.OK
}

// Cut: P1.4.
func (s *Bytes) Cut(size int64) api.Errno {
	if s == nil {
		return api.ErrNil
	}
	if size < 0 {
		return api.ErrArg
	}
	if size > api.MaxSize {
		return api.ErrLong
	}
	s.erase(size, s.size)
	s.size = size
	return api.OK
}

// Punch: P1.4.
func (s *Bytes) Punch(at, n int64) api.Errno {
	if s == nil {
		return api.ErrNil
	}
	if at < 0 || n < 0 {
		return api.ErrArg
	}
	if at < s.size {
		s.erase(at, at+min(n, s.size-at))
	}
	return api.OK
}

// Next: P1.5.
func (s *Bytes) Next(at int64) (from, to int64) {
	if s == nil {
		return 0, 0
	}
	at = max(at, 0)
	i := s.search(func(r stretch) bool { return r.to() > at })
	if i == len(s.list) {
		return s.size, s.size
	}
	r := s.list[i]
	return max(at, r.from), r.to()
}

// Held: P1.5.
func (s *Bytes) Held() int64 {
	if s == nil {
		return 0
	}
	return s.held
}

// Twin: P1.5.
func (s *Bytes) Twin() *Bytes {
	if s == nil {
		return nil
	}
	list := make([]stretch, len(s.list))
	for i, r := range s.list {
		list[i] = stretch{r.from, slices.Clone(r.data)}
	}
	return &Bytes{size: s.size, held: s.held, list: list}
}
