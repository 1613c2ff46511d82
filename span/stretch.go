package span

import (
	"slices"
	"sort"
)

// stretch is written bytes side by side. No two stretches share memory: one of
// them may grow in place, into the spare room behind its own bytes.
type stretch struct {
	from int64
	data []byte
}

func (r stretch) to() int64 { return r.from + int64(len(r.data)) }

// search tells the first stretch for which ok holds (how many there are, if
// there is none); ok must hold for all stretches behind one for which it holds.
func (s *Bytes) search(ok func(r stretch) bool) int {
	return sort.Search(len(s.list), func(i int) bool { return ok(s.list[i]) })
}

// within tells the stretches, whole, that have bytes from at up to end, which
// is not less than at.
func (s *Bytes) within(at, end int64) []stretch {
	i := s.search(func(r stretch) bool { return r.to() > at })
	j := s.search(func(r stretch) bool { return r.from >= end })
	return s.list[i:j]
}

// written counts the written bytes from at up to end.
func (s *Bytes) written(at, end int64) int64 {
	sum := int64(0)
	for _, r := range s.within(at, end) {
		sum += min(end, r.to()) - max(at, r.from)
	}
	return sum
}

// lay makes b, which is not empty, stand at at. All stretches that b meets or
// touches become one with it.
func (s *Bytes) lay(at int64, b []byte) {
	end := at + int64(len(b))
	i := s.search(func(r stretch) bool { return r.to() >= at })
	j := s.search(func(r stretch) bool { return r.from > end })
	if i == j {
		s.replace(i, j, stretch{at, slices.Clone(b)})
		return
	}
	first, last := s.list[i], s.list[j-1]
	if first.from <= at && end <= first.to() {
		copy(first.data[at-first.from:], b)
		return
	}
	tail := last.data[min(end, last.to())-last.from:]
	if at < first.from {
		first = stretch{at, make([]byte, 0, len(b)+len(tail))}
	}
	first.data = append(first.data[:at-first.from], b...)
	first.data = append(first.data, tail...)
	s.replace(i, j, first)
}

// erase makes the bytes from at up to end a hole.
func (s *Bytes) erase(at, end int64) {
	if at >= end { // else a stretch around at would be parted in two that touch
		return
	}
	s.held -= s.written(at, end)
	i := s.search(func(r stretch) bool { return r.to() > at })
	j := s.search(func(r stretch) bool { return r.from >= end })
	var left []stretch
	if i < j && s.list[i].from < at {
		r := s.list[i]
		left = append(left, stretch{r.from, fit(r.data[:at-r.from])})
	}
	if i < j && s.list[j-1].to() > end {
		r := s.list[j-1]
		left = append(left, stretch{end, slices.Clone(r.data[end-r.from:])})
	}
	s.replace(i, j, left...)
}

// replace puts l in the place of the stretches from i up to j.
func (s *Bytes) replace(i, j int, l ...stretch) {
	s.list = fit(slices.Replace(s.list, i, j, l...))
}

// fit gives back spare room, where most of it is spare: what is a hole takes
// none. (Growing by append never spares that much, so it stays cheap.)
func fit[T any](l []T) []T {
	if cap(l)/4 <= len(l) {
		return l
	}
	return append(make([]T, 0, len(l)), l...)
}
