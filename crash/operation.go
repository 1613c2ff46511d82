package crash

import (
	"cmp"
	"slices"

	"mantle/api"
	"mantle/span"
)

// medium is what one file stands on. What is open, done to what is firm, comes to what there is now.
type medium struct {
	now  *span.Bytes
	firm *span.Bytes // as it was at the last Sync, or at first
	open []operation
}

// operation is a write or a cut, told as by Open. By its turn it has its place among those of other files.
type operation struct {
	api.Op
	turn int
}

// onto does it to bytes, which have room for it: no file is longer than MaxData bytes, whichever operations are left out.
func (o operation) onto(s *span.Bytes) {
	if o.Do == api.DoCut {
		s.Cut(o.At)
	} else {
		s.Put(o.At, o.B)
	}
}

// do does what is open from then on.
func (p *Power) do(op api.Op) {
	m, o := p.media[op.N], operation{op, p.turn}
	o.onto(m.now)
	m.open = append(m.open, o)
	p.turn++
}

// settle makes firm what is open: by doing it again, since a file may be much longer than what was done to it.
func (m *medium) settle() {
	for _, o := range m.open {
		o.onto(m.firm)
	}
	m.open = nil
}

// open tells the open operations of all files, in their order.
func (p *Power) open() []operation {
	if p == nil {
		return nil
	}
	var l []operation
	for _, m := range p.media {
		l = append(l, m.open...)
	}
	slices.SortFunc(l, func(a, b operation) int { return cmp.Compare(a.turn, b.turn) })
	return l
}

// keeping gives what does an open operation again, as far as it is kept; there are count of them.
func keeping(kept, torn []int, count int) func(number int, o operation, s *span.Bytes) {
	through := comeThrough(kept, torn, count)
	return func(number int, o operation, s *span.Bytes) {
		n, ok := through[number]
		if !ok {
			return
		}
		if n >= 0 && n < len(o.B) {
			o.B = o.B[:n]
		}
		o.onto(s)
	}
}

// comeThrough tells how many bytes are done of each number that is kept; below 0 are all. Numbers that there are not stay out, so that a long list makes no great map.
func comeThrough(kept, torn []int, count int) map[int]int {
	through := map[int]int{}
	for i, number := range kept {
		if number < 0 || number >= count {
			continue
		}
		if _, ok := through[number]; ok { // the first one counts
			continue
		}
		if i < len(torn) {
			through[number] = torn[i]
		} else {
			through[number] = -1
		}
	}
	return through
}
