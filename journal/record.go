package journal

import "mantle/api"

// headSize is how many bytes a record has ahead of those of a write.
const headSize = 13

// The kinds of records in a log.
const (
	kindWrite = 1
	kindCut   = 2
)

// record is something that is to be done to a file, and that stands in a log.
type record interface {
	told() (head, body []byte) // its bytes in the log
}

// write is the record of a write.
type write struct {
	at   int64
	data []byte
}

func (w write) told() (head, body []byte) { return headOf(kindWrite, w.at, len(w.data)), w.data }

// cut is the record of a cut.
type cut struct{ size int64 }

func (c cut) told() (head, body []byte) { return headOf(kindCut, c.size, 0), nil }

func headOf(kind byte, place int64, follow int) []byte {
	b := append(make([]byte, 0, headSize), kind)
	b = appendNumber(b, uint64(place), 8)
	return appendNumber(b, uint64(follow), 4)
}

// recordsIn are the records that b is made of; not ok, if it is not made of records alone. They share its memory.
func recordsIn(b []byte) (l []record, ok bool) {
	for len(b) > 0 {
		r, rest, ok := first(b)
		if !ok {
			return nil, false
		}
		l = append(l, r)
		b = rest
	}
	return l, true
}

// first is the record at the beginning of b, and what stands behind it. Any place is taken: a file that can't have it refuses it.
func first(b []byte) (r record, rest []byte, ok bool) {
	if len(b) < headSize {
		return nil, nil, false
	}
	place, follow, rest := int64(number(b[1:9])), number(b[9:headSize]), b[headSize:]
	if follow > uint64(len(rest)) {
		return nil, nil, false
	}
	switch {
	case b[0] == kindWrite:
		return write{place, rest[:follow]}, rest[follow:], true
	case b[0] == kindCut && follow == 0:
		return cut{place}, rest, true
	}
	return nil, nil, false
}

// target is what records are done to: a file, or what stands for one.
type target interface {
	api.Writer
	api.Cutter
}

// do does records one behind the other; the first error ends it.
func do(l []record, to target) api.Errno {
	for _, r := range l {
		e := api.OK
		switch r := r.(type) {
		case write:
			e = to.WriteAt(r.at, r.data)
		case cut:
			e = to.Cut(r.size)
		}
		if e != api.OK {
			return e
		}
	}
	return api.OK
}
