package sums

import "mantle/api"

// touched are the blocks that a write touches: of the bytes from at up to end, and of those that come to be between the old end and at.
type touched struct{ at, end, size int64 }

// each goes over them, rising, up to the first error.
func (t touched) each(do func(k int64) api.Errno) api.Errno {
	last := (t.end - 1) / api.BlockSize
	for k := min(t.at, t.size) / api.BlockSize; k <= last; k++ {
		if e := do(k); e != api.OK {
			return e
		}
	}
	return api.OK
}

// leaves tells whether block k has bytes of which not all are written over.
func (t touched) leaves(k int64) bool {
	from := k * api.BlockSize
	to := min(from+api.BlockSize, t.size)
	return from < to && (from < t.at || t.end < to)
}
