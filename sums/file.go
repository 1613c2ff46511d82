package sums

import (
	"bytes"

	"mantle/api"
)

// below is one of the two files that a file with sums stands over, as what it can, and by its pieces; what it can't is nil.
type below struct {
	api.File
	api.Writer
	api.Syncer
	pieces pieces
}

// ask finds out what a file can. It calls nothing of it.
func ask(f api.File, long int) below {
	b := below{File: f, pieces: pieces{f.ReadAt, long}}
	if w, ok := f.(api.Writer); ok {
		b.Writer = w
	}
	if s, ok := f.(api.Syncer); ok {
		b.Syncer = s
	}
	return b
}

// file is a file with sums: its data, and the table of its blocks.
type file struct{ data, table below }

// Size: P10.2.
func (f *file) Size() int64 { return f.data.Size() }

// ReadAt: P10.3. The file below may tell any Size, and fewer bytes than that: the read ends behind those that are there.
func (f *file) ReadAt(at int64, n int) ([]byte, api.Errno) {
	if at < 0 || n < 0 {
		return nil, api.ErrArg
	}
	if n > api.MaxText {
		return nil, api.ErrLong
	}
	var out []byte
	left := min(max(f.Size(), 0)-at, int64(n))
	for left > 0 {
		b, e := f.right(at / api.BlockSize)
		if e != api.OK {
			return nil, e
		}
		from := at % api.BlockSize
		to := min(from+left, api.BlockSize)
		has := int64(len(b))
		out = append(out, b[min(from, has):min(to, has)]...)
		if has < to {
			break
		}
		at += to - from
		left -= to - from
	}
	return out, api.OK
}

// right reads block k and holds it to be right. Where the table has fewer than 8 bytes for it, these are no sum.
func (f *file) right(k int64) ([]byte, api.Errno) {
	b, e := f.data.pieces.read(k)
	if e != api.OK {
		return nil, e
	}
	sum, e := f.table.pieces.read(k)
	if e != api.OK {
		return nil, e
	}
	if !bytes.Equal(sum, entry(Sum(b))) {
		return nil, api.ErrSum
	}
	return b, api.OK
}

// WriteAt: P10.4.
func (f *file) WriteAt(at int64, b []byte) api.Errno {
	n := int64(len(b))
	if at < 0 {
		return api.ErrArg
	}
	if n > api.MaxText || at > api.MaxSize-n {
		return api.ErrLong
	}
	if n == 0 {
		return api.OK
	}
	size := max(f.Size(), 0)
	if at-size > api.MaxText {
		return api.ErrLong
	}
	t := touched{at, at + n, size}
	if e := f.held(t); e != api.OK {
		return e
	}
	if e := f.data.WriteAt(at, b); e != api.OK {
		return e
	}
	return t.each(f.enter)
}

// held holds those blocks to be right of which a write leaves bytes as they are: their new sums would hide wrong ones.
func (f *file) held(t touched) api.Errno {
	return t.each(func(k int64) api.Errno {
		if !t.leaves(k) {
			return api.OK
		}
		_, e := f.right(k)
		return e
	})
}

// enter puts the sum of what block k has by now into the table.
func (f *file) enter(k int64) api.Errno {
	b, e := f.data.pieces.read(k)
	if e != api.OK {
		return e
	}
	return f.table.WriteAt(k*entrySize, entry(Sum(b)))
}

// Sync: P10.5.
func (f *file) Sync() api.Errno {
	if e := f.data.Sync(); e != api.OK {
		return e
	}
	return f.table.Sync()
}
