package cache

import (
	"bytes"
	"math"

	"mantle/api"
)

// below is the file that a cache stands over, as all that it can; what it can't is nil.
type below struct {
	api.File
	api.Writer
	api.Cutter
	api.Holer
	api.Syncer
}

// ask finds out what a file can. It calls nothing of it.
func ask(f api.File) below {
	b := below{File: f}
	if w, ok := f.(api.Writer); ok {
		b.Writer = w
	}
	if c, ok := f.(api.Cutter); ok {
		b.Cutter = c
	}
	if h, ok := f.(api.Holer); ok {
		b.Holer = h
	}
	if s, ok := f.(api.Syncer); ok {
		b.Syncer = s
	}
	return b
}

// file is the file of a cache: of the embedded file below Size, Next and Sync come up as they are.
type file struct {
	below
	cache *Cache
}

// ReadAt: P8.2. The file below may tell any Size: what is reckoned with it must not wrap round.
func (f *file) ReadAt(at int64, n int) ([]byte, api.Errno) {
	if at < 0 || n < 0 {
		return nil, api.ErrArg
	}
	if n > api.MaxText {
		return nil, api.ErrLong
	}
	var out []byte
	left := min(max(f.Size(), 0)-at, int64(n))
	for left > 0 {
		b, e := f.use(at / api.BlockSize)
		if e != api.OK {
			return nil, e
		}
		from := at % api.BlockSize
		to := min(from+left, api.BlockSize)
		has := int64(len(b))
		out = append(out, b[min(from, has):min(to, has)]...)
		if has < to {
			break
		}
		at += to - from
		left -= to - from
	}
	return out, api.OK
}

// use tells block k out of those that are kept, or out of the file below, and then it is kept. The bytes that the file tells are the file's: they are kept as they are now, whatever becomes of them there.
func (f *file) use(k int64) ([]byte, api.Errno) {
	if b := f.cache.hit(k); b != nil {
		return b.data, api.OK
	}
	f.cache.misses++
	data, e := f.below.ReadAt(k*api.BlockSize, api.BlockSize)
	if e != api.OK {
		return nil, e
	}
	b := &block{number: k, data: bytes.Clone(data[:min(len(data), api.BlockSize)])}
	f.cache.keep(b)
	return b.data, api.OK
}

// WriteAt: P8.3. An empty b goes to the file below, too, which may refuse it.
func (f *file) WriteAt(at int64, b []byte) api.Errno {
	n := int64(len(b))
	if at < 0 {
		return api.ErrArg
	}
	if n > api.MaxText || at > api.MaxSize-n {
		return api.ErrLong
	}
	size := f.Size()
	if e := f.below.WriteAt(at, b); e != api.OK || n == 0 {
		return e
	}
	f.cache.forget(min(at, size)/api.BlockSize, (at+n-1)/api.BlockSize)
	return api.OK
}

// Cut: P8.3.
func (f *file) Cut(size int64) api.Errno {
	if size < 0 {
		return api.ErrArg
	}
	if size > api.MaxSize {
		return api.ErrLong
	}
	was := f.Size()
	if e := f.below.Cut(size); e != api.OK {
		return e
	}
	f.cache.forget(min(size, was)/api.BlockSize, math.MaxInt64)
	return api.OK
}
