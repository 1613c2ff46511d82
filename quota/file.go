package quota

import (
	"bytes"

	"mantle/api"
)

// file is a file that gets longer out of a purse. Of the file below it embeds what it does not look at: Size, Next and Sync come up as they are. What the file below can't is nil.
type file struct {
	api.File
	api.Holer
	api.Syncer
	writer api.Writer
	cutter api.Cutter
	purse  *Purse
}

// writes and cuts make parts of a handle out of the methods of a file.
type (
	writes func(at int64, b []byte) api.Errno
	cuts   func(size int64) api.Errno
)

func (w writes) WriteAt(at int64, b []byte) api.Errno { return w(at, b) }

func (c cuts) Cut(size int64) api.Errno { return c(size) }

// over finds out what a file can. It calls nothing of it.
func over(below api.File, p *Purse) *file {
	f := &file{File: below, purse: p}
	if w, ok := below.(api.Writer); ok {
		f.writer = w
	}
	if c, ok := below.(api.Cutter); ok {
		f.cutter = c
	}
	if h, ok := below.(api.Holer); ok {
		f.Holer = h
	}
	if s, ok := below.(api.Syncer); ok {
		f.Syncer = s
	}
	return f
}

// ReadAt: P14.2.
func (f *file) ReadAt(at int64, n int) ([]byte, api.Errno) {
	if at < 0 || n < 0 {
		return nil, api.ErrArg
	}
	if n > api.MaxText {
		return nil, api.ErrLong
	}
	b, e := f.File.ReadAt(at, n)
	if e != api.OK {
		return nil, e
	}
	return bytes.Clone(b[:min(len(b), n)]), api.OK
}

// write is WriteAt: P14.3. An empty b goes to the file below, too, which may refuse it.
func (f *file) write(at int64, b []byte) api.Errno {
	n := int64(len(b))
	if at < 0 {
		return api.ErrArg
	}
	if n > api.MaxText || at > api.MaxSize-n {
		return api.ErrLong
	}
	was := f.Size()
	end := was
	if n > 0 {
		end = at + n
	}
	return f.change(was, end, func() api.Errno { return f.writer.WriteAt(at, bytes.Clone(b)) })
}

// cut is Cut: P14.3.
func (f *file) cut(size int64) api.Errno {
	if size < 0 {
		return api.ErrArg
	}
	if size > api.MaxSize {
		return api.ErrLong
	}
	return f.change(f.Size(), size, func() api.Errno { return f.cutter.Cut(size) })
}

// change does what is to make the file, which was so long, reach up to end. What is left becomes less by what it got longer, not by what was wanted: it may have got less.
func (f *file) change(was, end int64, do func() api.Errno) api.Errno {
	e := f.purse.during(max(less(end, was), 0), do)
	if e == api.OK {
		f.purse.left = less(f.purse.left, less(f.Size(), was))
	}
	return e
}
