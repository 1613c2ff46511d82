package buffer

import (
	"bytes"

	"mantle/api"
)

// below is the file that a buffer stands over, as what it can; what it can't is nil.
type below struct {
	api.File
	api.Writer
	api.Cutter
}

// ask finds out what a file can. It calls nothing of it.
func ask(f api.File) below {
	b := below{File: f}
	if w, ok := f.(api.Writer); ok {
		b.Writer = w
	}
	if c, ok := f.(api.Cutter); ok {
		b.Cutter = c
	}
	return b
}

// file is the file of a buffer.
type file struct {
	below    below
	most     int
	gathered gathered
}

// flush ends at the first write that is refused. The file below gets bytes of its own: whatever it does to them, what it refuses stays gathered as it was.
func (f *file) flush() api.Errno {
	done, e := 0, api.OK
	for done < len(f.gathered.writes) {
		w := f.gathered.writes[done]
		if e = f.below.WriteAt(w.at, bytes.Clone(w.data)); e != api.OK {
			break
		}
		done++
	}
	f.gathered.drop(min(done, len(f.gathered.writes))) // the file below may have flushed the same buffer by itself
	return e
}

// Size: P9.2.
func (f *file) Size() int64 { return max(f.below.Size(), f.gathered.end) }

// ReadAt: P9.2. The file below is asked even where all that is read is gathered: it may refuse.
func (f *file) ReadAt(at int64, n int) ([]byte, api.Errno) {
	if at < 0 || n < 0 {
		return nil, api.ErrArg
	}
	if n > api.MaxText {
		return nil, api.ErrLong
	}
	told, e := f.below.ReadAt(at, n)
	if e != api.OK {
		return nil, e
	}
	return f.gathered.over(told, at, n), api.OK
}

// WriteAt: P9.3.
func (f *file) WriteAt(at int64, b []byte) api.Errno {
	n := int64(len(b))
	if at < 0 {
		return api.ErrArg
	}
	if n > api.MaxText || at > api.MaxSize-n {
		return api.ErrLong
	}
	if n == 0 {
		return api.OK
	}
	through := at+n > f.Size() || len(b) > f.most
	if through || f.gathered.total+len(b) > f.most {
		if e := f.flush(); e != api.OK {
			return e
		}
	}
	if through {
		return f.below.WriteAt(at, b)
	}
	f.gathered.add(at, b)
	return api.OK
}

// Cut: P9.4.
func (f *file) Cut(size int64) api.Errno {
	if size < 0 {
		return api.ErrArg
	}
	if size > api.MaxSize {
		return api.ErrLong
	}
	if e := f.flush(); e != api.OK {
		return e
	}
	return f.below.Cut(size)
}

// Sync: P9.4.
func (f *file) Sync() api.Errno {
	if e := f.flush(); e != api.OK {
		return e
	}
	if s, ok := f.below.File.(api.Syncer); ok {
		return s.Sync()
	}
	return api.OK
}
