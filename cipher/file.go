package cipher

import "mantle/api"

// file is the file of a cipher, with all methods that a cipher may have. What the file below can't is nil, and its method comes to no handle.
type file struct {
	below  api.File
	writes api.Writer
	cuts   api.Cutter
	syncs  api.Syncer
	stream stream
}

// Size: P12.3.
func (f *file) Size() int64 { return f.below.Size() }

// ReadAt: P12.3. The file below is asked even for none: it may refuse.
func (f *file) ReadAt(at int64, n int) ([]byte, api.Errno) {
	if at < 0 || n < 0 {
		return nil, api.ErrArg
	}
	if n > api.MaxText {
		return nil, api.ErrLong
	}
	b, e := f.below.ReadAt(at, n)
	if e != api.OK {
		return nil, e
	}
	return f.stream.turned(at, b[:min(len(b), n)]), api.OK
}

// WriteAt: P12.4.
func (f *file) WriteAt(at int64, b []byte) api.Errno {
	n := int64(len(b))
	if at < 0 {
		return api.ErrArg
	}
	if n > api.MaxText || at > api.MaxSize-n {
		return api.ErrLong
	}
	if n == 0 {
		return api.OK
	}
	if size := f.end(); at > size {
		return lengthen(size, at, b, f.put)
	}
	return f.put(at, b)
}

// Cut: P12.4. A cut below would make a hole, which would not read as noughts here.
func (f *file) Cut(to int64) api.Errno {
	if to < 0 {
		return api.ErrArg
	}
	if to > api.MaxSize {
		return api.ErrLong
	}
	if size := f.end(); to > size {
		return lengthen(size, to, nil, f.put)
	}
	return f.cuts.Cut(to)
}

// Sync: P12.4.
func (f *file) Sync() api.Errno { return f.syncs.Sync() }

// end is where the file below ends. That may tell any Size: what is reckoned with it must not wrap round.
func (f *file) end() int64 { return max(f.Size(), 0) }

// put writes b turned, which is new memory: the file below may do to it what it likes.
func (f *file) put(at int64, b []byte) api.Errno {
	return f.writes.WriteAt(at, f.stream.turned(at, b))
}

// lengthen puts noughts from size up to at, and b behind them. It is ONE put, so that all of it comes to be or none, and it knows nothing of keys: the noughts are turned where all bytes are.
func lengthen(size, at int64, b []byte, put func(at int64, b []byte) api.Errno) api.Errno {
	gap := at - size
	if gap+int64(len(b)) > api.MaxText {
		return api.ErrLong
	}
	return put(size, append(make([]byte, gap), b...))
}
