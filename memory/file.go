package memory

import (
	"mantle/api"
	"mantle/span"
)

// file obeys the file's rules by its bytes: what the rules refuse and the bytes would take is refused here, the rest by the bytes.
type file struct{ bytes *span.Bytes }

func (f *file) Size() int64 { return f.bytes.Size() }

func (f *file) ReadAt(at int64, n int) ([]byte, api.Errno) {
	if at < 0 || n < 0 {
		return nil, api.ErrArg
	}
	if n > api.MaxText {
		return nil, api.ErrLong
	}
	return f.bytes.Get(at, n), api.OK
}

func (f *file) WriteAt(at int64, b []byte) api.Errno {
	if at < 0 {
		return api.ErrArg
	}
	if len(b) > api.MaxText || at > api.MaxSize-int64(len(b)) { // Put would take more bytes, and an empty b at any place
		return api.ErrLong
	}
	return f.bytes.Put(at, b)
}

func (f *file) Cut(size int64) api.Errno { return f.bytes.Cut(size) }

func (f *file) Next(at int64) (from, to int64) { return f.bytes.Next(at) }

// Sync does nothing: what was written is in memory, and stays there.
func (f *file) Sync() api.Errno { return api.OK }
