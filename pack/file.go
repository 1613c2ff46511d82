package pack

import (
	"bytes"

	"mantle/api"
)

// file is a file of bytes that stay as they are.
type file struct{ data []byte }

// Size: P11.3.
func (f *file) Size() int64 { return int64(len(f.data)) }

// ReadAt: P11.3.
func (f *file) ReadAt(at int64, n int) ([]byte, api.Errno) {
	if at < 0 || n < 0 {
		return nil, api.ErrArg
	}
	if n > api.MaxText {
		return nil, api.ErrLong
	}
	from := min(at, f.Size())
	to := min(from+int64(n), f.Size())
	return bytes.Clone(f.data[from:to]), api.OK
}

// read reads a file's first size bytes. One that tells fewer than it was asked has no more behind them.
func read(f api.File, size int) ([]byte, api.Errno) {
	var out []byte
	for len(out) < size {
		n := min(size-len(out), api.MaxText)
		b, e := f.ReadAt(int64(len(out)), n)
		if e != api.OK {
			return nil, e
		}
		out = append(out, b[:min(len(b), n)]...)
		if len(b) < n {
			break
		}
	}
	return out, api.OK
}
