package crash

import (
	"bytes"

	"mantle/api"
	"mantle/face"
)

// place is a file of a machine: it knows the machine, and the file's number.
type place struct {
	power  *Power
	number int
}

// reads, writes, cuts and syncs make parts of a handle out of the methods of a place.
type (
	reads struct {
		size func() int64
		read func(at int64, n int) ([]byte, api.Errno)
	}
	writes func(at int64, b []byte) api.Errno
	cuts   func(size int64) api.Errno
	syncs  func() api.Errno
)

func (r reads) Size() int64 { return r.size() }

func (r reads) ReadAt(at int64, n int) ([]byte, api.Errno) { return r.read(at, n) }

func (w writes) WriteAt(at int64, b []byte) api.Errno { return w(at, b) }

func (c cuts) Cut(size int64) api.Errno { return c(size) }

func (s syncs) Sync() api.Errno { return s() }

// handle gives a new handle each time; all of them are of the one file.
func (f place) handle() *face.Handle {
	return face.Make(reads{f.size, f.read}, writes(f.write), cuts(f.cut), nil, syncs(f.sync))
}

func (f place) medium() *medium { return f.power.media[f.number] }

func (f place) size() int64 { return f.medium().now.Size() }

func (f place) read(at int64, n int) ([]byte, api.Errno) {
	if at < 0 || n < 0 {
		return nil, api.ErrArg
	}
	if n > api.MaxText {
		return nil, api.ErrLong
	}
	return f.medium().now.Get(at, n), api.OK
}

func (f place) write(at int64, b []byte) api.Errno {
	n := int64(len(b))
	if at < 0 {
		return api.ErrArg
	}
	if n > api.MaxText || at > api.MaxSize-n {
		return api.ErrLong
	}
	if n == 0 { // it makes no file longer, and no fuse counts it
		return api.OK
	}
	if at > api.MaxData-n {
		return api.ErrLong
	}
	return f.change(api.Op{Do: api.DoWrite, At: at, B: bytes.Clone(b)})
}

func (f place) cut(size int64) api.Errno {
	if size < 0 {
		return api.ErrArg
	}
	if size > api.MaxData { // and so, if it is above MaxSize
		return api.ErrLong
	}
	return f.change(api.Op{Do: api.DoCut, At: size})
}

// change does what is refused by nothing but the fuse.
func (f place) change(op api.Op) api.Errno {
	if e := f.power.burn(); e != api.OK {
		return e
	}
	op.N = f.number
	f.power.do(op)
	return api.OK
}

func (f place) sync() api.Errno {
	if e := f.power.burn(); e != api.OK {
		return e
	}
	f.medium().settle()
	return api.OK
}
