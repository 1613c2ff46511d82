package tee

import (
	"bytes"

	"mantle/api"
)

// pair is a tee's file: the first file is embedded, and its Size and Next come up as they are; over its other methods stand those of the pair.
type pair struct {
	below
	mirror below
}

// ReadAt: P7.1.
func (p *pair) ReadAt(at int64, n int) ([]byte, api.Errno) {
	if at < 0 || n < 0 {
		return nil, api.ErrArg
	}
	if n > api.MaxText {
		return nil, api.ErrLong
	}
	b, e := p.below.ReadAt(at, n)
	if e != api.OK {
		return nil, e
	}
	return b, api.OK
}

// WriteAt: P7.1. The mirror gets bytes of its own: whatever it does to them, the first file is handed what the caller wrote. An empty b goes to both, too, since they may refuse it.
func (p *pair) WriteAt(at int64, b []byte) api.Errno {
	n := int64(len(b))
	if at < 0 {
		return api.ErrArg
	}
	if n > api.MaxText || at > api.MaxSize-n {
		return api.ErrLong
	}
	if e := p.mirror.WriteAt(at, bytes.Clone(b)); e != api.OK {
		return e
	}
	return p.below.WriteAt(at, b)
}

// Cut: P7.1.
func (p *pair) Cut(size int64) api.Errno {
	if size < 0 {
		return api.ErrArg
	}
	if size > api.MaxSize {
		return api.ErrLong
	}
	if e := p.mirror.Cut(size); e != api.OK {
		return e
	}
	return p.below.Cut(size)
}

// Sync: P7.1.
func (p *pair) Sync() api.Errno {
	if e := p.mirror.Sync(); e != api.OK {
		return e
	}
	return p.below.Sync()
}
