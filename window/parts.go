package window

import "mantle/api"

// place is where a window lies: from at on, n long. Both together are at most MaxSize.
type place struct{ at, n int64 }

// file is a window's file.
type file struct {
	place
	below api.File
}

// Size: P5.2.
func (f *file) Size() int64 {
	size := f.below.Size()
	if size <= f.at {
		return 0
	}
	return min(size-f.at, f.n)
}

// ReadAt: P5.2. A read of none goes below, too: the file there may refuse to be read at all.
func (f *file) ReadAt(p int64, k int) ([]byte, api.Errno) {
	if p < 0 || k < 0 {
		return nil, api.ErrArg
	}
	if k > api.MaxText {
		return nil, api.ErrLong
	}
	k = int(min(int64(k), max(f.Size()-p, 0)))
	b, e := f.below.ReadAt(f.at+min(p, f.n), k)
	if e != api.OK {
		return nil, e
	}
	return b[:min(len(b), k)], api.OK
}

// writer is what can be written of a window.
type writer struct {
	place
	below api.Writer
}

// WriteAt: P5.3. Only an empty b can lie so far behind n that its place below is behind MaxSize; it is taken there at MaxSize, where it may stand.
func (w *writer) WriteAt(p int64, b []byte) api.Errno {
	k := int64(len(b))
	if p < 0 {
		return api.ErrArg
	}
	if k > api.MaxText || p > api.MaxSize-k || k > 0 && p > w.n-k {
		return api.ErrLong
	}
	return w.below.WriteAt(min(w.at+p, api.MaxSize), b)
}

// holer tells where a window's holes are.
type holer struct {
	file
	below api.Holer
}

// Next: P5.2.
func (h *holer) Next(p int64) (from, to int64) {
	p = max(p, 0)
	size := h.Size()
	if p >= size {
		return size, size
	}
	from, to = h.below.Next(h.at + p)
	from, to = max(from, h.at+p), min(to, h.at+size)
	if from >= to {
		return size, size
	}
	return from - h.at, to - h.at
}

// alone is a file that is read alone: what it embeds is all that it passes on.
type alone struct{ api.File }

// telling is one that tells its holes, too.
type telling struct {
	alone
	api.Holer
}
