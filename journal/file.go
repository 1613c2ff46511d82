package journal

import (
	"bytes"

	"mantle/api"
	"mantle/face"
)

// file is the file of a journal. The log is written and not read again: what it has of records is kept here, too.
type file struct {
	data, log *face.Handle
	records   []record
	long      int // bytes of the records in the log
	spoilt    bool
}

// Size: P13.2.
func (f *file) Size() int64 {
	size := end(f.data.File().Size())
	do(f.records, &size)
	return int64(size)
}

// ReadAt: P13.2. Data is asked wherever it has bytes, be they cut off or written over by records: it may refuse.
func (f *file) ReadAt(at int64, n int) ([]byte, api.Errno) {
	if at < 0 || n < 0 {
		return nil, api.ErrArg
	}
	if n > api.MaxText {
		return nil, api.ErrLong
	}
	v := view{at: at, most: int64(n)}
	if at < f.data.File().Size() {
		b, e := read(f.data, at, n)
		if e != api.OK {
			return nil, e
		}
		v.bytes = b
	}
	do(f.records, &v)
	return v.bytes, api.OK
}

// WriteAt: P13.3.
func (f *file) WriteAt(at int64, b []byte) api.Errno {
	n := int64(len(b))
	if at < 0 {
		return api.ErrArg
	}
	if n > api.MaxText || at > api.MaxSize-n {
		return api.ErrLong
	}
	if n == 0 {
		return api.OK
	}
	return f.add(write{at, bytes.Clone(b)})
}

// Cut: P13.3.
func (f *file) Cut(size int64) api.Errno {
	if size < 0 {
		return api.ErrArg
	}
	if size > api.MaxSize {
		return api.ErrLong
	}
	return f.add(cut{size})
}

// add writes a record down. If the log refuses a part of it, the next record stands in its place.
func (f *file) add(r record) api.Errno {
	if f.spoilt {
		return api.ErrGone
	}
	head, body := r.told()
	long := len(head) + len(body)
	if f.long+long > api.MaxData {
		return api.ErrLong
	}
	at := int64(markSize + f.long)
	if e := put(f.log, at, head); e != api.OK {
		return e
	}
	if len(body) > 0 {
		if e := put(f.log, at+headSize, body); e != api.OK {
			return e
		}
	}
	f.records = append(f.records, r)
	f.long += long
	return api.OK
}

// Sync: P13.4. A spoilt journal keeps its records: done once more to what data has got of them, they tell what they told.
func (f *file) Sync() api.Errno {
	if f.spoilt {
		return api.ErrGone
	}
	if len(f.records) == 0 {
		return syncWhereItCan(f.data)
	}
	if e := f.commit(); e != api.OK {
		f.spoilt = true
		return e
	}
	f.records, f.long = nil, 0
	return api.OK
}

// commit goes through the seven steps. The records are there for good ahead of the mark, and the mark ahead of anything that is done to data.
func (f *file) commit() api.Errno {
	if e := syncWhereItCan(f.log); e != api.OK {
		return e
	}
	m := markOf(f.long)
	if e := put(f.log, 0, m[:]); e != api.OK {
		return e
	}
	if e := syncWhereItCan(f.log); e != api.OK {
		return e
	}
	return settle(f.data, f.log, f.records)
}
