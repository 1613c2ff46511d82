package journal

import (
	"mantle/api"
	"mantle/face"
)

// below is a file as something that records are done to. What it can't, its handle refuses.
type below struct{ *face.Handle }

func (b below) WriteAt(at int64, data []byte) api.Errno { return put(b.Handle, at, data) }

func (b below) Cut(size int64) api.Errno {
	return b.Do(api.Op{Do: api.DoCut, At: size}).E
}

// put writes to a file, which gets bytes of its own.
func put(h *face.Handle, at int64, b []byte) api.Errno {
	return h.Do(api.Op{Do: api.DoWrite, At: at, B: b}).E
}

// read reads n bytes of a file, by as many reads as it takes, into new memory. It ends where the file tells fewer than it was asked.
func read(h *face.Handle, at int64, n int) ([]byte, api.Errno) {
	var out []byte
	for n > 0 {
		piece := min(n, api.MaxText)
		told := h.Do(api.Op{Do: api.DoRead, At: at, N: piece})
		if told.E != api.OK {
			return nil, told.E
		}
		out = append(out, told.Data[:min(len(told.Data), piece)]...)
		if len(told.Data) < piece {
			break
		}
		at += int64(piece)
		n -= piece
	}
	return out, api.OK
}

// syncWhereItCan asks ahead what the file can: a Sync may answer ErrCan by itself, and that is an error.
func syncWhereItCan(h *face.Handle) api.Errno {
	if h.Can()&api.CanSync == 0 {
		return api.OK
	}
	return h.Do(api.Op{Do: api.DoSync}).E
}

// settle is what is left to do once the mark is there for good: the steps 4 to 7 of Sync. The log is emptied when data needs it no more.
func settle(data, log *face.Handle, l []record) api.Errno {
	if e := do(l, below{data}); e != api.OK {
		return e
	}
	if e := syncWhereItCan(data); e != api.OK {
		return e
	}
	return empty(log)
}

// empty makes a log empty for good.
func empty(log *face.Handle) api.Errno {
	if e := (below{log}).Cut(0); e != api.OK {
		return e
	}
	return syncWhereItCan(log)
}
