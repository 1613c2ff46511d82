package tee

import (
	"bytes"
	"slices"

	"mantle/api"
)

// Log is what was done to a file.
type Log struct {
	ops   []api.Op // at most MaxOps of them; when these are full, the next one takes the oldest one's place
	first int      // where the oldest one stands
}

// Ops: P7.3.
func (l *Log) Ops() []api.Op {
	if l == nil {
		return nil
	}
	out := slices.Concat(l.ops[l.first:], l.ops[:l.first])
	for i := range out {
		out[i].B = bytes.Clone(out[i].B)
	}
	return out
}

// note writes op down. Its bytes are the log's from then on.
func (l *Log) note(op api.Op) {
	if len(l.ops) < api.MaxOps {
		l.ops = append(l.ops, op)
		return
	}
	l.ops[l.first] = op
	l.first = (l.first + 1) % api.MaxOps
}

// watched is the file of a log: all that the embedded file below can is hidden by methods that write the call down, and hand it on as it is.
type watched struct {
	below
	log *Log
}

// Size: P7.2.
func (w *watched) Size() int64 {
	w.log.note(api.Op{Do: api.DoSize})
	return w.below.Size()
}

// ReadAt: P7.2.
func (w *watched) ReadAt(at int64, n int) ([]byte, api.Errno) {
	w.log.note(api.Op{Do: api.DoRead, At: at, N: n})
	return w.below.ReadAt(at, n)
}

// WriteAt: P7.2.
func (w *watched) WriteAt(at int64, b []byte) api.Errno {
	w.log.note(api.Op{Do: api.DoWrite, At: at, B: bytes.Clone(b)})
	return w.below.WriteAt(at, b)
}

// Cut: P7.2.
func (w *watched) Cut(size int64) api.Errno {
	w.log.note(api.Op{Do: api.DoCut, At: size})
	return w.below.Cut(size)
}

// Next: P7.2.
func (w *watched) Next(at int64) (from, to int64) {
	w.log.note(api.Op{Do: api.DoNext, At: at})
	return w.below.Next(at)
}

// Sync: P7.2.
func (w *watched) Sync() api.Errno {
	w.log.note(api.Op{Do: api.DoSync})
	return w.below.Sync()
}
