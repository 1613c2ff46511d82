package buffer

import "bytes"

// write is a write that was taken, and that the file below has not got yet. It is never empty.
type write struct {
	at   int64
	data []byte
}

func (w write) end() int64 { return w.at + int64(len(w.data)) }

// gathered are writes in their order. Each write through the buffer asks for the two sums over them: they are kept, so that it need not go over the list.
type gathered struct {
	writes []write
	total  int   // bytes of all of them, those that lie over one another, too
	end    int64 // where the farthest one ends, 0 if there is none
}

// add gathers one more. The caller may do what it likes with b afterwards.
func (g *gathered) add(at int64, b []byte) {
	w := write{at, bytes.Clone(b)}
	g.writes = append(g.writes, w)
	g.count(w)
}

func (g *gathered) count(w write) {
	g.total += len(w.data)
	g.end = max(g.end, w.end())
}

// drop gathers the first n no more. The room behind those that are left is cleared: it would hold their bytes for as long as the buffer is there.
func (g *gathered) drop(n int) {
	left := copy(g.writes, g.writes[n:])
	clear(g.writes[left:])
	g.writes = g.writes[:left]
	g.total, g.end = 0, 0
	for _, w := range g.writes {
		g.count(w)
	}
}

// over lays the writes over what the file below tells of the n bytes from at on. Somebody else may have cut that file: where a write lies behind its end, there are noughts between.
func (g *gathered) over(told []byte, at int64, n int) []byte {
	told = told[:min(len(told), n)]
	out := make([]byte, max(int64(len(told)), min(g.end-at, int64(n))))
	copy(out, told)
	for _, w := range g.writes {
		to, from := max(w.at-at, 0), max(at-w.at, 0)
		if to < int64(len(out)) && from < int64(len(w.data)) {
			copy(out[to:], w.data[from:])
		}
	}
	return out
}
