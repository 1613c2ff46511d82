package crash_test

import (
	"bytes"
	"fmt"
	"math"
	"slices"

	"mantle/api"
)

// page is a machine on paper: it remembers what it had at first and every call that was done, and reckons all else out of that, word by word.
type page struct {
	first [][]byte
	done  []api.Op // writes, cuts and syncs; N is the file
	fuse  int      // below 0: none
}

func pageOf(files ...string) *page {
	p := &page{fuse: -1}
	for _, s := range files {
		p.first = append(p.first, []byte(s))
	}
	return p
}

// laid is b with a write or a cut done to it.
func laid(b []byte, op api.Op) []byte {
	b = bytes.Clone(b)
	if op.Do == api.DoCut {
		for int64(len(b)) < op.At {
			b = append(b, 0)
		}
		return b[:op.At]
	}
	for i, x := range op.B {
		for len(b) <= int(op.At)+i {
			b = append(b, 0)
		}
		b[int(op.At)+i] = x
	}
	return b
}

// synced is how many of the calls that were done stand ahead of the last Sync of a file, with it.
func (p *page) synced(file int) (n int) {
	for i, op := range p.done {
		if op.Do == api.DoSync && op.N == file {
			n = i + 1
		}
	}
	return n
}

// after is a file behind the first calls that were done.
func (p *page) after(file, calls int) []byte {
	b := p.first[file]
	for _, op := range p.done[:calls] {
		if op.N == file && op.Do != api.DoSync {
			b = laid(b, op)
		}
	}
	return b
}

func (p *page) image(file int) []byte { return p.after(file, len(p.done)) }

func (p *page) firm(file int) []byte { return p.after(file, p.synced(file)) }

func (p *page) open() (l []api.Op) {
	for i, op := range p.done {
		if op.Do != api.DoSync && i >= p.synced(op.N) {
			l = append(l, op)
		}
	}
	return l
}

// fail is P23.3.
func (p *page) fail(kept, torn []int) *page {
	q := &page{fuse: -1}
	for file := range p.first {
		q.first = append(q.first, p.firm(file))
	}
	for number, op := range p.open() {
		i := slices.Index(kept, number)
		if i < 0 {
			continue
		}
		if op.Do == api.DoWrite && i < len(torn) && torn[i] >= 0 && torn[i] <= len(op.B) {
			op.B = op.B[:torn[i]]
		}
		q.first[op.N] = laid(q.first[op.N], op)
	}
	return q
}

// refuses is the error of a call by the file's rules, and by the bound of MaxData bytes; the fuse is not asked.
func (p *page) refuses(op api.Op) api.Errno {
	n := int64(len(op.B))
	switch op.Do {
	case api.DoRead:
		if op.At < 0 || op.N < 0 {
			return api.ErrArg
		}
		if op.N > api.MaxText {
			return api.ErrLong
		}
	case api.DoWrite:
		if op.At < 0 {
			return api.ErrArg
		}
		if n > api.MaxText || op.At > api.MaxSize || op.At+n > api.MaxSize {
			return api.ErrLong
		}
		if n > 0 && op.At+n > api.MaxData {
			return api.ErrLong
		}
	case api.DoCut:
		if op.At < 0 {
			return api.ErrArg
		}
		if op.At > api.MaxSize || op.At > api.MaxData {
			return api.ErrLong
		}
	case api.DoNext:
		return api.ErrCan
	case api.DoSize, api.DoSync:
	default:
		return api.ErrArg
	}
	return api.OK
}

// counted tells whether a fuse counts an op that is not refused.
func counted(op api.Op) bool {
	return op.Do == api.DoWrite && len(op.B) > 0 || op.Do == api.DoCut || op.Do == api.DoSync
}

// do is what a handle of a file tells of op.
func (p *page) do(file int, op api.Op) api.Told {
	if e := p.refuses(op); e != api.OK {
		return api.Told{E: e}
	}
	if counted(op) {
		return api.Told{E: p.change(file, op)}
	}
	switch b := p.image(file); op.Do {
	case api.DoSize:
		return api.Told{N: int64(len(b))}
	case api.DoRead:
		from := min(op.At, int64(len(b)))
		return api.Told{Data: b[from:min(from+int64(op.N), int64(len(b)))]}
	}
	return api.Told{}
}

// change does what a fuse counts, as long as it is not burnt.
func (p *page) change(file int, op api.Op) api.Errno {
	if p.fuse == 0 {
		return api.ErrGone
	}
	if p.fuse > 0 {
		p.fuse--
	}
	op.N, op.B = file, bytes.Clone(op.B)
	if op.Do != api.DoWrite { // a cut has no bytes, whatever the op says
		op.B = nil
	}
	p.done = append(p.done, op)
	return api.OK
}

// text is an op as a failed test tells it.
func text(op api.Op) string {
	if op.Do < 0 || op.Do > 5 {
		return fmt.Sprint("Do ", op.Do)
	}
	name := []string{"Size", "ReadAt", "WriteAt", "Cut", "Next", "Sync"}[op.Do]
	return fmt.Sprintf("%s(%d, %d, %d bytes %.30q)", name, op.At, op.N, len(op.B), op.B)
}

// texts are ops as a failed test tells them; N is a file.
func texts(l []api.Op) string {
	out := fmt.Sprint(len(l), " operations")
	for _, op := range l[:min(len(l), 9)] {
		out += "; " + text(op)
	}
	return out
}

func write(at int64, s string) api.Op { return api.Op{Do: api.DoWrite, At: at, B: []byte(s)} }

func cut(size int64) api.Op { return api.Op{Do: api.DoCut, At: size} }

func read(at int64, n int) api.Op { return api.Op{Do: api.DoRead, At: at, N: n} }

func sync() api.Op { return api.Op{Do: api.DoSync} }

func size() api.Op { return api.Op{Do: api.DoSize} }

// letters are n bytes, no two near ones of which are the same, and no two texts of MaxText.
func letters(n int) string {
	b := make([]byte, n)
	for i := range b {
		b[i] = byte('!' + (i+i>>16)%89)
	}
	return string(b)
}

// chance tells numbers that are the same at each run.
type chance uint64

func (c *chance) below(n int) int {
	*c = *c*6364136223846793005 + 1442695040888963407
	return int(uint64(*c) >> 33 % uint64(n))
}

// files are from 1 to most of them, of few bytes.
func (c *chance) files(most int) (l []string) {
	for range 1 + c.below(most) {
		l = append(l, letters(c.below(12)))
	}
	return l
}

// op is any op, most of them such as change something, now and then a wrong one.
func (c *chance) op() api.Op {
	b := []byte(letters(9))[:c.below(9)]
	for i := range b {
		b[i] += byte(c.below(30))
	}
	op := api.Op{Do: int8(c.below(8) - 1), At: int64(c.below(24) - 1), N: c.below(30) - 2, B: b}
	if c.below(3) == 0 {
		op.Do = api.DoWrite
	}
	if c.below(40) == 0 {
		op.At = []int64{api.MaxData + 1, api.MaxSize - 2, api.MaxSize, api.MaxSize + 1, math.MaxInt64}[c.below(5)]
	}
	return op
}

// choice is which of so many open operations are kept, in any order, now and then twice or not there, and how they are torn.
func (c *chance) choice(open int) (kept, torn []int) {
	for range c.below(open + 3) {
		kept = append(kept, c.below(open+4)-2)
	}
	for range c.below(len(kept) + 3) {
		torn = append(torn, c.below(12)-2)
	}
	return kept, torn
}
