package journal_test

import (
	"bytes"
	"testing"

	"mantle/api"
	"mantle/face"
	"mantle/journal"
)

// opened is a write or a cut that was not synced yet.
type opened struct {
	file int
	op   api.Op
}

// machine has two files, data and a log, of which it loses what was not synced when the power goes.
type machine struct {
	now, firm [2][]byte
	open      []opened
	fuse      int // so many more calls that change something are done; below 0: all
	called    int // how many were
}

func machineOf(data, log []byte) *machine {
	m := &machine{fuse: -1}
	for i, b := range [][]byte{data, log} {
		m.now[i], m.firm[i] = bytes.Clone(b), bytes.Clone(b)
	}
	return m
}

// done is b with an op done to it; of a write only its first bytes, if torn is not below 0.
func done(b []byte, op api.Op, torn int) []byte {
	b = bytes.Clone(b)
	size := int(op.At)
	if op.Do == api.DoWrite {
		if torn >= 0 && torn < len(op.B) {
			op.B = op.B[:torn]
		}
		if len(op.B) == 0 {
			return b
		}
		size = max(len(b), int(op.At)+len(op.B))
	}
	b = append(b, make([]byte, max(size-len(b), 0))...)[:size]
	if op.Do == api.DoWrite {
		copy(b[op.At:], op.B)
	}
	return b
}

// kept is which of the open operations come through, and how much of each; below 0: all.
type kept map[int]int

// fail is the machine behind a loss of power.
func (m *machine) fail(k kept) *machine {
	f := machineOf(m.firm[0], m.firm[1])
	for i, o := range m.open {
		if torn, ok := k[i]; ok {
			f.now[o.file] = done(f.now[o.file], o.op, torn)
		}
	}
	return machineOf(f.now[0], f.now[1])
}

// part is one file of a machine.
type part struct {
	m    *machine
	file int
}

func (m *machine) handle(file int) *face.Handle {
	p := &part{m, file}
	return face.Make(p, p, p, nil, p)
}

// burns counts a call; it is not done when the fuse is burnt.
func (p *part) burns() bool {
	if p.m.fuse == 0 {
		return true
	}
	p.m.fuse--
	p.m.called++
	return false
}

func (p *part) Size() int64 { return int64(len(p.m.now[p.file])) }

func (p *part) ReadAt(at int64, n int) ([]byte, api.Errno) {
	b := p.m.now[p.file]
	from := min(at, int64(len(b)))
	return bytes.Clone(b[from:min(from+int64(n), int64(len(b)))]), api.OK
}

func (p *part) change(op api.Op) api.Errno {
	if p.burns() {
		return api.ErrGone
	}
	op.B = bytes.Clone(op.B)
	p.m.open = append(p.m.open, opened{p.file, op})
	p.m.now[p.file] = done(p.m.now[p.file], op, -1)
	return api.OK
}

func (p *part) WriteAt(at int64, b []byte) api.Errno {
	return p.change(api.Op{Do: api.DoWrite, At: at, B: b})
}

func (p *part) Cut(size int64) api.Errno { return p.change(api.Op{Do: api.DoCut, At: size}) }

func (p *part) Sync() api.Errno {
	if p.burns() {
		return api.ErrGone
	}
	p.m.firm[p.file] = bytes.Clone(p.m.now[p.file])
	var left []opened
	for _, o := range p.m.open {
		if o.file != p.file {
			left = append(left, o)
		}
	}
	p.m.open = left
	return api.OK
}

// choices goes over what may be kept of the open operations: with few of them every choice, and in it each write torn at each byte; of many none, all, the first ones, the last ones, all but one, one alone, and each of these with one torn.
func (m *machine) choices(few int, f func(k kept)) {
	n := len(m.open)
	var masks []uint64
	all := uint64(1)<<n - 1
	if n <= few {
		for mask := range all + 1 {
			masks = append(masks, mask)
		}
	} else {
		masks = append(masks, 0, all)
		for i := range n {
			masks = append(masks, 1<<i-1, all&^(1<<i-1), all&^(1<<i), 1<<i)
		}
	}
	for _, mask := range masks {
		k := kept{}
		for i := range n {
			if mask>>i&1 == 1 {
				k[i] = -1
			}
		}
		f(k)
		for i := range n {
			if mask>>i&1 == 1 && m.open[i].op.Do == api.DoWrite {
				for torn := range len(m.open[i].op.B) {
					k[i] = torn
					f(k)
				}
				k[i] = -1
			}
		}
	}
}

// run does ops through a journal until the power goes: first is what data reads as behind the last Sync that was answered OK, then what it would behind the one under way, if one is.
func (m *machine) run(t *testing.T, ops []api.Op) (first, then string) {
	t.Helper()
	h := newJournal(t, m.handle(0), m.handle(1))
	plain := bytes.Clone(m.now[0])
	first = string(plain)
	for _, op := range ops {
		e := h.Do(op).E
		switch {
		case e != api.OK && op.Do == api.DoSync:
			return first, string(plain)
		case e != api.OK:
			return first, first
		case op.Do == api.DoSync:
			first = string(plain)
		default:
			plain = done(plain, op, -1)
		}
	}
	return first, first
}

// wantWhole recovers a machine, and holds that its data is one of the two.
func (m *machine) wantWhole(t *testing.T, first, then string) string {
	t.Helper()
	firm := len(m.open) == 0
	n, e := journal.Recover(m.handle(0), m.handle(1))
	text := string(m.now[0])
	if e != api.OK || text != first && text != then {
		t.Fatalf("behind Recover (%d, %v) data is %q, want %q or %q; log %q", n, e, text, first, then, m.now[1])
	}
	called := m.called
	n, e = journal.Recover(m.handle(0), m.handle(1))
	if n != 0 || e != api.OK || m.called != called || len(m.now[1]) != 0 {
		t.Fatalf("Recover once again answers %d, %v, by %d calls, and the log is %q", n, e, m.called-called, m.now[1])
	}
	if firm && len(m.open) != 0 {
		t.Fatalf("behind Recover %v is open", m.open)
	}
	return text
}

// wantBroken breaks Recover of a machine off at each of its calls, lets the power go once more, and holds that it comes to the same, done again.
func (m *machine) wantBroken(t *testing.T, first, then string, few int) {
	t.Helper()
	want := machineOf(m.now[0], m.now[1]).wantWhole(t, first, then)
	for fuse := 0; ; fuse++ {
		r := machineOf(m.now[0], m.now[1])
		r.fuse = fuse
		n, e := journal.Recover(r.handle(0), r.handle(1))
		if e == api.OK {
			return
		}
		if n != 0 || e != api.ErrGone {
			t.Fatalf("Recover that is broken off answers %d, %v", n, e)
		}
		r.choices(few, func(k kept) {
			if got := r.fail(k).wantWhole(t, first, then); got != want {
				t.Fatalf("behind a Recover that was broken off data is %q, want %q", got, want)
			}
		})
		r.fuse = -1 // or the power stays
		if got := r.wantWhole(t, first, then); got != want {
			t.Fatalf("behind a Recover that was done again data is %q, want %q", got, want)
		}
	}
}

var syncOp = api.Op{Do: api.DoSync}

// powerScripts are ops through a journal over abcdef.
func powerScripts() [][]api.Op {
	return [][]api.Op{
		{write(1, "xy"), cut(4), syncOp},
		{write(1, "XY"), cut(4), write(6, "Z"), syncOp, write(0, "q"), cut(9), syncOp, write(2, "m")},
		{cut(2), write(4, "ab"), cut(5), cut(8), syncOp, syncOp, cut(0), syncOp},
		{write(0, "uvwxyz"), syncOp, write(3, "\x00\x00\x00"), write(2, "12"), syncOp, write(9, "end"), syncOp},
		{write(1, "long enough to be torn"), write(3, "t"), syncOp, cut(1), syncOp},
	}
}

// The power goes ahead of, in and behind each single call below; of the open operations none, some, all are kept, and one is torn at each byte.
func TestP137EachCall(t *testing.T) {
	for i, ops := range powerScripts() {
		whole := machineOf([]byte("abcdef"), nil)
		whole.run(t, ops)
		seen := [2]int{}
		for fuse := range whole.called + 1 {
			m := machineOf([]byte("abcdef"), nil)
			m.fuse = fuse
			first, then := m.run(t, ops)
			m.choices(9, func(k kept) {
				if text := m.fail(k).wantWhole(t, first, then); first != then && text == first {
					seen[0]++
				} else if first != then {
					seen[1]++
				}
			})
			m.fuse = -1
			m.wantWhole(t, first, then) // or the power stays
		}
		if seen[0] == 0 || seen[1] == 0 {
			t.Errorf("script %d: in the middle of a Sync data is as ahead of it %d times, as behind it %d times", i, seen[0], seen[1])
		}
	}
}

// Recover itself is broken off at each of its calls, with another loss of power, and done again.
func TestP137RecoverBroken(t *testing.T) {
	for _, ops := range powerScripts() {
		whole := machineOf([]byte("abcdef"), nil)
		whole.run(t, ops)
		for fuse := range whole.called + 1 {
			m := machineOf([]byte("abcdef"), nil)
			m.fuse = fuse
			first, then := m.run(t, ops)
			m.choices(5, func(k kept) { m.fail(k).wantBroken(t, first, then, 4) })
		}
	}
}

// Behind a Sync that was answered OK nothing of it is lost, whatever is kept of what comes then.
func TestP137Stays(t *testing.T) {
	ops := powerScripts()[1]
	m := machineOf([]byte("abcdef"), nil)
	first, then := m.run(t, ops)
	if first != then || first != "qXYd\x00\x00Z\x00\x00" {
		t.Fatalf("%q, %q", first, then)
	}
	m.choices(9, func(k kept) {
		if text := m.fail(k).wantWhole(t, first, first); text != first {
			t.Fatalf("data is %q", text)
		}
	})
}

// kept is any choice of the open operations, torn or whole.
func (c *chance) kept(m *machine) kept {
	k := kept{}
	for i, o := range m.open {
		if c.below(3) > 0 {
			k[i] = c.below(len(o.op.B)+3) - 1
		}
	}
	return k
}

// Any ops, the power going at any time and any number of times, and a new journal behind each Recover.
func TestP137Chance(t *testing.T) {
	c := chance(137)
	for range 4000 {
		m := machineOf([]byte(letters(c.below(20))), nil)
		for range 4 {
			var ops []api.Op
			for range c.below(12) {
				switch op := c.op(); op.Do {
				case api.DoWrite, api.DoCut, api.DoSync:
					op.At = max(op.At, 0)
					ops = append(ops, op)
				}
			}
			m.fuse = c.below(40)
			first, then := m.run(t, ops)
			m = m.fail(c.kept(m))
			for c.below(3) == 0 {
				m.fuse = c.below(6)
				journal.Recover(m.handle(0), m.handle(1))
				m = m.fail(c.kept(m))
			}
			m.wantWhole(t, first, then)
		}
	}
}

// A write that the log refuses, and the record that takes its place: the log's leavings do no harm.
func TestP137AfterRefusals(t *testing.T) {
	c := chance(1372)
	for range 3000 {
		m := machineOf([]byte("abcdef"), nil)
		refused := 0
		log := m.handle(1)
		flaky := (&odd{
			size: log.File().Size,
			read: log.File().ReadAt,
			write: func(at int64, b []byte) api.Errno {
				if at >= 16 && c.below(4) == 0 { // what was torn off it stays
					refused++
					log.Do(api.Op{Do: api.DoWrite, At: at, B: b[:c.below(len(b)+1)]})
					return api.ErrFull
				}
				return log.Do(api.Op{Do: api.DoWrite, At: at, B: b}).E
			},
			cut: func(size int64) api.Errno { return log.Do(api.Op{Do: api.DoCut, At: size}).E },
		})
		h := newJournal(t, m.handle(0), face.Make(flaky, flaky, flaky, nil, log.File().(api.Syncer)))
		plain := []byte("abcdef")
		for range 6 {
			if op := c.op(); op.Do == api.DoWrite || op.Do == api.DoCut {
				if op.At = max(op.At, 0); h.Do(op).E == api.OK {
					plain = done(plain, op, -1)
				}
			}
		}
		m.fuse = c.below(14)
		first, then := "abcdef", string(plain)
		if h.Do(syncOp).E == api.OK {
			first = then
		}
		m.fail(c.kept(m)).wantWhole(t, first, then)
	}
}
