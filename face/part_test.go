package face_test

import (
	"fmt"
	"reflect"
	"slices"
	"testing"

	"mantle/api"
	"mantle/face"
)

// notes are the calls that parts were asked, in order.
type notes struct{ list []string }

func (n *notes) add(s string) { n.list = append(n.list, s) }

// take tells the notes, and forgets them.
func (n *notes) take() []string {
	l := n.list
	n.list = nil
	return l
}

// part can all, and more, and notes by its name what it is asked; what it tells is its own.
type part struct {
	name     string
	notes    *notes
	size     int64
	data     []byte
	from, to int64
	e        api.Errno
}

func (p *part) Size() int64 {
	p.notes.add(p.name + " Size")
	return p.size
}

func (p *part) ReadAt(at int64, n int) ([]byte, api.Errno) {
	p.notes.add(fmt.Sprint(p.name, " ReadAt ", at, " ", n))
	return p.data, p.e
}

func (p *part) WriteAt(at int64, b []byte) api.Errno {
	p.notes.add(fmt.Sprint(p.name, " WriteAt ", at, " ", b))
	return p.e
}

func (p *part) Cut(size int64) api.Errno {
	p.notes.add(fmt.Sprint(p.name, " Cut ", size))
	return p.e
}

func (p *part) Next(at int64) (from, to int64) {
	p.notes.add(fmt.Sprint(p.name, " Next ", at))
	return p.from, p.to
}

func (p *part) Sync() api.Errno {
	p.notes.add(p.name + " Sync")
	return p.e
}

func (p *part) Punch() {}

func (p *part) String() string { return p.name }

// five are the five parts of a handle, each a value of its own that can all.
type five struct {
	notes      notes
	f          *part
	w, c, h, s *part
}

func newFive() *five {
	l := &five{}
	l.f = &part{name: "f", notes: &l.notes, size: 11, data: []byte{1, 2, 3}, from: 12, to: 13, e: 41}
	l.w = &part{name: "w", notes: &l.notes, size: 21, data: []byte{2}, from: 22, to: 23, e: 42}
	l.c = &part{name: "c", notes: &l.notes, size: 31, data: []byte{3}, from: 32, to: 33, e: 43}
	l.h = &part{name: "h", notes: &l.notes, size: 41, data: []byte{4}, from: 42, to: 43, e: 44}
	l.s = &part{name: "s", notes: &l.notes, size: 51, data: []byte{5}, from: 52, to: 53, e: 45}
	return l
}

// make makes a handle of those parts whose bit is set.
func (l *five) make(can uint8) *face.Handle {
	w, c, h, s := pick(can, l.w, l.c, l.h, l.s)
	return face.Make(l.f, w, c, h, s)
}

// pick leaves nil interfaces where a bit is not set.
func pick(can uint8, w api.Writer, c api.Cutter, h api.Holer, s api.Syncer) (api.Writer, api.Cutter, api.Holer, api.Syncer) {
	if can&1 == 0 {
		w = nil
	}
	if can&2 == 0 {
		c = nil
	}
	if can&4 == 0 {
		h = nil
	}
	if can&8 == 0 {
		s = nil
	}
	return w, c, h, s
}

// asserted is what the file is, found out by assertions here.
func asserted(f api.File) uint8 {
	can := uint8(0)
	if _, ok := f.(api.Writer); ok {
		can += 1
	}
	if _, ok := f.(api.Cutter); ok {
		can += 2
	}
	if _, ok := f.(api.Holer); ok {
		can += 4
	}
	if _, ok := f.(api.Syncer); ok {
		can += 8
	}
	return can
}

// needs is the bit that an op needs, by the chapter's table; known is false of a number that is none.
func needs(do int8) (bit uint8, known bool) {
	if do < 0 || do > 5 {
		return 0, false
	}
	return [6]uint8{0, 0, 1, 2, 4, 8}[do], true
}

// wantTold is what l's handle with these parts tells of op, and which call is made.
func (l *five) wantTold(can uint8, op api.Op) (want api.Told, calls []string, fell bool) {
	bit, known := needs(op.Do)
	if !known {
		return api.Told{E: 2}, nil, false
	}
	if can&bit != bit {
		return api.Told{E: 5}, nil, true
	}
	switch op.Do {
	case 0:
		return api.Told{N: l.f.size}, []string{"f Size"}, false
	case 1:
		return api.Told{E: l.f.e, Data: l.f.data}, []string{fmt.Sprint("f ReadAt ", op.At, " ", op.N)}, false
	case 2:
		return api.Told{E: l.w.e}, []string{fmt.Sprint("w WriteAt ", op.At, " ", op.B)}, false
	case 3:
		return api.Told{E: l.c.e}, []string{fmt.Sprint("c Cut ", op.At)}, false
	case 4:
		return api.Told{N: l.h.from, M: l.h.to}, []string{fmt.Sprint("h Next ", op.At)}, false
	default:
		return api.Told{E: l.s.e}, []string{"s Sync"}, false
	}
}

func sameTold(a, b api.Told) bool {
	return a.E == b.E && a.N == b.N && a.M == b.M && slices.Equal(a.Data, b.Data)
}

// methods are the names of all methods of a file's type, sorted.
func methods(f api.File) []string {
	t := reflect.TypeOf(f)
	var l []string
	for i := range t.NumMethod() {
		l = append(l, t.Method(i).Name)
	}
	slices.Sort(l)
	return l
}

func wantNotes(t *testing.T, n *notes, call string, want ...string) {
	t.Helper()
	if l := n.take(); !slices.Equal(l, want) {
		t.Errorf("%s: called %q, want %q", call, l, want)
	}
}
