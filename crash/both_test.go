package crash_test

import (
	"bytes"
	"math"
	"slices"
	"testing"

	"mantle/api"
	"mantle/crash"
	"mantle/face"
)

// newPower is a machine that New must take.
func newPower(t *testing.T, files ...string) *crash.Power {
	t.Helper()
	var l [][]byte
	for _, s := range files {
		l = append(l, []byte(s))
	}
	p, e := crash.New(l)
	if p == nil || e != api.OK {
		t.Fatalf("New of %d files answers %v, %v", len(files), p, e)
	}
	return p
}

// wantNew holds that New refuses these files.
func wantNew(t *testing.T, files [][]byte, want api.Errno) {
	t.Helper()
	if p, e := crash.New(files); p != nil || e != want {
		t.Errorf("New of %d files answers %v, %v, want %v", len(files), p, e, want)
	}
}

func wantTold(t *testing.T, h *face.Handle, op api.Op, want api.Told) {
	t.Helper()
	if got := h.Do(op); !sameTold(got, want) {
		t.Fatalf("%s tells %v %d %d, %d bytes %.50q, want %v %d %d, %d bytes %.50q", text(op), got.E, got.N, got.M, len(got.Data), got.Data, want.E, want.N, want.M, len(want.Data), want.Data)
	}
}

func sameTold(a, b api.Told) bool {
	return a.E == b.E && a.N == b.N && a.M == b.M && bytes.Equal(a.Data, b.Data)
}

// wantE holds what an op answers that tells nothing else.
func wantE(t *testing.T, h *face.Handle, op api.Op, want api.Errno) {
	t.Helper()
	wantTold(t, h, op, api.Told{E: want})
}

// wantImages holds the bytes of all files, and that there are no more.
func wantImages(t *testing.T, p *crash.Power, want ...string) {
	t.Helper()
	for i, s := range want {
		if b := p.Image(i); string(b) != s {
			t.Fatalf("file %d has %d bytes %.50q, want %d bytes %.50q", i, len(b), b, len(s), s)
		}
	}
	for _, i := range []int{math.MinInt, -1, len(want), len(want) + 1, math.MaxInt} {
		if b, h := p.Image(i), p.Handle(i); len(b) != 0 || h != nil {
			t.Fatalf("of %d files the file %d has %q, and the handle %v", len(want), i, b, h)
		}
	}
}

// wantOpen holds the open operations.
func wantOpen(t *testing.T, p *crash.Power, want ...api.Op) {
	t.Helper()
	got := p.Open()
	if !slices.EqualFunc(got, want, sameOp) {
		t.Fatalf("open is %s, want %s", texts(got), texts(want))
	}
}

func sameOp(a, b api.Op) bool {
	return a.Do == b.Do && a.At == b.At && a.N == b.N && bytes.Equal(a.B, b.B)
}

// of is an op of a file, as Open tells it.
func of(file int, op api.Op) api.Op {
	op.N = file
	return op
}

// images are the bytes of all files.
func (p *page) images() (l []string) {
	for i := range p.first {
		l = append(l, string(p.image(i)))
	}
	return l
}

// wantAs holds a machine against one on paper.
func wantAs(t *testing.T, p *crash.Power, want *page) {
	t.Helper()
	wantImages(t, p, want.images()...)
	wantOpen(t, p, want.open()...)
	for i := range want.first {
		wantTold(t, p.Handle(i), size(), want.do(i, size()))
		wantTold(t, p.Handle(i), read(0, api.MaxText), want.do(i, read(0, api.MaxText)))
	}
}

// both is a machine, and the same on paper.
type both struct {
	power   *crash.Power
	page    *page
	handles [][]*face.Handle // of each file, as many as one likes
}

func bothOf(t *testing.T, files ...string) *both {
	t.Helper()
	return paired(newPower(t, files...), pageOf(files...))
}

// paired takes two handles of each file.
func paired(p *crash.Power, on *page) *both {
	x := &both{power: p, page: on}
	for i := range on.first {
		x.handles = append(x.handles, []*face.Handle{p.Handle(i), p.Handle(i)})
	}
	return x
}

// want does it to a file of both, through one of its handles, and holds that both tell the same, which it tells.
func (x *both) want(t *testing.T, file, handle int, op api.Op) api.Told {
	t.Helper()
	want := x.page.do(file, op)
	wantTold(t, x.handles[file][handle], op, want)
	return want
}

// ops does these to a file, through its first handle.
func (x *both) ops(t *testing.T, file int, l ...api.Op) {
	t.Helper()
	for _, op := range l {
		x.want(t, file, 0, op)
	}
}

func (x *both) fuse(n int) {
	x.power.Fuse(n)
	x.page.fuse = max(n, 0)
}

// fail is both behind a loss of power. It holds that they are the same then, and that those ahead of it stay as they are.
func (x *both) fail(t *testing.T, kept, torn []int) *both {
	t.Helper()
	y := paired(x.power.Fail(kept, torn), x.page.fail(kept, torn))
	wantAs(t, y.power, y.page)
	wantAs(t, x.power, x.page)
	if t.Failed() {
		t.Fatalf("Fail(%v, %v)", kept, torn)
	}
	return y
}

// wantAs holds that both are the same.
func (x *both) wantAs(t *testing.T) {
	t.Helper()
	wantAs(t, x.power, x.page)
}

// step does anything to both, through any handle.
func (x *both) step(t *testing.T, c *chance) {
	t.Helper()
	x.want(t, c.below(len(x.handles)), c.below(2), c.op())
}
