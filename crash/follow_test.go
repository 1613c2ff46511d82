package crash_test

import (
	"testing"

	"mantle/api"
	"mantle/crash"
	"mantle/face"
	"mantle/memory"
)

// imagesOf are the bytes of the first files of a machine.
func imagesOf(p *crash.Power, files int) (l []string) {
	for i := range files {
		l = append(l, string(p.Image(i)))
	}
	return l
}

// numbersBelow are 0 and so on, in any order.
func (c *chance) numbersBelow(n int) []int {
	l := make([]int, n)
	for i := range l {
		j := c.below(i + 1)
		l[i] = l[j]
		l[j] = i
	}
	return l
}

// untorn are lists that tear nothing of these.
func (c *chance) untorn(open []api.Op, kept []int) []int {
	var torn []int
	for _, number := range kept[:c.below(len(kept)+1)] {
		torn = append(torn, []int{-1, -5, len(open[number].B), len(open[number].B) + 1, 1 << 20}[c.below(5)])
	}
	return torn
}

// machine is one whose Images are noted at each Sync.
type machine struct {
	power *crash.Power
	files int
	firm  []string
}

func (c *chance) machine(t *testing.T) *machine {
	t.Helper()
	l := c.files(8)
	return &machine{newPower(t, l...), len(l), l}
}

func (m *machine) step(c *chance) {
	file, op := c.below(m.files), c.op()
	if m.power.Handle(file).Do(op).E == api.OK && op.Do == api.DoSync {
		m.firm[file] = string(m.power.Image(file))
	}
}

// With all kept and none torn nothing is lost; with none kept each file has its firm bytes. What is a Fail already loses nothing more.
func TestP235(t *testing.T) {
	for seed := range chance(500) {
		c := seed
		m := c.machine(t)
		for range 40 {
			m.step(&c)
			if c.below(4) > 0 {
				continue
			}
			open, all := m.power.Open(), c.numbersBelow(len(m.power.Open()))
			wantImages(t, m.power.Fail(all, nil), imagesOf(m.power, m.files)...)
			wantImages(t, m.power.Fail(all, c.untorn(open, all)), imagesOf(m.power, m.files)...)
			wantImages(t, m.power.Fail(nil, all), m.firm...)
			kept, torn := c.choice(len(open))
			m.wantFirm(t, m.power.Fail(kept, torn), &c)
		}
		if t.Failed() {
			t.Fatalf("seed %d", seed)
		}
	}
}

// wantFirm holds that every Fail of p has p's Images, and has nothing open.
func (m *machine) wantFirm(t *testing.T, p *crash.Power, c *chance) {
	t.Helper()
	for range 3 {
		kept, torn := c.choice(5)
		q := p.Fail(kept, torn)
		wantImages(t, q, imagesOf(p, m.files)...)
		wantOpen(t, q)
	}
	wantImages(t, p.Fail(nil, nil), imagesOf(p, m.files)...)
	wantOpen(t, p)
}

// Behind Syncs of all files every Fail has the machine's Images.
func TestP235Synced(t *testing.T) {
	for seed := range chance(300) {
		c := seed
		m := c.machine(t)
		for range 3 {
			for range c.below(30) {
				m.step(&c)
			}
			for _, file := range c.numbersBelow(m.files) {
				wantE(t, m.power.Handle(file), sync(), api.OK)
				m.firm[file] = string(m.power.Image(file))
			}
			m.wantFirm(t, m.power, &c)
			wantImages(t, m.power, m.firm...)
		}
		if t.Failed() {
			t.Fatalf("seed %d", seed)
		}
	}
}

// memories are files of memory with these texts, which can write, cut and sync.
func memories(t *testing.T, texts []string) (l []*face.Handle) {
	t.Helper()
	for _, s := range texts {
		h, e := memory.New([]byte(s), api.CanWrite|api.CanCut|api.CanSync)
		if e != api.OK {
			t.Fatal(e)
		}
		l = append(l, h)
	}
	return l
}

// A handle tells what a file of memory tells, in Do and in Must, and can the same.
func TestP236Memory(t *testing.T) {
	for seed := range chance(400) {
		c := seed
		l := c.files(8)
		p, like := newPower(t, l...), memories(t, l)
		p.Fuse(60)
		for range 60 {
			file, op := c.below(len(l)), c.op()
			if op.At > api.MaxData && op.At <= api.MaxSize && (op.Do == api.DoCut || op.Do == api.DoWrite && len(op.B) > 0) {
				continue // here a file of memory takes more
			}
			h := p.Handle(file)
			if h.Can() != like[file].Can() {
				t.Fatalf("it can %d, want %d", h.Can(), like[file].Can())
			}
			if c.below(2) == 0 {
				wantTold(t, h, op, like[file].Do(op))
				continue
			}
			got, fell := h.Must(op)
			want, falls := like[file].Must(op)
			if !sameTold(got, want) || fell != falls {
				t.Fatalf("Must of %s tells %v, %v, want %v, %v", text(op), got, fell, want, falls)
			}
		}
		for i, h := range like {
			b, _ := memory.All(h)
			if string(p.Image(i)) != string(b) {
				t.Errorf("file %d has %q, want %q", i, p.Image(i), b)
			}
		}
		if t.Failed() {
			t.Fatalf("seed %d", seed)
		}
	}
}

// The same at the bounds of MaxData bytes, and for what is refused.
func TestP236MemoryEdges(t *testing.T) {
	for _, op := range edges() {
		if op.At > api.MaxData && op.At <= api.MaxSize && op.Do == api.DoCut {
			continue
		}
		if end := op.At + int64(len(op.B)); op.Do == api.DoWrite && len(op.B) > 0 && op.At <= api.MaxSize && end > api.MaxData && end <= api.MaxSize {
			continue
		}
		like := memories(t, []string{"abcd"})[0]
		p := newPower(t, "abcd")
		wantTold(t, p.Handle(0), op, like.Do(op))
		for _, look := range []api.Op{size(), read(0, api.MaxText), read(api.MaxData-api.MaxText, api.MaxText), write(2, "x"), read(0, 9)} {
			wantTold(t, p.Handle(0), look, like.Do(look))
		}
	}
}

// Of two machines with the same files and calls, one with a fuse, both tell the same up to the last call that it lets through; behind it the one has what it had then.
func TestP236Fuse(t *testing.T) {
	for seed := range chance(400) {
		c := seed
		l := c.files(5)
		one, two := newPower(t, l...), newPower(t, l...)
		fuse := c.below(25)
		one.Fuse(fuse)
		for range 60 {
			file, op := c.below(len(l)), c.op()
			images, open := imagesOf(one, len(l)), one.Open()
			want := two.Handle(file).Do(op)
			if want.E != api.OK || !counted(op) {
				if fuse > 0 {
					wantTold(t, one.Handle(file), op, want)
				}
				continue
			}
			if fuse > 0 {
				fuse--
				wantTold(t, one.Handle(file), op, want)
				wantImages(t, one, imagesOf(two, len(l))...)
				wantOpen(t, one, two.Open()...)
				continue
			}
			wantE(t, one.Handle(file), op, api.ErrGone)
			wantImages(t, one, images...)
			wantOpen(t, one, open...)
		}
		if t.Failed() {
			t.Fatalf("seed %d", seed)
		}
	}
}
