package seal_test

import (
	"sync"
	"testing"

	"mantle/api"
	"mantle/face"
	"mantle/seal"
)

// heap is brands, boxes and handles that come about in any order.
type heap struct {
	t       *testing.T
	maker   maker
	brands  []brand
	boxes   []box
	handles []*face.Handle // one of them nil
	opened  int
	refused int
}

func newHeap(t *testing.T) *heap {
	h := &heap{t: t, handles: []*face.Handle{nil}}
	for _, text := range []string{"", "a", "b", "b"} {
		h.handles = append(h.handles, file(t, text))
	}
	h.brands = h.maker.all("a")
	return h
}

// name is one of few, so that brands of the same name come about.
func (c *chance) name() string {
	b := make([]byte, c.below(3))
	for i := range b {
		b[i] = "a\x00\xff"[c.below(3)]
	}
	return string(b)
}

func (h *heap) anyBrand(c *chance) brand { return h.brands[c.below(len(h.brands))] }

// step makes a brand or a box, or opens one, or holds two brands against each other.
func (h *heap) step(c *chance) {
	h.t.Helper()
	switch c.below(8) {
	case 0:
		h.brands = append(h.brands, h.maker.make(c.below(none+1), c.name()))
	case 1, 2:
		h.boxes = append(h.boxes, wantSeal(h.t, h.anyBrand(c), h.handles[c.below(len(h.handles))]))
	case 3, 4:
		wantSame(h.t, h.anyBrand(c), h.anyBrand(c))
	default:
		if len(h.boxes) > 0 {
			wantOpen(h.t, h.anyBrand(c), h.boxes[c.below(len(h.boxes))])
		}
	}
}

// wantP164 is told by Same alone: it goes both ways, and of two that are the same each is the same as a third one, or neither.
func (h *heap) wantP164() {
	h.t.Helper()
	for _, a := range h.brands {
		for _, b := range h.brands {
			wantSame(h.t, a, b)
			if !seal.Same(a.Brand, b.Brand) {
				continue
			}
			for _, c := range h.brands {
				if seal.Same(a.Brand, c.Brand) != seal.Same(b.Brand, c.Brand) {
					h.t.Errorf("%v and %v are the same, and only one of them as %v", a, b, c)
				}
			}
		}
	}
}

// wantP165: a box is opened by just those that Same tells to be the one that sealed it.
func (h *heap) wantP165() {
	h.t.Helper()
	for _, x := range h.boxes {
		for _, b := range h.brands {
			wantOpen(h.t, b, x)
			_, e := b.Open(x.Box)
			if opens := e == api.OK; opens != (x.Box != nil && seal.Same(b.Brand, x.by.Brand)) {
				h.t.Errorf("%v opens what %v sealed: %v", b, x.by, e)
			}
			switch e {
			case api.OK:
				h.opened++
			case api.ErrBrand:
				h.refused++
			}
		}
	}
}

// P16.4, P16.5: any mixture of brands and boxes.
func TestP164P165(t *testing.T) {
	opened, refused := 0, 0
	for seed := range chance(150) {
		c := seed
		h := newHeap(t)
		for range 120 {
			h.step(&c)
		}
		h.wantP164()
		h.wantP165()
		if t.Failed() {
			t.Fatalf("seed %d", seed)
		}
		opened, refused = opened+h.opened, refused+h.refused
	}
	if opened == 0 || refused == 0 {
		t.Errorf("%d were opened, %d refused", opened, refused)
	}
}

// Several boxes of one brand: each has its own handle, also where the files read the same.
func TestP165BoxesOfOneBrand(t *testing.T) {
	var m maker
	for of := range none {
		by := m.make(of, "a")
		var boxes []box
		for range 100 {
			boxes = append(boxes, wantSeal(t, by, file(t, "abc")))
		}
		for _, x := range boxes {
			wantOpen(t, by, x)
			wantOpen(t, m.make(of, "a"), x)
			wantOpen(t, m.make(of, "b"), x)
		}
	}
}

// Boxes of one handle by several brands: one that opens one of them opens no other brand's.
func TestP165BoxesOfOneHandle(t *testing.T) {
	var m maker
	h := file(t, "abc")
	list := append(m.all("", "a", "b"), m.all("", "a", "b")...)
	var boxes []box
	for _, by := range list {
		boxes = append(boxes, wantSeal(t, by, h), wantSeal(t, by, h))
	}
	for _, b := range list {
		for _, x := range boxes {
			wantOpen(t, b, x)
		}
	}
}

// R2: brands and boxes that several goroutines use at a time answer as for one.
func TestManyAtATime(t *testing.T) {
	var m maker
	h := file(t, "abc")
	list := m.all("a", "b")
	var boxes []box
	for _, by := range list {
		boxes = append(boxes, wantSeal(t, by, h))
	}
	var all sync.WaitGroup
	for range 8 {
		all.Go(func() {
			for range 50 {
				for i, b := range list {
					wantSame(t, b, list[(i+1)%len(list)])
					wantSame(t, b, b)
					for _, x := range boxes {
						wantOpen(t, b, x)
					}
				}
			}
		})
	}
	all.Wait()
}
