package seal_test

import (
	"fmt"
	"strings"
	"testing"

	"mantle/api"
	"mantle/face"
	"mantle/memory"
	"mantle/seal"
)

// The makers of brands; none stands for a nil brand.
const (
	ofNew = iota
	ofPlain
	ofOdd
	none
)

// brand is a brand, and what the chapter's words tell it by.
type brand struct {
	*seal.Brand
	maker  int
	name   string
	number int // of no two brands of one test the same
}

func (b brand) String() string {
	word := [...]string{"New", "Plain", "Odd", "nil"}[b.maker]
	if len(b.name) > 20 {
		return fmt.Sprintf("%s of %d bytes", word, len(b.name))
	}
	return fmt.Sprintf("%s(%q)", word, b.name)
}

// maker makes brands, and counts them.
type maker struct{ made int }

func (m *maker) make(of int, name string) brand {
	b := brand{maker: of, name: name, number: m.made}
	m.made++
	switch fresh := strings.Clone(name); of { // no two brands have their names in one memory
	case ofNew:
		b.Brand = seal.New(fresh)
	case ofPlain:
		b.Brand = seal.Plain(fresh)
	case ofOdd:
		b.Brand = seal.Odd(fresh)
	}
	return b
}

// all makes a brand of each maker and name, and a nil one.
func (m *maker) all(names ...string) []brand {
	list := []brand{m.make(none, "")}
	for _, name := range names {
		for of := range none {
			list = append(list, m.make(of, name))
		}
	}
	return list
}

// same is P16.3 and P16.4 as they are written down.
func same(a, b brand) bool {
	switch {
	case a.maker != b.maker:
		return false
	case a.maker == ofNew:
		return a.number == b.number
	case a.maker == ofPlain:
		return a.name == b.name
	}
	return false
}

// wantSame holds Same of two brands against the paper, either way round.
func wantSame(t *testing.T, a, b brand) {
	t.Helper()
	want := same(a, b)
	if got := seal.Same(a.Brand, b.Brand); got != want {
		t.Errorf("Same(%v, %v) is %v", a, b, got)
	}
	if got := seal.Same(b.Brand, a.Brand); got != want {
		t.Errorf("Same(%v, %v) is %v", b, a, got)
	}
}

// box is a box, who sealed it, and what is in it.
type box struct {
	*seal.Box
	by     brand
	handle *face.Handle
}

// wantSeal seals h by b, and tells a box just if there is one to be told.
func wantSeal(t *testing.T, b brand, h *face.Handle) box {
	t.Helper()
	x := box{b.Seal(h), b, h}
	if is, want := x.Box != nil, b.maker != none && h != nil; is != want {
		t.Errorf("%v seals a handle (nil: %v): a box: %v, want %v", b, h == nil, is, want)
	}
	return x
}

// wantOpen holds Open against P16.2 and P16.5, and what is told beside an error.
func wantOpen(t *testing.T, b brand, x box) {
	t.Helper()
	h, e := b.Open(x.Box)
	want, wantE := x.handle, api.OK
	if b.maker == none || x.Box == nil {
		want, wantE = nil, api.ErrNil
	} else if !same(b, x.by) {
		want, wantE = nil, api.ErrBrand
	}
	if h != want || e != wantE {
		t.Errorf("%v opens what %v sealed: the handle: %v, nil: %v, %v; want %v", b, x.by, h == x.handle, h == nil, e, wantE)
	}
}

// file is a file of memory that can all.
func file(t *testing.T, text string) *face.Handle {
	t.Helper()
	h, e := memory.New([]byte(text), 15)
	if e != api.OK {
		t.Fatal(e)
	}
	return h
}

// chance tells numbers that are the same at each run.
type chance uint64

func (c *chance) below(n int) int {
	*c = *c*6364136223846793005 + 1442695040888963407
	return int(uint64(*c) >> 33 % uint64(n))
}
