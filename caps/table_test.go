package caps_test

import (
	"slices"
	"strings"
	"testing"

	"mantle/api"
	"mantle/caps"
)

// cells are the chapter's table, word for word (a journal's g written out).
var cells = [11][4]string{
	api.WrapWindow:  {"W", "no", "H", "S"},
	api.WrapJoin:    {"all W", "no", "all H", "all S"},
	api.WrapTee:     {"Wa and Wb", "Ca and Cb", "Ha", "Sa and Sb"},
	api.WrapCache:   {"W", "C", "H", "S"},
	api.WrapBuffer:  {"W", "C", "no", "S or W"},
	api.WrapSum:     {"Wa and Wb", "no", "no", "Sa and Sb"},
	api.WrapPack:    {"no", "no", "no", "no"},
	api.WrapCipher:  {"W", "W and C", "no", "S"},
	api.WrapJournal: {"Wa and Wb and Cb", "Wa and Wb and Cb and Ca", "no", "Wa and Wb and Cb"},
	api.WrapQuota:   {"W", "C", "H", "S"},
	api.WrapRead:    {"no", "no", "H", "no"},
}

// files tells each number of files that a kind takes.
func files(kind int8) []int {
	switch kind {
	case api.WrapJoin:
		l := make([]int, api.MaxParts)
		for i := range l {
			l[i] = i + 1
		}
		return l
	case api.WrapTee, api.WrapSum, api.WrapJournal:
		return []int{2}
	default:
		return []int{1}
	}
}

// model reads the row's four cells.
func model(kind int8, below []uint8) uint8 {
	can := uint8(0)
	for i, cell := range cells[kind] {
		if modelCell(cell, below) {
			can += 1 << i
		}
	}
	return can
}

func modelCell(cell string, below []uint8) bool {
	if a, b, ok := strings.Cut(cell, " or "); ok {
		return modelCell(a, below) || modelCell(b, below)
	}
	if a, b, ok := strings.Cut(cell, " and "); ok {
		return modelCell(a, below) && modelCell(b, below)
	}
	if cell == "no" {
		return false
	}
	letter, every := strings.CutPrefix(cell, "all ")
	if every {
		for i := range below {
			if !modelCell(letter, below[i:]) {
				return false
			}
		}
		return true
	}
	place := strings.TrimLeft(letter, "WCHS")
	file := below[strings.Index("ab", place)]
	return file>>strings.Index("WCHS", letter[:1])%2 == 1
}

// sets calls f with all lists of n sets.
func sets(n int, f func(l []uint8)) {
	l := make([]uint8, n)
	for code := range 1 << (4 * n) {
		for i := range l {
			l[i] = uint8(code >> (4 * i) & 15)
		}
		f(l)
	}
}

func wantModel(t *testing.T, kind int8, below []uint8) {
	t.Helper()
	can, e := over(kind, below...)
	if want := model(kind, below); can != want || e != api.OK {
		t.Errorf("Kind %d over %v = %d, %v, want %d", kind, below, can, e, want)
	}
}

func TestP23Table(t *testing.T) {
	for kind := range int8(len(cells)) {
		for _, n := range files(kind) {
			if n <= 3 {
				sets(n, func(l []uint8) { wantModel(t, kind, l) })
			}
		}
	}
}

func TestP23Join(t *testing.T) {
	for _, n := range files(api.WrapJoin) {
		l := slices.Repeat([]uint8{15}, n)
		wantModel(t, api.WrapJoin, l)
		for i := range l {
			for can := range uint8(16) {
				l[i] = can
				wantModel(t, api.WrapJoin, l)
			}
			l[i] = 15
		}
	}
}

func TestP23Count(t *testing.T) {
	for kind := range int8(len(cells)) {
		for n := range api.MaxParts + 3 {
			can, e := over(kind, slices.Repeat([]uint8{15}, n)...)
			if slices.Contains(files(kind), n) {
				wantCan(t, "as many files as it takes", can, e, model(kind, []uint8{15, 15}))
			} else {
				wantErr(t, "another number of files", can, e, api.ErrArg)
			}
		}
		can, e := caps.Over(api.Wrap{Kind: kind}, nil)
		wantErr(t, "no file", can, e, api.ErrArg)
		can, e = over(kind, make([]uint8, 1<<16)...)
		wantErr(t, "very many files", can, e, api.ErrArg)
	}
}

func TestP23Kind(t *testing.T) {
	for kind := -128; kind < 128; kind++ {
		if kind >= 0 && kind < len(cells) {
			continue
		}
		for n := range 4 {
			can, e := over(int8(kind), slices.Repeat([]uint8{15}, n)...)
			wantErr(t, "a Kind that is none", can, e, api.ErrArg)
		}
	}
}

func TestP23Above(t *testing.T) {
	for kind := range int8(len(cells)) {
		for _, n := range files(kind) {
			for i := range n {
				l := slices.Repeat([]uint8{15}, n)
				for above := 16; above < 256; above++ {
					l[i] = uint8(above)
					can, e := over(kind, l...)
					wantErr(t, "a number above 15 below", can, e, api.ErrArg)
				}
			}
		}
	}
}

// TestP25Over goes through all pairs of lists of up to three files of which
// the one is Less than the other, place by place.
func TestP25Over(t *testing.T) {
	for kind := range int8(len(cells)) {
		for _, n := range files(kind) {
			if n > 3 {
				break
			}
			sets(n, func(high []uint8) {
				top, _ := over(kind, high...)
				lower(high, func(low []uint8) {
					if can, e := over(kind, low...); !caps.Less(can, top) || e != api.OK {
						t.Errorf("Kind %d: %d over %v, %d over %v", kind, can, low, top, high)
					}
				})
			})
		}
	}
}

// lower calls f with all lists whose sets are Less than those of high.
func lower(high []uint8, f func(low []uint8)) {
	var grow func(low []uint8)
	grow = func(low []uint8) {
		if len(low) == len(high) {
			f(low)
			return
		}
		for _, a := range caps.All(high[len(low)]) {
			grow(append(low, a))
		}
	}
	grow(make([]uint8, 0, len(high)))
}
