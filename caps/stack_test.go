package caps_test

import (
	"math"
	"slices"
	"testing"

	"mantle/api"
	"mantle/caps"
)

// lists calls f with all lists of n wrappers.
func lists(n int, f func(l []api.Wrap)) {
	l := make([]api.Wrap, n)
	var grow func(i int)
	grow = func(i int) {
		if i == n {
			f(l)
			return
		}
		for kind := range int8(len(cells)) {
			l[i].Kind = kind
			grow(i + 1)
		}
	}
	grow(0)
}

// modelStack goes up wrapper by wrapper, by the chapter's table.
func modelStack(l []api.Wrap, leaf uint8) uint8 {
	can := leaf
	for _, w := range l {
		switch w.Kind {
		case api.WrapJoin, api.WrapTee, api.WrapSum, api.WrapJournal:
			can = model(w.Kind, []uint8{can, 15})
		default:
			can = model(w.Kind, []uint8{can})
		}
	}
	return can
}

func TestP24Stack(t *testing.T) {
	for n := range 4 {
		lists(n, func(l []api.Wrap) {
			for leaf := range uint8(16) {
				can, e := caps.Stack(l, leaf)
				if want := modelStack(l, leaf); can != want || e != api.OK {
					t.Errorf("Stack(%v, %d) = %d, %v, want %d", l, leaf, can, e, want)
				}
			}
		})
	}
}

func TestP24None(t *testing.T) {
	for leaf := range uint8(16) {
		for _, l := range [][]api.Wrap{nil, {}} {
			can, e := caps.Stack(l, leaf)
			wantCan(t, "no wrapper", can, e, leaf)
		}
	}
}

func TestP24Long(t *testing.T) {
	for kind := range int8(len(cells)) {
		l := slices.Repeat([]api.Wrap{{Kind: kind}}, api.MaxStack+1)
		can, e := caps.Stack(l[:api.MaxStack], 15)
		wantCan(t, "MaxStack wrappers", can, e, modelStack(l[:api.MaxStack], 15))
		can, e = caps.Stack(l, 15)
		wantErr(t, "one more", can, e, api.ErrLong)
		can, e = caps.Stack(l, 16)
		wantErr(t, "one more, over 16", can, e, api.ErrLong)
	}
	l := slices.Repeat([]api.Wrap{{Kind: -1}}, api.MaxStack+1)
	can, e := caps.Stack(l, 15)
	wantErr(t, "too many of no Kind", can, e, api.ErrLong)
	can, e = caps.Stack(l[:api.MaxStack], 15)
	wantErr(t, "MaxStack of no Kind", can, e, api.ErrArg)
}

func TestP24Leaf(t *testing.T) {
	for leaf := 16; leaf < 256; leaf++ {
		can, e := caps.Stack(nil, uint8(leaf))
		wantErr(t, "no wrapper over it", can, e, api.ErrArg)
		can, e = caps.Stack([]api.Wrap{{Kind: api.WrapPack}}, uint8(leaf))
		wantErr(t, "a pack over it", can, e, api.ErrArg)
	}
}

func TestP24Kind(t *testing.T) {
	for kind := -128; kind < 128; kind++ {
		if kind >= 0 && kind < len(cells) {
			continue
		}
		for place := range api.MaxStack {
			l := make([]api.Wrap, api.MaxStack)
			l[place].Kind = int8(kind)
			can, e := caps.Stack(l, 15)
			wantErr(t, "a Kind that is none", can, e, api.ErrArg)
		}
	}
}

func TestP24Numbers(t *testing.T) {
	lists(2, func(l []api.Wrap) {
		plain, _ := caps.Stack(l, 15)
		other := slices.Clone(l)
		for i := range other {
			other[i].N, other[i].M, other[i].Key = math.MinInt64, math.MaxInt64, math.MaxUint64
		}
		can, e := caps.Stack(other, 15)
		wantCan(t, "other numbers", can, e, plain)
	})
}

func TestP25Stack(t *testing.T) {
	for n := range 4 {
		lists(n, func(l []api.Wrap) {
			for high := range uint8(16) {
				top, _ := caps.Stack(l, high)
				for _, low := range caps.All(high) {
					if can, e := caps.Stack(l, low); !caps.Less(can, top) || e != api.OK {
						t.Errorf("%v: %d over %d, %d over %d", l, can, low, top, high)
					}
				}
			}
		})
	}
}

func TestP26Behind(t *testing.T) {
	lists(4, func(l []api.Wrap) {
		for cut := range len(l) + 1 {
			for _, leaf := range []uint8{15, 14, 13, 11, 7} {
				first, _ := caps.Stack(l[:cut], leaf)
				want, _ := caps.Stack(l[cut:], first)
				if can, e := caps.Stack(l, leaf); can != want || e != api.OK {
					t.Errorf("%v, parted at %d, over %d: %d, want %d", l, cut, leaf, can, want)
				}
			}
		}
	})
}

func TestP26Twice(t *testing.T) {
	for _, kind := range []int8{api.WrapWindow, api.WrapCache, api.WrapQuota, api.WrapRead, api.WrapCipher, api.WrapBuffer} {
		for leaf := range uint8(16) {
			once, e := over(kind, leaf)
			wantCan(t, "once", once, e, model(kind, []uint8{leaf}))
			can, e := over(kind, once)
			wantCan(t, "twice", can, e, once)
			can, e = caps.Stack([]api.Wrap{{Kind: kind}, {Kind: kind}}, leaf)
			wantCan(t, "twice, as a stack", can, e, once)
		}
	}
}
