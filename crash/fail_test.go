package crash_test

import (
	"math"
	"slices"
	"testing"

	"mantle/api"
)

// scripts are operations of some files abcd, ef and of one of no bytes.
func scripts() [][]api.Op {
	return [][]api.Op{
		{of(0, write(0, "XY")), of(0, write(6, "Z")), of(0, cut(5))},
		{of(0, cut(1)), of(0, write(0, "123")), of(1, write(4, "new")), of(0, cut(6))},
		{of(2, write(3, "x")), of(0, write(0, "lost")), of(0, sync()), of(2, cut(2)), of(2, write(1, "yz"))},
		{of(1, write(1, "F")), of(0, write(2, "\x00\x00\x00")), of(1, sync()), of(1, cut(9)), of(0, cut(0)), of(0, write(1, "back"))},
		{of(0, cut(2)), of(0, cut(7)), of(0, write(3, "ab")), of(0, cut(4)), of(0, write(3, "cd"))},
	}
}

func (x *both) run(t *testing.T, l []api.Op) {
	t.Helper()
	for _, op := range l {
		x.ops(t, op.N, op)
	}
}

// Each choice of what is kept, in each of them each write torn at each byte, with one more and below 0, too.
func TestP233EachChoice(t *testing.T) {
	for _, l := range scripts() {
		x := bothOf(t, "abcd", "ef", "")
		x.run(t, l)
		open := x.page.open()
		for mask := range 1 << len(open) {
			var kept []int
			for i := range open {
				if mask>>i&1 == 1 {
					kept = append(kept, i)
				}
			}
			x.fail(t, kept, nil)
			for i, number := range kept {
				for n := -2; n <= len(open[number].B)+2; n++ {
					torn := slices.Repeat([]int{-1}, len(kept))
					torn[i] = n
					x.fail(t, kept, torn)
					x.fail(t, kept, torn[:i+1])
				}
			}
		}
	}
}

// orders are all orders of the numbers below n.
func orders(n int) [][]int {
	if n == 0 {
		return [][]int{nil}
	}
	var l [][]int
	for _, o := range orders(n - 1) {
		for i := range n {
			l = append(l, slices.Insert(slices.Clone(o), i, n-1))
		}
	}
	return l
}

// The order of kept makes no difference: what is done is done in the order in which it was open. The torn ones go with their numbers.
func TestP233Order(t *testing.T) {
	for _, l := range scripts() {
		x := bothOf(t, "abcd", "ef", "")
		x.run(t, l)
		open := len(x.page.open())
		lengths := []int{1, -1, 2, 0, 3}
		var want []string
		for _, kept := range orders(open) {
			var torn []int
			for _, number := range kept {
				torn = append(torn, lengths[number])
			}
			y := x.fail(t, kept, torn)
			if want == nil {
				want = y.page.images()
			}
			wantImages(t, y.power, want...)
		}
	}
}

// A number that stands in kept more than once counts at its first place, with the torn one that goes with that.
func TestP233MoreThanOnce(t *testing.T) {
	x := bothOf(t, "abcd")
	x.run(t, []api.Op{write(0, "XYZ"), write(3, "123")})
	for _, c := range []struct {
		kept, torn []int
		want       string
	}{
		{[]int{0, 0}, []int{1, 2}, "Xbcd"},
		{[]int{0, 0}, []int{2, 1}, "XYcd"},
		{[]int{0, 0}, []int{0}, "abcd"},
		{[]int{0, 0}, []int{0, 3}, "abcd"},
		{[]int{0, 0}, []int{-1, 1}, "XYZd"},
		{[]int{0, 0, 0}, nil, "XYZd"},
		{[]int{0, 1, 0, 1}, []int{1, 2, 3, 3}, "Xbc12"},
		{[]int{1, 0, 1, 0}, []int{9, 0}, "abc123"},
		{[]int{5, 0, -1, 0}, []int{1, 2, 0, 0}, "XYcd"},
		{[]int{5, 5, 1, 1}, []int{0, 1, 1}, "abc1"},
	} {
		y := x.fail(t, c.kept, c.torn)
		wantImages(t, y.power, c.want)
	}
}

// Numbers that there are not count for nothing; the torn ones that go with them neither.
func TestP233NoSuchNumber(t *testing.T) {
	x := bothOf(t, "abcd", "ef")
	x.run(t, []api.Op{of(0, write(0, "XYZ")), of(1, cut(1)), of(0, write(3, "123"))})
	wrong := []int{math.MinInt, -4, -3, -1, 3, 4, 1 << 32, math.MaxInt}
	wantImages(t, x.fail(t, wrong, nil).power, "abcd", "ef")
	wantImages(t, x.fail(t, wrong, make([]int, 8)).power, "abcd", "ef")
	for _, n := range wrong {
		wantImages(t, x.fail(t, []int{n}, nil).power, "abcd", "ef")
		wantImages(t, x.fail(t, []int{n, 0}, []int{0, 2}).power, "XYcd", "ef")
		wantImages(t, x.fail(t, []int{2, n}, []int{1, 2}).power, "abc1", "ef")
		wantImages(t, x.fail(t, []int{1, n, 2}, []int{0, 0}).power, "abc123", "e")
	}
	empty := bothOf(t, "abcd", "ef")
	wantImages(t, empty.fail(t, []int{0, 1, -1}, []int{1}).power, "abcd", "ef")
}

// Where torn is shorter, the numbers behind are kept whole; where it is longer, what is behind counts for nothing.
func TestP233UnlikeLengths(t *testing.T) {
	x := bothOf(t, "abcd")
	x.run(t, []api.Op{write(0, "XYZ"), write(3, "123"), write(5, "456")})
	for n := range 9 {
		x.fail(t, []int{2, 0, 1}, []int{1, 1, 1, 1, 1, 0, 0, 0}[:min(n, 8)])
		x.fail(t, []int{2, 0, 1}[:min(n, 3)], []int{1, 2, 1, 0, 0})
	}
	wantImages(t, x.fail(t, []int{2, 0, 1}, []int{1}).power, "XYZ124")
	wantImages(t, x.fail(t, []int{2}, []int{1, 0, 0}).power, "abcd\x004")
	wantImages(t, x.fail(t, nil, []int{1, 2, 3}).power, "abcd")
}

// Of a write as many bytes are done as torn says, from none to all; of one behind a gap, too: with none of them there is no gap.
func TestP233Torn(t *testing.T) {
	for n, want := range map[int]string{math.MinInt: "abXYZ", -1: "abXYZ", 0: "abcd", 1: "abXd", 2: "abXY", 3: "abXYZ", 4: "abXYZ", math.MaxInt: "abXYZ"} {
		x := bothOf(t, "abcd")
		x.ops(t, 0, write(2, "XYZ"))
		wantImages(t, x.fail(t, []int{0}, []int{n}).power, want)
	}
	for n, want := range map[int]string{math.MinInt: "abcd\x00\x00XY", -1: "abcd\x00\x00XY", 0: "abcd", 1: "abcd\x00\x00X", 2: "abcd\x00\x00XY", 3: "abcd\x00\x00XY"} {
		x := bothOf(t, "abcd")
		x.ops(t, 0, write(6, "XY"))
		wantImages(t, x.fail(t, []int{0}, []int{n}).power, want)
	}
	long := letters(api.MaxText)
	for _, n := range []int{0, 1, api.MaxText - 1, api.MaxText, api.MaxText + 1, -1} {
		x := bothOf(t, "")
		x.ops(t, 0, write(3, long))
		x.fail(t, []int{0}, []int{n})
	}
}

// A cut is done whole, whatever torn says, a shorter and a longer one.
func TestP233CutIsWhole(t *testing.T) {
	for _, n := range []int{math.MinInt, -1, 0, 1, 2, 6, 7, math.MaxInt} {
		x := bothOf(t, "abcd", "efgh")
		x.ops(t, 0, cut(6))
		x.ops(t, 1, cut(2))
		wantImages(t, x.fail(t, []int{0, 1}, []int{n, n}).power, "abcd\x00\x00", "ef")
	}
}

// What a cut that was lost would have taken away is there; what a cut that was kept takes away is gone, written again or not.
func TestP233LostCuts(t *testing.T) {
	x := bothOf(t, "abcdef")
	x.ops(t, 0, write(2, "XY"), cut(1), cut(5), write(3, "Z"))
	wantImages(t, x.fail(t, []int{0, 2, 3}, nil).power, "abXZe")
	wantImages(t, x.fail(t, []int{0, 3}, nil).power, "abXZef")
	wantImages(t, x.fail(t, []int{1, 2}, nil).power, "a\x00\x00\x00\x00")
	wantImages(t, x.fail(t, []int{1, 3}, nil).power, "a\x00\x00Z")
	wantImages(t, x.fail(t, []int{1}, nil).power, "a")
}

// A file that is as long as may be stays so, whatever is lost.
func TestP233MaxData(t *testing.T) {
	x := bothOf(t, letters(api.MaxData), "")
	x.ops(t, 0, cut(0), write(api.MaxData-2, "12"), cut(3))
	x.ops(t, 1, cut(api.MaxData), write(0, "ab"))
	x.fail(t, []int{1}, []int{1})
	x.fail(t, []int{0, 1, 3, 4}, nil)
	x.fail(t, []int{4, 3, 2}, nil)
	y := x.fail(t, []int{1, 3}, nil)
	y.ops(t, 0, write(api.MaxData, "x"), write(api.MaxData-1, "x"))
	y.ops(t, 1, cut(api.MaxData+1), write(api.MaxData-1, "x"))
	y.wantAs(t)
}

// The machine stays as it is, with its fuse, and the other one goes on by itself: neither sees what is done to the other.
func TestP233Apart(t *testing.T) {
	x := bothOf(t, "abcd", "ef")
	x.ops(t, 0, write(0, "XY"), cut(3))
	x.ops(t, 1, write(1, "Z"))
	x.fuse(3)
	y := x.fail(t, []int{0, 2}, nil)
	y.ops(t, 0, write(1, "other"), sync(), cut(2))
	y.ops(t, 1, cut(0), write(4, "!"))
	x.wantAs(t)
	y.wantAs(t)
	x.ops(t, 1, cut(7), sync(), write(0, "new"))
	x.ops(t, 0, sync())
	x.wantAs(t)
	y.wantAs(t)
	z := y.fail(t, []int{1}, nil)
	z.ops(t, 0, write(0, "third"))
	for _, l := range []*both{x, y, z} {
		l.wantAs(t)
		l.fail(t, nil, nil)
		l.fail(t, []int{0, 1, 2, 3}, nil)
	}
}

// The lists that are handed in are neither changed nor kept.
func TestP233Lists(t *testing.T) {
	x := bothOf(t, "abcd")
	x.ops(t, 0, write(0, "XYZ"), cut(3), write(5, "123"))
	kept, torn := []int{2, 7, 0, 2, -1, 55}, []int{1, 1, 2, 0, 66}
	q := x.power.Fail(kept[:5], torn[:4])
	if !slices.Equal(kept, []int{2, 7, 0, 2, -1, 55}) || !slices.Equal(torn, []int{1, 1, 2, 0, 66}) {
		t.Errorf("the lists are %v, %v", kept, torn)
	}
	clear(kept)
	clear(torn)
	wantImages(t, q, "XYcd\x001")
}

// Long lists, nearly all of which count for nothing.
func TestP233LongLists(t *testing.T) {
	x := bothOf(t, "abcd")
	x.ops(t, 0, write(0, "XYZ"), cut(2))
	kept := make([]int, 1<<20)
	for i := range kept {
		kept[i] = i + 1
	}
	wantImages(t, x.power.Fail(kept, nil), "ab")
	wantImages(t, x.power.Fail(append(kept, 0), kept), "XY")
	wantImages(t, x.power.Fail(make([]int, 1<<20), kept), "Xbcd")
}

// Any calls, any choice, and so on with what comes of it.
func TestP233Chance(t *testing.T) {
	for seed := range chance(1500) {
		c := seed
		x := bothOf(t, c.files(4)...)
		for range 4 {
			if c.below(3) == 0 {
				x.fuse(c.below(30))
			}
			for range c.below(20) {
				x.step(t, &c)
			}
			kept, torn := c.choice(len(x.page.open()))
			if y := x.fail(t, kept, torn); c.below(3) > 0 {
				x = y
			}
		}
		if t.Failed() {
			t.Fatalf("seed %d", seed)
		}
	}
}
