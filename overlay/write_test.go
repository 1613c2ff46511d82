package overlay_test

import (
	"math"
	"strings"
	"testing"

	"mantle/api"
	"mantle/face"
	"mantle/memory"
	"mantle/node"
)

// P24.4: writes of all kinds at each place, from the same beginning.
func TestP244Write(t *testing.T) {
	for _, p := range spots(mixed(t)) {
		for _, a := range []act{write(p, 0, "x"), write(p, 1, "xyz"), write(p, 9, "x"), write(p, 0, ""), write(p, 9, ""), write(p, -1, "x"), write(p, -1, ""), write(p, 1<<30, "x"), write(p, 1<<30, ""), write(p, 1<<30+1, "")} {
			x := mixed(t)
			x.do(t, a)
			x.wantAround(t, p)
		}
	}
}

// P24.4: what the write's place and length may be, of a file of the upper tree and of one that is brought up.
func TestP244Bounds(t *testing.T) {
	for _, own := range []bool{true, false} {
		for _, at := range []int64{math.MinInt64, -1, 0, 1, 3, 4, 70000, api.MaxData - 65537, api.MaxData - 65536, api.MaxData - 1, api.MaxData, api.MaxData + 1, api.MaxSize - 65536, api.MaxSize - 65535, api.MaxSize - 1, api.MaxSize, api.MaxSize + 1, math.MaxInt64} {
			for _, n := range []int{0, 1, 65536, 65537} {
				x := bothOf(t, sheet{}, sheet{"d": dir(), "d/f": file("abc")})
				if own {
					x.want1(t, write("d/f", 3, ""))
				}
				if end := at + int64(n); n > 0 && end > api.MaxData && end <= api.MaxSize && n <= api.MaxText {
					x.wantFar(t, at, n)
					continue
				}
				x.do(t, write("d/f", at, strings.Repeat("x", n)))
				x.wantTrees(t)
				x.wantItems(t)
			}
		}
	}
}

// wantFar is a write to d/f that makes it longer than may be told: a file of memory holds no more than what was written.
func (x *both) wantFar(t *testing.T, at int64, n int) {
	t.Helper()
	if e := x.o.Write("d/f", at, []byte(strings.Repeat("x", n))); e != api.OK {
		t.Errorf("a write of %d bytes at %d answers %v", n, at, e)
	}
	l, e := x.o.List("d")
	if e != api.OK || len(l) != 1 || l[0].Size != at+int64(n) {
		t.Errorf("behind a write of %d bytes at %d List answers %v, %v", n, at, l, e)
	}
	_, e = x.o.Get("d/f")
	_, f := x.o.Items()
	if e != api.ErrLong || f != api.ErrLong {
		t.Errorf("Get and Items answer %v, %v", e, f)
	}
	h, _ := held(t, x.upper, "d/f").Open()
	if b := h.Do(api.Op{Do: api.DoRead, At: at, N: n}).Data; string(b) != strings.Repeat("x", n) {
		t.Errorf("%d bytes at %d are not there", n, at)
	}
}

// P24.4: of a file that holds MaxData bytes no more can be held, be it the upper tree's own or brought up; in the second case it goes again.
func TestP244Held(t *testing.T) {
	full := strings.Repeat("x", api.MaxData)
	for _, x := range []*both{bothOf(t, sheet{}, sheet{"f": file(full)}), bothOf(t, sheet{"f": file(full)}, sheet{})} {
		for _, at := range []int64{api.MaxData, api.MaxData - 1, api.MaxData + 70000} {
			if e := x.o.Write("f", at, []byte("yz")); e != api.ErrLong {
				t.Errorf("Write at %d answers %v", at, e)
			}
			x.wantTrees(t)
		}
		x.want1(t, write("f", api.MaxData-2, "yz"))
		x.wantTrees(t)
	}
}

// P24.4: a write that is refused, also behind the file's coming up, leaves the upper tree as it was.
func TestP244Refused(t *testing.T) {
	x := bothOf(t, sheet{}, sheet{"d": dir(), "d/e": dir(), "d/e/f": file("abc")})
	x.want(t, write("d/e/f", -1, "x"), api.ErrArg)
	x.want(t, write("d/e/f", api.MaxSize, "x"), api.ErrLong)
	x.want(t, write("d/e/f", 0, strings.Repeat("x", 65537)), api.ErrLong)
	if l, e := x.upper.List(); len(l) != 0 || e != api.OK {
		t.Errorf("the upper tree has %v, %v", l, e)
	}
}

// P24.4: the file is brought up by a write of no bytes, too; the lower one is asked no more from then on.
func TestP244BroughtUp(t *testing.T) {
	x := bothOf(t, sheet{"d": dir()}, sheet{"d": dir(), "d/f": file("abc")})
	x.wants(t, write("d/f", 0, ""))
	n := held(t, x.upper, "d/f")
	h, e := n.Open()
	if e != api.OK || h.Can() != 15 {
		t.Errorf("what was brought up can %d, %v", h.Can(), e)
	}
	low, _ := held(t, x.lower[0], "d/f").Open()
	low.Do(api.Op{Do: api.DoCut, At: 1})
	x.paper.layers[1]["d/f"] = file("a")
	x.wantSame(t)
	x.wants(t, write("d/f", 5, "z"))
	if b, e := memory.All(h); string(b) != "abc\x00\x00z" || e != api.OK {
		t.Errorf("the file is %q, %v", b, e)
	}
	if held(t, x.upper, "d/f") != n {
		t.Error("a second write brought up another file")
	}
}

// P24.4: a file that the upper tree holds is written itself, through its own handle, whatever that can.
func TestP244Own(t *testing.T) {
	h := newFile(t, "abc")
	for can := range uint8(16) {
		x := bothOf(t, sheet{}, sheet{"f": file("hidden")})
		h.Do(api.Op{Do: api.DoCut})
		h.Do(api.Op{Do: api.DoWrite, B: []byte("abc")})
		x.upper.Add("f", node.File(h.Only(can)))
		x.paper.layers[0]["f"] = thing{data: "abc", only: can&api.CanWrite == 0}
		want := api.OK
		if can&api.CanWrite == 0 {
			want = api.ErrCan
		}
		x.want(t, write("f", 1, "xyz"), want)
		x.want(t, write("f", 0, ""), want)
	}
}

// P24.4: the errors of a file of the upper tree are answered as they are, and nothing else is done.
func TestP244OwnErrors(t *testing.T) {
	for _, only := range []thing{{data: "abc", only: true}, broken(3, 77)} {
		x := bothOf(t, sheet{"d": dir(), "d/f": only}, sheet{"d": dir(), "d/f": file("hidden")})
		for _, a := range []act{write("d/f", 0, "x"), write("d/f", 0, ""), write("d/f", -1, "x"), write("d/f", 0, strings.Repeat("x", 65537))} {
			x.want(t, a, api.ErrCan)
		}
		x.wants(t, put("d/f", file("new")), write("d/f", 3, "!"))
	}
}

// refusing is a writer that does nothing but refuse.
type refusing api.Errno

func (r refusing) WriteAt(int64, []byte) api.Errno { return api.Errno(r) }

func TestP244OwnRefuses(t *testing.T) {
	for _, want := range []api.Errno{api.ErrQuota, api.ErrNone, -1, 1000} {
		f := &spy{data: "abc"}
		x := bothOf(t, sheet{}, sheet{})
		x.upper.Add("f", node.File(face.Make(f, refusing(want), nil, nil, nil)))
		x.paper.layers[0]["f"] = thing{data: "abc", only: true}
		if e := x.o.Write("f", 0, []byte("x")); e != want {
			t.Errorf("Write answers %v, want %v", e, want)
		}
		x.wantSame(t)
	}
}

// P24.4: a lower file that can't be read, or only be read, or that is too long to be held.
func TestP244Lower(t *testing.T) {
	x := bothOf(t, sheet{}, sheet{"only": {data: "abc", only: true}, "d": dir(), "d/bad": broken(5, 77), "d/empty": broken(0, 77), "long": broken(1<<22+1, 78)})
	x.want(t, write("d/bad", 0, "x"), 77)
	x.want(t, write("d/bad", -1, ""), 77)
	x.want(t, write("long", 0, "x"), api.ErrLong)
	x.wants(t, write("only", 2, "CD"), write("d/empty", 1, "x"), write("d/empty", 0, "y"))
	x.want(t, write("d/bad", 0, "x"), 77)
	x.wants(t, drop("d/bad"), put("d/bad", file("1")), write("d/bad", 1, "2"))
	x.want1(t, drop("long"))
	x.wantSame(t)
}

// P24.4: the bytes are told of ahead of what node.Add tells, and that ahead of what the write tells.
func TestP244Order(t *testing.T) {
	low, p := chain(3, "d")
	low[p+"/bad"], low[p+"/f"] = broken(1, 77), file("abc")
	x := bothIn(t, 62, sheet{}, low)
	x.want(t, write(p+"/bad", -1, "x"), 77)
	x.want(t, write(p+"/f", -1, "x"), api.ErrLong)
	y := bothIn(t, 60, sheet{}, low)
	y.want(t, write(p+"/f", -1, "x"), api.ErrArg)
}

// P24.4: long files come up whole, and holes are noughts.
func TestP244Long(t *testing.T) {
	x := bothOf(t, sheet{}, sheet{"f": file(strings.Repeat("0123456789", 30000)), "g": file("a")})
	low, _ := held(t, x.lower[0], "g").Open()
	low.Do(api.Op{Do: api.DoCut, At: 200000})
	x.paper.layers[1]["g"] = file("a" + strings.Repeat("\x00", 199999))
	x.want1(t, write("f", 150000, "!"))
	x.want1(t, write("g", 199999, "z"))
	x.wantSame(t)
	n := x.lower[0]
	n.Add("h", sizedNode(4000, "abc", api.OK))
	if e := x.o.Write("h", 5, []byte("x")); e != api.OK {
		t.Errorf("a file that tells fewer bytes than its Size: %v", e)
	}
	if i, e := x.o.Get("h"); string(i.Data) != "abc\x00\x00x" || e != api.OK {
		t.Errorf("it is %q, %v", i.Data, e)
	}
}
