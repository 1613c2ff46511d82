package seal_test

import (
	"strings"
	"testing"

	"mantle/api"
	"mantle/seal"
)

// names are such as differ by as little as can be, of any bytes, short ones and long ones.
func names() []string {
	long := strings.Repeat("long", 1<<18)
	list := []string{
		"", "a", "b", "A", "aa", "ab", "ba", " a", "a ", "a/", "0", "nil",
		"\x00", "\x00\x00", "a\x00", "a\x00b", "\xff", "\xff\xfe", "\xff\xfd", "\n", "\r\n",
		"\u00e4", "a\u0308", "\ufffd", "\u00c4",
		long, long[1:], long[:len(long)-1], long + "g", "x" + long[1:], long[:len(long)-1] + "x",
	}
	for _, n := range []int{8, 16, 32, api.MaxName, api.MaxPath, api.MaxText} {
		for _, m := range []int{n - 1, n, n + 1} {
			list = append(list, long[:m], long[:m-1]+"x", long[:m/2]+"x"+long[m/2+1:m])
		}
	}
	for b := range 256 { // all bytes there are
		list = append(list, "of "+string([]byte{byte(b)}))
	}
	return list
}

// P16.1: of any name there is a brand.
func TestP161(t *testing.T) {
	var m maker
	for _, b := range m.all(names()...) {
		if (b.Brand == nil) != (b.maker == none) {
			t.Errorf("%v is nil: %v", b, b.Brand == nil)
		}
	}
}

// P16.1, P16.3: a brand with itself, and with a second one of the same maker and the same name.
func TestP163SameName(t *testing.T) {
	var m maker
	for _, name := range names() {
		for of := range none {
			a, b := m.make(of, name), m.make(of, name)
			wantSame(t, a, a)
			wantSame(t, a, b)
			wantSame(t, b, b)
		}
	}
}

// The same as above, as the chapter tells it, and not by the paper.
func TestP163EachMaker(t *testing.T) {
	for _, name := range names() {
		n, p, o := seal.New(name), seal.Plain(name), seal.Odd(name)
		n2, p2, o2 := seal.New(name), seal.Plain(name), seal.Odd(name)
		for i, x := range []struct {
			a, b *seal.Brand
			want bool
		}{
			{n, n, true}, {n, n2, false}, {n2, n2, true},
			{p, p, true}, {p, p2, true}, {p2, p2, true},
			{o, o, false}, {o, o2, false}, {o2, o2, false},
			{n, p, false}, {n, o, false}, {p, o, false},
			{n, nil, false}, {p, nil, false}, {o, nil, false}, {nil, nil, false},
		} {
			if seal.Same(x.a, x.b) != x.want || seal.Same(x.b, x.a) != x.want {
				t.Errorf("row %d, of a name of %d bytes: Same is not %v", i, len(name), x.want)
			}
		}
	}
}

// P16.3, P16.4: all makers and names against all.
func TestP163AllPairs(t *testing.T) {
	var m maker
	list := m.all(names()...)
	for i, a := range list {
		for _, b := range list[:i+1] {
			wantSame(t, a, b)
		}
	}
}

// P16.1: of many brands of New each is the same as itself alone, those that are made one right behind the other too.
func TestP161NewIsItsOwn(t *testing.T) {
	var m maker
	var list []brand
	for range 1000 {
		list = append(list, m.make(ofNew, "a"))
	}
	for i, a := range list {
		for _, b := range list[:i+1] {
			wantSame(t, a, b)
		}
	}
}

// P16.2: nothing is sealed by a nil brand, nor where there is no handle.
func TestP162SealNil(t *testing.T) {
	var m maker
	h := file(t, "abc")
	for _, b := range m.all("", "a") {
		wantSeal(t, b, nil)
		wantSeal(t, b, h)
	}
}

// P16.2: ErrNil of a nil brand and of a nil box, whichever the other one is.
func TestP162OpenNil(t *testing.T) {
	var m maker
	list := m.all("", "a")
	h := file(t, "abc")
	for _, b := range list {
		wantOpen(t, b, box{by: b})
		for _, by := range list {
			wantOpen(t, m.make(none, ""), wantSeal(t, by, h))
			wantOpen(t, b, wantSeal(t, by, nil)) // what is not sealed can't be opened
		}
	}
	var nobody *seal.Brand
	if g, e := nobody.Open(seal.Plain("a").Seal(h)); g != nil || e != api.ErrNil {
		t.Errorf("a nil brand answers %v %v", g, e)
	}
	if g, e := nobody.Open(nil); g != nil || e != api.ErrNil {
		t.Errorf("a nil brand answers of a nil box %v %v", g, e)
	}
	if nobody.Seal(h) != nil || nobody.Seal(nil) != nil {
		t.Error("a nil brand seals")
	}
}

// P16.2: who opens and who does not, of each maker and name.
func TestP162Open(t *testing.T) {
	var m maker
	h := file(t, "abc")
	sealers, others := m.all("", "a", "b", "\xff\x00"), m.all("", "a", "b", "\xff\x00")
	for _, by := range sealers {
		x := wantSeal(t, by, h)
		for _, b := range append(sealers, others...) {
			wantOpen(t, b, x)
		}
	}
}

// P16.2, P16.5: a name decides with all its bytes.
func TestP162OpenNames(t *testing.T) {
	var m maker
	h := file(t, "abc")
	openers := m.all(names()...)
	for _, name := range names() {
		for of := range none {
			x := wantSeal(t, m.make(of, name), h)
			wantOpen(t, x.by, x)
			for _, b := range openers {
				wantOpen(t, b, x)
			}
		}
	}
}

// P16.2: a box can be opened again and again, behind an Open that was refused too.
func TestP162AgainAndAgain(t *testing.T) {
	h := file(t, "abc")
	for _, by := range []*seal.Brand{seal.New("a"), seal.Plain("a")} {
		x := by.Seal(h)
		for i := range 100 {
			if g, e := by.Open(x); g != h || e != api.OK {
				t.Fatalf("time %d: %v, the handle: %v", i, e, g == h)
			}
			for _, b := range []*seal.Brand{seal.New("a"), seal.Plain("b"), seal.Odd("a")} {
				if g, e := b.Open(x); g != nil || e != api.ErrBrand {
					t.Fatalf("time %d: another brand is answered %v, no handle: %v", i, e, g == nil)
				}
			}
			var nobody *seal.Brand
			if g, e := nobody.Open(x); g != nil || e != api.ErrNil {
				t.Fatalf("time %d: a nil brand is answered %v", i, e)
			}
		}
	}
}

// P16.2: a brand of Odd opens nothing, however often it tries.
func TestP162OddOpensNothing(t *testing.T) {
	h := file(t, "abc")
	o := seal.Odd("a")
	for _, by := range []*seal.Brand{o, seal.Odd("a"), seal.Odd(""), seal.New("a"), seal.Plain("a")} {
		x := by.Seal(h)
		for range 3 {
			if g, e := o.Open(x); g != nil || e != api.ErrBrand {
				t.Errorf("it is answered %v, no handle: %v", e, g == nil)
			}
		}
	}
}

// A panic that is under way where Same is asked is not taken for that of the comparison, and not caught by it.
func TestSameDuringAPanic(t *testing.T) {
	var m maker
	list := m.all("a", "b")
	defer func() {
		if v := recover(); v != "under way" {
			t.Errorf("behind it the panic is %v", v)
		}
	}()
	defer func() {
		for _, a := range list {
			for _, b := range list {
				wantSame(t, a, b)
			}
		}
	}()
	panic("under way")
}
