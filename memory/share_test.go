package memory_test

import (
	"testing"

	"mantle/api"
	"mantle/face"
	"mantle/span"
)

// It is that very s: what is done to either is seen by the other.
func TestP42VerySpan(t *testing.T) {
	s := span.New([]byte("abcdef"))
	h := fileOf(t, s, 15)
	s.Punch(1, 2)
	wantTold(t, h, api.Op{Do: api.DoNext}, api.Told{M: 1})
	wantTold(t, h, api.Op{Do: api.DoRead, N: 9}, api.Told{Data: []byte("a\x00\x00def")})
	s.Put(7, []byte("x"))
	wantTold(t, h, api.Op{}, api.Told{N: 8})
	s.Cut(2)
	wantAll(t, h, []byte("a\x00"))
	h.Do(api.Op{Do: api.DoWrite, At: 3, B: []byte("yz")})
	if s.Size() != 5 || s.Held() != 3 || string(s.Get(0, 9)) != "a\x00\x00yz" {
		t.Errorf("the span tells %v", stateOf(s))
	}
	h.Do(api.Op{Do: api.DoCut, At: 4})
	if from, to := s.Next(1); from != 3 || to != 4 {
		t.Errorf("the span tells %d to %d", from, to)
	}
}

// chance tells numbers that look like chance and are the same in each run.
type chance uint64

func (c *chance) below(n int) int {
	*c = *c*6364136223846793005 + 1442695040888963407
	return int(uint64(*c)>>33) % n
}

func (c *chance) op() api.Op {
	b := make([]byte, c.below(9))
	for i := range b {
		b[i] = byte(c.below(4))
	}
	op := api.Op{Do: int8(c.below(8) - 1), At: int64(c.below(40) - 2), N: c.below(30) - 2, B: b}
	if c.below(20) == 0 {
		op.At, op.B = api.MaxSize-2+int64(c.below(5)), nil
	}
	return op
}

// span does to the bytes and to their model what no handle can, or what one could.
func (p pair) span(c *chance) {
	switch at, n := c.below(40), c.below(9); c.below(3) {
	case 0:
		p.s.Punch(int64(at), int64(n))
		for i := at; i < at+n; i++ {
			p.m.data[i], p.m.wrote[i] = 0, false
		}
	case 1:
		p.s.Put(int64(at), []byte("+++++++++")[:n+1])
		p.m.write(int64(at), []byte("+++++++++")[:n+1])
	case 2:
		p.s.Cut(int64(at))
		p.m.cut(int64(at))
	}
}

// Handles of all sixteen sets over one s, with s itself used beside them: each op, through whichever it is done, tells what one list of bytes tells.
func TestP44ManyHandlesOneSpan(t *testing.T) {
	for seed := range 60 {
		c := chance(seed)
		p := pair{span.New(nil), newModel()}
		var l [16]*face.Handle
		for can := range l {
			l[can] = fileOf(t, p.s, uint8(can))
		}
		for range 200 {
			if c.below(8) == 0 {
				p.span(&c)
			}
			can, op := c.below(16), c.op()
			wantTold(t, l[can], op, p.m.do(uint8(can), op))
			p.m.wantState(t, p.s, l[c.below(16)|4], 4)
		}
		if t.Failed() {
			t.Fatalf("seed %d", seed)
		}
	}
}

// What two handles over one s can differs at most; neither is the other.
func TestP44TwoHandles(t *testing.T) {
	for one := range uint8(16) {
		for two := range uint8(16) {
			s := holed()
			a, b := fileOf(t, s, one), fileOf(t, s, two)
			if a == b || a.File() == b.File() {
				t.Fatal("two handles are the same")
			}
			e := a.Do(api.Op{Do: api.DoWrite, At: 4, B: []byte("new")}).E
			if (e == api.OK) != (one&1 == 1) {
				t.Errorf("sets %d and %d: a write answers %v", one, two, e)
			}
			if e == api.OK {
				wantAll(t, b, []byte("abc\x00new\x00\x00\x00"))
			}
			if two&2 != 0 {
				wantTold(t, b, api.Op{Do: api.DoCut, At: 2}, api.Told{})
				wantAll(t, a, []byte("ab"))
			}
			wantTold(t, a, api.Op{}, b.Do(api.Op{}))
		}
	}
}
