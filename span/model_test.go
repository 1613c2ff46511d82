package span_test

import (
	"bytes"
	"fmt"
	"testing"

	"mantle/api"
	"mantle/span"
)

// model is what span promises, a byte at a time: what stands there, and
// whether it was written.
type model struct {
	data  []byte
	wrote []bool
}

func newModel(b []byte) *model {
	m := &model{}
	m.put(0, b)
	return m
}

func (m *model) cut(size int) {
	for len(m.data) < size {
		m.data, m.wrote = append(m.data, 0), append(m.wrote, false)
	}
	m.data, m.wrote = m.data[:size], m.wrote[:size]
}

func (m *model) put(at int, b []byte) {
	if len(b) == 0 {
		return
	}
	m.cut(max(len(m.data), at+len(b)))
	for i, x := range b {
		m.data[at+i], m.wrote[at+i] = x, true
	}
}

func (m *model) punch(at, n int) {
	for i := at; i < min(at+n, len(m.data)); i++ {
		m.data[i], m.wrote[i] = 0, false
	}
}

func (m *model) held() (n int64) {
	for _, w := range m.wrote {
		if w {
			n++
		}
	}
	return n
}

func (m *model) next(at int) (from, to int64) {
	at = max(at, 0)
	for at < len(m.data) && !m.wrote[at] {
		at++
	}
	if at >= len(m.data) {
		return int64(len(m.data)), int64(len(m.data))
	}
	end := at
	for end < len(m.data) && m.wrote[end] {
		end++
	}
	return int64(at), int64(end)
}

// differs tells in what s differs from m; "" if in nothing.
func (m *model) differs(s *span.Bytes) string {
	if s.Size() != int64(len(m.data)) {
		return fmt.Sprintf("Size %d, want %d", s.Size(), len(m.data))
	}
	if s.Held() != m.held() {
		return fmt.Sprintf("Held %d, want %d", s.Held(), m.held())
	}
	for at := 0; at <= len(m.data); at++ {
		if got := s.Get(int64(at), len(m.data)); !bytes.Equal(got, m.data[at:]) {
			return fmt.Sprintf("Get(%d) %q, want %q", at, got, m.data[at:])
		}
	}
	for at := -1; at <= len(m.data)+1; at++ {
		from, to := s.Next(int64(at))
		if f, u := m.next(at); from != f || to != u {
			return fmt.Sprintf("Next(%d) %d %d, want %d %d", at, from, to, f, u)
		}
	}
	return ""
}

// step is one change, done to bytes and to their model.
type step struct {
	do    string
	at, n int
}

func (p step) run(s *span.Bytes, m *model, b byte) {
	switch p.do {
	case "Put":
		text := bytes.Repeat([]byte{b}, p.n)
		s.Put(int64(p.at), text)
		m.put(p.at, text)
	case "Cut":
		s.Cut(int64(p.at))
		m.cut(p.at)
	case "Punch":
		s.Punch(int64(p.at), int64(p.n))
		m.punch(p.at, p.n)
	}
}

func smallSteps() []step {
	var l []step
	for at := range 6 {
		for n := range 4 {
			l = append(l, step{"Put", at, n}, step{"Punch", at, n})
		}
	}
	for size := range 8 {
		l = append(l, step{"Cut", size, 0})
	}
	return l
}

// TestThreeSteps does whatever can be done in three small steps.
func TestThreeSteps(t *testing.T) {
	steps := smallSteps()
	for _, begin := range []string{"", "abcdef"} {
		for _, p := range steps {
			for _, q := range steps {
				for _, r := range steps {
					s, m := span.New([]byte(begin)), newModel([]byte(begin))
					p.run(s, m, 'x')
					q.run(s, m, 0)
					r.run(s, m, 'z')
					if d := m.differs(s); d != "" {
						t.Fatalf("%q, %v, %v, %v: %s", begin, p, q, r, d)
					}
				}
			}
		}
	}
}

// chance tells numbers that look like chance and are the same in each run.
type chance uint64

func (c *chance) below(n int) int {
	*c = *c*6364136223846793005 + 1442695040888963407
	return int(uint64(*c)>>33) % n
}

func (c *chance) step(size int) step {
	do := []string{"Put", "Put", "Put", "Punch", "Punch", "Cut"}[c.below(6)]
	return step{do, c.below(size), c.below(size / 4)}
}

// TestManySteps: P1.1 to P1.7 against the model, with a twin that stands still
// (P1.9).
func TestManySteps(t *testing.T) {
	for seed := range 200 {
		c := chance(seed)
		size := 8 + c.below(200)
		s, m := span.New(nil), newModel(nil)
		for i := range 100 {
			twin, was := s.Twin(), m.data
			p := c.step(size)
			m.data = bytes.Clone(m.data)
			p.run(s, m, byte(c.below(4)))
			if d := m.differs(s); d != "" {
				t.Fatalf("seed %d, step %d, %v: %s", seed, i, p, d)
			}
			if got := twin.Get(0, api.MaxText); !bytes.Equal(got, was) {
				t.Fatalf("seed %d, step %d, %v: the twin tells %q, want %q", seed, i, p, got, was)
			}
		}
	}
}

// TestP16PutsApart: two Puts that do not meet come to the same either way
// round, and leave all other bytes as they were.
func TestP16PutsApart(t *testing.T) {
	for at := range 12 {
		for other := range 12 {
			if other < at+3 && at < other+2 {
				continue
			}
			one, two := span.New([]byte("abcdef")), span.New([]byte("abcdef"))
			one.Put(int64(at), []byte("XYZ"))
			one.Put(int64(other), []byte("12"))
			two.Put(int64(other), []byte("12"))
			two.Put(int64(at), []byte("XYZ"))
			m := newModel([]byte("abcdef"))
			m.put(at, []byte("XYZ"))
			m.put(other, []byte("12"))
			if d := m.differs(one) + m.differs(two); d != "" {
				t.Errorf("%d, %d: %s", at, other, d)
			}
		}
	}
}

// TestP17Stretches: they rise, none is empty, no two touch, they make up Held,
// and beside them all reads as noughts.
func TestP17Stretches(t *testing.T) {
	c := chance(7)
	for range 100 {
		s := span.New(nil)
		for range 40 {
			c.step(300).run(s, newModel(nil), 1)
		}
		end, held := int64(-1), int64(0)
		for _, r := range stretches(s) {
			if r.From <= end || r.To <= r.From || r.To > s.Size() {
				t.Fatalf("a stretch %v behind %d", r, end)
			}
			end, held = r.To, held+r.To-r.From
		}
		if ones := bytes.Count(s.Get(0, api.MaxText), []byte{1}); held != s.Held() || int(held) != ones {
			t.Fatalf("stretches of %d bytes, Held %d, written %d", held, s.Held(), ones)
		}
	}
}
