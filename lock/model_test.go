package lock_test

import (
	"math/big"
	"slices"

	"mantle/api"
)

// paper is a table on paper: the chapter's words, one by one.
type paper struct{ held, waits []api.Lock }

// may tells whether a lock may be. The sum is one of arithmetic.
func may(l api.Lock) bool {
	sum := new(big.Int).Add(big.NewInt(l.At), big.NewInt(l.N))
	most := new(big.Int).Lsh(big.NewInt(1), 62)
	return l.Who >= 0 && l.Who <= 255 && l.At >= 0 && l.N >= 0 && sum.Cmp(most) <= 0
}

// has tells whether a place is one of a lock's.
func has(l api.Lock, place int64) bool {
	return place >= l.At && (l.N == 0 || place-l.At < l.N)
}

// meets: two stretches that have a place in common have the later one's first in common.
func meets(a, b api.Lock) bool {
	common := has(a, b.At) || has(b, a.At)
	return common && a.Who != b.Who && !(a.Share && b.Share)
}

func (p *paper) clone() paper { return paper{slices.Clone(p.held), slices.Clone(p.waits)} }

// kept tells whether a lock meets a held one, or one of the first n that wait.
func (p *paper) kept(l api.Lock, n int) bool {
	for _, x := range p.held {
		if meets(l, x) {
			return true
		}
	}
	for _, x := range p.waits[:n] {
		if meets(l, x) {
			return true
		}
	}
	return false
}

// waitsFor tells who waits for whom.
func (p *paper) waitsFor() map[int]map[int]bool {
	m := map[int]map[int]bool{}
	for i, l := range p.waits {
		for _, x := range append(slices.Clone(p.held), p.waits[:i]...) {
			if meets(l, x) {
				if m[l.Who] == nil {
					m[l.Who] = map[int]bool{}
				}
				m[l.Who][x.Who] = true
			}
		}
	}
	return m
}

// circle: those who wait for nobody are struck out, again and again. Who is left then waits for one who is left.
func (p *paper) circle() bool {
	m := p.waitsFor()
	for struck := true; struck; {
		struck = false
		for who, others := range m {
			for x := range others {
				if m[x] == nil {
					delete(others, x)
				}
			}
			if len(others) == 0 {
				delete(m, who)
				struck = true
			}
		}
	}
	return len(m) > 0
}

func (p *paper) refuses(l api.Lock) api.Errno {
	if !may(l) {
		return api.ErrArg
	}
	if len(p.held)+len(p.waits) == 256 {
		return api.ErrFull
	}
	return api.OK
}

func (p *paper) try(l api.Lock) api.Errno {
	if e := p.refuses(l); e != api.OK {
		return e
	}
	if p.kept(l, len(p.waits)) {
		return api.ErrLock
	}
	p.held = append(p.held, l)
	return api.OK
}

func (p *paper) wait(l api.Lock) (bool, api.Errno) {
	if e := p.refuses(l); e != api.OK {
		return false, e
	}
	if !p.kept(l, len(p.waits)) {
		p.held = append(p.held, l)
		return true, api.OK
	}
	with := p.clone()
	with.waits = append(with.waits, l)
	if with.circle() {
		return false, api.ErrDead
	}
	*p = with
	return false, api.OK
}

func (p *paper) free(l api.Lock) ([]api.Lock, api.Errno) {
	if !may(l) {
		return nil, api.ErrArg
	}
	i := slices.Index(p.held, l)
	if i < 0 {
		return nil, api.ErrNone
	}
	p.held = slices.Delete(slices.Clone(p.held), i, i+1)
	return p.goOn(), api.OK
}

func (p *paper) leave(who int) []api.Lock {
	his := func(l api.Lock) bool { return l.Who == who }
	p.held = slices.DeleteFunc(slices.Clone(p.held), his)
	p.waits = slices.DeleteFunc(slices.Clone(p.waits), his)
	return p.goOn()
}

// goOn writes both lists anew.
func (p *paper) goOn() []api.Lock {
	before := len(p.held)
	row := p.waits
	p.waits = nil
	for _, l := range row {
		if p.kept(l, len(p.waits)) {
			p.waits = append(p.waits, l)
		} else {
			p.held = append(p.held, l)
		}
	}
	return slices.Clone(p.held[before:])
}

// chance is numbers in no order, the same ones at each run.
type chance uint64

func (c *chance) below(n int) int {
	*c = *c*6364136223846793005 + 1442695040888963407
	return int(uint64(*c) >> 33 % uint64(n))
}

// lock is one of a few whos, among a few places, so that many meet.
func (c *chance) lock(whos, places int) api.Lock {
	return api.Lock{Who: c.below(whos), At: int64(c.below(places)), N: int64(1 + c.below(3)), Share: c.below(3) == 0}
}

// any is a lock of any kind: one without an end, one at the bounds, one that may not be.
func (c *chance) any(whos, places int) api.Lock {
	l := c.lock(whos, places)
	switch c.below(24) {
	case 0:
		l.N = 0
	case 1:
		l.N = 1<<62 - l.At
	case 2:
		l.At = 1<<62 - l.N
	case 3:
		l.At = 1<<62 + 1 - l.N
	case 4:
		l.Who = []int{-1, 255, 256}[c.below(3)]
	}
	return l
}
