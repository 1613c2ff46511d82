package quota

import (
	"math"

	"mantle/api"
)

// Purse is how much may be had.
type Purse struct {
	left  int64
	aside int64 // so much of it is wanted by calls that are under way; none between calls
}

// during does something for which n bytes are wanted, which is not below 0. They are set aside meanwhile: a file farther down may have the same purse, and both together must not get more than is left.
func (p *Purse) during(n int64, do func() api.Errno) api.Errno {
	if n > max(less(p.left, p.aside), 0) { // a file that got longer than it was asked to leaves less than nothing; what wants nothing is done nevertheless
		return api.ErrQuota
	}
	p.aside += n
	e := do()
	p.aside -= n
	return e
}

// less is a - b, brought into what an int64 holds: files below may tell any Sizes.
func less(a, b int64) int64 {
	switch d := a - b; {
	case b < 0 && d < a:
		return math.MaxInt64
	case b > 0 && d > a:
		return math.MinInt64
	default:
		return d
	}
}
