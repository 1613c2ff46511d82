package archive_test

import (
	"slices"

	"mantle/api"
)

// chance is a row of numbers that hangs on its beginning alone.
type chance uint64

func (c *chance) below(n int) int {
	*c = *c*6364136223846793005 + 1442695040888963407
	return int(uint64(*c)>>33) % n
}

func pick[T any](c *chance, l ...T) T { return l[c.below(len(l))] }

// path has few names, so that paths meet; some sort around a stroke.
func (c *chance) path() string {
	p := c.name()
	for c.below(3) == 0 {
		p += "/" + c.name()
	}
	return p
}

func (c *chance) name() string {
	return pick(c, "a", "b", "c", "a.", "a-", "a0", "ab", "\xff", "!", "...", "\x01")
}

func (c *chance) bytes(most int) []byte {
	b := make([]byte, c.below(most+1))
	for i := range b {
		b[i] = pick(c, 0, 1, 'M', 'x', 0xff, byte(c.below(256)))
	}
	return b
}

func (c *chance) item() api.Item {
	switch p := c.path(); c.below(5) {
	case 0:
		return dir(p)
	case 1:
		return white(p)
	case 2:
		return link(p, string(c.bytes(20)))
	default:
		return file(p, string(c.bytes(40)))
	}
}

// items are such as may be, in order.
func (c *chance) items(most int) (l list) {
	for range c.below(most + 1) {
		x := c.item()
		i := slices.IndexFunc(l, func(y api.Item) bool { return !ahead(y.Path, x.Path) })
		switch {
		case i < 0:
			l = append(l, x)
		case l[i].Path != x.Path:
			l = slices.Insert(l, i, x)
		}
	}
	return l
}

// spoilt are items of which some may not be, or do not stand where they may.
func (c *chance) spoilt(l list) list {
	for range c.below(3) {
		x := c.item()
		switch c.below(4) {
		case 0:
			x.Path = pick(c, "", "/", "/a", "a/", "a//b", ".", "..", "a/.", "./a", "a/..", "a/../b", "a\x00", "\x00", string(make([]byte, 65)))
		case 1:
			x.Kind = int8(c.below(256))
		case 2:
			x = api.Item{Path: x.Path, Kind: pick[int8](c, 1, 4), Data: c.bytes(2)}
		}
		l = slices.Insert(l, c.below(len(l)+1), x)
	}
	return l
}

// forged is a text of which all sums may be right, whatever it says.
func (c *chance) forged() []byte {
	l := rawsOf(c.spoilt(c.items(5)))
	count := len(l)
	for range c.below(2) * c.below(3) {
		if len(l) == 0 {
			break
		}
		x := &l[c.below(len(l))]
		switch c.below(6) {
		case 0:
			x.kind = byte(c.below(256))
		case 1:
			x.long += uint16(pick(c, 1, 65535, 256, 65280, c.below(65536)))
		case 2:
			x.less += uint16(pick(c, 1, 65535, 256, 65280, c.below(65536)))
		case 3:
			x.dataLong += uint32(pick(c, 1, 65535, 256, 1<<16, 1<<24, c.below(1<<30)))
		case 4:
			x.rest += uint32(pick(c, 1, 65535, 256, 1<<16, 1<<24, c.below(1<<30)))
		default:
			x.off = 1 << c.below(64)
		}
	}
	if c.below(8) == 0 {
		count += pick(c, 1, -1, 256, 1<<24)
	}
	b := ended(textOf(l...), count)
	switch c.below(8) {
	case 0:
		b = append(b, c.bytes(3)...)
	case 1:
		b[c.below(len(b))] ^= 1 << c.below(8)
	case 2:
		b = b[:c.below(len(b)+1)]
	}
	return b
}

// cuts are places in a text, rising.
func (c *chance) cuts(n, most int) (ends []int) {
	for range c.below(most + 1) {
		ends = append(ends, c.below(n+1))
	}
	slices.Sort(ends)
	return ends
}
