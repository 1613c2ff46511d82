package archive_test

import (
	"encoding/binary"
	"hash/fnv"
	"strings"

	"mantle/api"
)

// What the chapter says, word for word, on texts that are there as a whole.

func file(path, b string) api.Item { return api.Item{Path: path, Data: []byte(b)} }

func dir(path string) api.Item { return api.Item{Path: path, Kind: api.NodeDir} }

func link(path, to string) api.Item {
	return api.Item{Path: path, Kind: api.NodeLink, Data: []byte(to)}
}

func white(path string) api.Item { return api.Item{Path: path, Kind: api.NodeWhite} }

// ahead is the order of paths: byte by byte, and the shorter one first.
func ahead(a, b string) bool {
	for i := range min(len(a), len(b)) {
		if a[i] != b[i] {
			return a[i] < b[i]
		}
	}
	return len(a) < len(b)
}

// isPath tells whether a text is what chapter 20's Clean tells of it, and not empty.
func isPath(p string) bool {
	for name := range strings.SplitSeq(p, "/") {
		if len(name) < 1 || len(name) > 64 || name == "." || name == ".." || strings.IndexByte(name, 0) >= 0 {
			return false
		}
	}
	return len(p) <= 4096
}

// paperMay tells whether an item may be.
func paperMay(x api.Item) bool {
	if !isPath(x.Path) || len(x.Data) > 4194304 {
		return false
	}
	switch x.Kind {
	case 0, 2:
		return true
	case 1, 4:
		return len(x.Data) == 0
	}
	return false
}

func paperSum(b []byte) uint64 {
	h := fnv.New64a()
	h.Write(b)
	return h.Sum64()
}

// raw is what the bytes of an item say, be it right or not.
type raw struct {
	kind           byte
	long, less     uint16 // of path
	path           string
	dataLong, rest uint32 // of data
	data           string
	off            uint64 // the bits in which its sum is another one
}

func rawOf(x api.Item) raw {
	p, d := len(x.Path), len(x.Data)
	return raw{byte(x.Kind), uint16(p), uint16(65535 - p), x.Path, uint32(d), uint32(4294967295 - d), string(x.Data), 0}
}

func (x raw) text() []byte {
	b := []byte{x.kind}
	b = binary.BigEndian.AppendUint16(b, x.long)
	b = binary.BigEndian.AppendUint16(b, x.less)
	b = append(b, x.path...)
	b = binary.BigEndian.AppendUint32(b, x.dataLong)
	b = binary.BigEndian.AppendUint32(b, x.rest)
	b = append(b, x.data...)
	return binary.BigEndian.AppendUint64(b, paperSum(b)^x.off)
}

// textOf is the first four and items, without an end.
func textOf(l ...raw) []byte {
	b := []byte{0x4d, 0x54, 0x41, 0x31}
	for _, x := range l {
		b = append(b, x.text()...)
	}
	return b
}

// ended is a text with an end behind it.
func ended(b []byte, count int) []byte {
	b = append(b[:len(b):len(b)], 0xff)
	b = binary.BigEndian.AppendUint32(b, uint32(count))
	return binary.BigEndian.AppendUint64(b, paperSum(b))
}

// rawsOf are items as they are told.
func rawsOf(l []api.Item) (out []raw) {
	for _, x := range l {
		out = append(out, rawOf(x))
	}
	return out
}

// paperWrite is P26.1.
func paperWrite(l []api.Item) ([]byte, api.Errno, int) {
	if len(l) > 4096 {
		return nil, api.ErrLong, 4096
	}
	for i, x := range l {
		if paperMay(x) && (i == 0 || ahead(l[i-1].Path, x.Path)) {
			continue
		}
		if len(x.Data) > 4194304 {
			return nil, api.ErrLong, i
		}
		return nil, api.ErrArg, i
	}
	return ended(textOf(rawsOf(l)...), len(l)), api.OK, 0
}

// story is what comes to pass while a text comes to a reader.
type story struct {
	items  []api.Item
	bounds []int // how many bytes have come when nothing is held: behind the first four, each item, the end
	end    int   // the bytes up to the end, with it, or -1
	torn   int   // the byte that cannot stand where it stands, or -1
}

// paperRead is P26.2.
func paperRead(b []byte) story {
	s := story{bounds: []int{0}, end: -1, torn: -1}
	for i := range 4 {
		if i == len(b) {
			return s
		}
		if b[i] != "MTA1"[i] {
			s.torn = i
			return s
		}
	}
	at, last := 4, ""
	for {
		s.bounds = append(s.bounds, at)
		if at == len(b) {
			return s
		}
		if b[at] == 0xff {
			s.readEnd(b, at)
			return s
		}
		x, n, torn := paperItem(b[at:], last, len(s.items))
		if torn >= 0 {
			s.torn = at + torn
			return s
		}
		if n < 0 {
			return s
		}
		s.items = append(s.items, x)
		at, last = at+n, x.Path
	}
}

// readEnd goes over the end, which begins at a place.
func (s *story) readEnd(b []byte, at int) {
	if len(b) < at+5 {
		return
	}
	if int(binary.BigEndian.Uint32(b[at+1:])) != len(s.items) {
		s.torn = at + 4
		return
	}
	if len(b) < at+13 {
		return
	}
	if binary.BigEndian.Uint64(b[at+5:]) != paperSum(b[:at+5]) {
		s.torn = at + 12
		return
	}
	s.end = at + 13
	s.bounds = append(s.bounds, s.end)
	if len(b) > s.end {
		s.torn = s.end
	}
}

// paperItem reads an item behind a path and count others: it, its bytes or -1 if it is not whole, and the byte that cannot stand or -1.
func paperItem(b []byte, last string, count int) (x api.Item, n, torn int) {
	kind := b[0]
	if count == 4096 || kind != 0 && kind != 1 && kind != 2 && kind != 4 {
		return x, -1, 0
	}
	if len(b) < 5 {
		return x, -1, -1
	}
	p := int(binary.BigEndian.Uint16(b[1:]))
	if p+int(binary.BigEndian.Uint16(b[3:])) != 65535 || p < 1 || p > 4096 {
		return x, -1, 4
	}
	if len(b) < 5+p {
		return x, -1, -1
	}
	x.Path = string(b[5 : 5+p])
	if !isPath(x.Path) || !ahead(last, x.Path) {
		return x, -1, 4 + p
	}
	if len(b) < 13+p {
		return x, -1, -1
	}
	d := int(binary.BigEndian.Uint32(b[5+p:]))
	if d+int(binary.BigEndian.Uint32(b[9+p:])) != 4294967295 || d > 4194304 || d > 0 && kind != 0 && kind != 2 {
		return x, -1, 12 + p
	}
	n = 13 + p + d + 8
	if len(b) < n {
		return x, -1, -1
	}
	if binary.BigEndian.Uint64(b[n-8:]) != paperSum(b[:n-8]) {
		return x, -1, n - 1
	}
	x.Kind, x.Data = int8(kind), b[13+p:n-8]
	return x, n, -1
}

// isTorn tells whether the reader is torn when so many bytes have come.
func (s *story) isTorn(came int) bool { return s.torn >= 0 && came > s.torn }

// isDone is the first half of P26.3.
func (s *story) isDone(came int) bool { return s.end >= 0 && came == s.end }

// told is how many items were told by then.
func (s *story) told(came int) (n int) {
	for n < len(s.items) && s.bounds[n+2] <= came {
		n++
	}
	return n
}

// held is the other half of P26.3.
func (s *story) held(came int) int {
	if s.isTorn(came) {
		return 0
	}
	last := 0
	for _, at := range s.bounds {
		if at <= came {
			last = at
		}
	}
	return came - last
}
