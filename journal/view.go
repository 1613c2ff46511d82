package journal

import "mantle/api"

// end is where a file ends, as something that records are done to.
type end int64

func (n *end) WriteAt(at int64, b []byte) api.Errno {
	*n = max(*n, end(at+int64(len(b))))
	return api.OK
}

func (n *end) Cut(size int64) api.Errno {
	*n = end(size)
	return api.OK
}

// view is the bytes of a file from a place on, at most so many, as something that records are done to.
type view struct {
	at, most int64
	bytes    []byte
}

func (v *view) WriteAt(at int64, b []byte) api.Errno {
	v.fit(max(int64(len(v.bytes)), v.upTo(at+int64(len(b)))))
	to, from := max(at-v.at, 0), max(v.at-at, 0)
	if to < int64(len(v.bytes)) && from < int64(len(b)) {
		copy(v.bytes[to:], b[from:])
	}
	return api.OK
}

func (v *view) Cut(size int64) api.Errno {
	v.fit(v.upTo(size))
	return api.OK
}

// upTo is how many bytes there are to be seen of a file that ends there.
func (v *view) upTo(end int64) int64 { return min(max(end-v.at, 0), v.most) }

// fit makes the bytes so many: those that come to be are noughts, whatever was cut off there.
func (v *view) fit(n int64) {
	if has := int64(len(v.bytes)); n > has {
		v.bytes = append(v.bytes, make([]byte, n-has)...)
	}
	v.bytes = v.bytes[:n]
}
