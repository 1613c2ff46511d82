package join

import "mantle/api"

// file is a join's file: it has the methods of all that a join can.
type file struct{ parts []part }

// can tells what all parts can. There is no Cut in it: the inner parts' lengths are their own.
func (f *file) can() uint8 {
	can := uint8(api.CanWrite | api.CanHoles | api.CanSync)
	for i := range len(f.parts) {
		if f.parts[i].writer == nil {
			can &^= api.CanWrite
		}
		if f.parts[i].holer == nil {
			can &^= api.CanHoles
		}
		if f.parts[i].syncer == nil {
			can &^= api.CanSync
		}
	}
	return can
}

// borders asks each part's Size once, so that one call goes by the same places to its end. No Size is taken for more than one above MaxSize: their sum can't wrap round.
func (f *file) borders() borders {
	l := make(borders, len(f.parts)+1)
	for i := range len(f.parts) {
		l[i+1] = l[i] + min(max(f.parts[i].file.Size(), 0), api.MaxSize+1)
	}
	return l
}

// along does what falls to each part of the bytes from at up to end, in order, for as long as it answers true. A part to which nothing falls is left out.
func (f *file) along(l borders, at, end int64, do func(s share) bool) {
	for i := range len(f.parts) {
		from, to := max(at, l[i]), min(end, l[i+1])
		if from < to && !do(share{f.parts[i], l[i], from, to}) {
			return
		}
	}
}

// Size: P6.2.
func (f *file) Size() int64 { return f.borders().size() }

// ReadAt: P6.2. A part that tells less than its Size ends the read, too: what lies behind would be told in a wrong place.
func (f *file) ReadAt(at int64, n int) ([]byte, api.Errno) {
	if at < 0 || n < 0 {
		return nil, api.ErrArg
	}
	if n > api.MaxText {
		return nil, api.ErrLong
	}
	l := f.borders()
	size := l.size()
	at = min(at, size) // at+n might wrap round
	var out []byte
	e := api.OK
	f.along(l, at, min(at+int64(n), size), func(s share) bool {
		var b []byte
		b, e = s.read()
		out = append(out, b...)
		return e == api.OK && at+int64(len(out)) == s.to
	})
	if e != api.OK {
		return nil, e
	}
	return out, api.OK
}

// WriteAt: P6.3.
func (f *file) WriteAt(at int64, b []byte) api.Errno {
	n := int64(len(b))
	if at < 0 {
		return api.ErrArg
	}
	if n > api.MaxText || at > api.MaxSize-n {
		return api.ErrLong
	}
	if n == 0 {
		return api.OK
	}
	l := f.borders()
	if at+n > l.size() {
		return api.ErrLong
	}
	e := api.OK
	f.along(l, at, at+n, func(s share) bool {
		e = s.write(b[s.from-at : s.to-at])
		return e == api.OK
	})
	return e
}

// Next: P6.4. While nothing is found from and to are the same; what is found goes on for as long as it fills the parts up to their ends.
func (f *file) Next(at int64) (from, to int64) {
	l := f.borders()
	size := l.size()
	from, to = size, size
	f.along(l, max(at, 0), size, func(s share) bool {
		begin, end := s.first()
		if from == to {
			from, to = begin, end
		} else if begin == to {
			to = end
		}
		return from == to || to == s.to
	})
	return from, to
}

// Sync: P6.4.
func (f *file) Sync() api.Errno {
	for i := range len(f.parts) {
		if e := f.parts[i].syncer.Sync(); e != api.OK {
			return e
		}
	}
	return api.OK
}
