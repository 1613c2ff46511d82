package join

import "mantle/api"

// part is a file of a join, and the same file as what else it can; what it can't is nil.
type part struct {
	file   api.File
	writer api.Writer
	holer  api.Holer
	syncer api.Syncer
}

// ask finds out what a file can.
func ask(f api.File) part {
	p := part{file: f}
	if w, ok := f.(api.Writer); ok {
		p.writer = w
	}
	if h, ok := f.(api.Holer); ok {
		p.holer = h
	}
	if s, ok := f.(api.Syncer); ok {
		p.syncer = s
	}
	return p
}

// share is what falls to a part of the bytes that a call goes through: at least one.
type share struct {
	part
	begin    int64 // where the part begins
	from, to int64 // which bytes they are, as the join counts them
}

// read reads the share's bytes, or those of them that the part tells.
func (s share) read() ([]byte, api.Errno) {
	n := int(s.to - s.from)
	b, e := s.file.ReadAt(s.from-s.begin, n)
	return b[:min(len(b), n)], e
}

// write writes b there, which is as long as the share. b's room ends with it: behind it stands what falls to the next part.
func (s share) write(b []byte) api.Errno {
	return s.writer.WriteAt(s.from-s.begin, b[:len(b):len(b)])
}

// first is the first stretch within the share; of none, the share's end twice.
func (s share) first() (from, to int64) {
	at, end := s.from-s.begin, s.to-s.begin
	from, to = s.holer.Next(at)
	from, to = max(from, at), min(to, end)
	if from >= to {
		return s.to, s.to
	}
	return s.begin + from, s.begin + to
}

// borders are where the parts begin, one behind the other, and where the last one ends.
type borders []int64

func (l borders) end() int64 { return l[len(l)-1] }

// size is the join's Size: what parts that grew have behind MaxSize is not there.
func (l borders) size() int64 { return min(l.end(), api.MaxSize) }
