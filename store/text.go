package store

// A tree is written down as the entries of its root, each of them a mark for its kind, its name behind a byte that says how long that is, and then a file's or a link's bytes behind their number, or a directory's entries; behind the last entry of each directory stands the end's mark.
const (
	markEnd = iota
	markFile
	markDir
	markLink
)

// noRoom is what a pen falls with.
type noRoom struct{}

// pen writes a tree down, in at most so many bytes; where they do not suffice it gives up by panic.
type pen struct {
	text []byte
	room int
}

// written is a tree written down; a panic, if that takes more bytes than there is room for.
func written(root *dir, room int) []byte {
	p := &pen{room: room}
	p.dir(root)
	return p.text
}

func (p *pen) dir(d *dir) {
	for _, x := range d.entries {
		p.entry(x)
	}
	p.put(markEnd)
}

func (p *pen) entry(x entry) {
	switch n := x.node.(type) {
	case *file:
		p.name(markFile, x.name)
		p.bytes(n.data)
	case *dir:
		p.name(markDir, x.name)
		p.dir(n)
	case *link:
		p.name(markLink, x.name)
		p.bytes([]byte(n.to))
	}
}

func (p *pen) name(mark byte, name string) {
	p.put(mark, byte(len(name)))
	p.put([]byte(name)...)
}

// bytes writes bytes behind their number.
func (p *pen) bytes(b []byte) {
	p.put(spread(uint64(len(b)), lengthBytes)...)
	p.put(b...)
}

func (p *pen) put(b ...byte) {
	if len(b) > p.room-len(p.text) {
		panic(noRoom{})
	}
	p.text = append(p.text, b...)
}

// reader reads a tree that was written down. From the first thing on that is wrong it is bad, and reads noughts, at which every directory ends.
type reader struct {
	rest []byte
	bad  bool
}

// parsed is the tree that these bytes are; ok tells whether they are one that a store may have.
func parsed(text []byte) (root dir, ok bool) {
	r := &reader{rest: text}
	d := r.dir()
	if r.bad || len(r.rest) > 0 || len(complaints(d)) > 0 {
		return dir{}, false
	}
	return *d, true
}

func (r *reader) dir() *dir {
	d := &dir{}
	for {
		mark := r.byte()
		if mark == markEnd {
			return d
		}
		name := string(r.take(r.byte()))
		d.entries = append(d.entries, entry{name, r.node(mark)})
	}
}

func (r *reader) node(mark int) node {
	switch mark {
	case markFile:
		return &file{r.bytes()}
	case markDir:
		return r.dir()
	case markLink:
		return &link{string(r.bytes())}
	}
	r.fail()
	return nil
}

// bytes reads bytes behind their number.
func (r *reader) bytes() []byte { return r.take(int(number(r.take(lengthBytes)))) }

func (r *reader) byte() int { return int(r.take(1)[0]) }

// take reads so many bytes, into new memory.
func (r *reader) take(n int) []byte {
	b := make([]byte, n)
	if n > len(r.rest) {
		r.fail()
		return b
	}
	copy(b, r.rest)
	r.rest = r.rest[n:]
	return b
}

func (r *reader) fail() { r.bad, r.rest = true, nil }
