package rights

import (
	"bytes"

	"mantle/api"
)

// guard is a file that asks ahead of each call. What the file below can't is nil; the handle hides it then.
type guard struct {
	ask    func(right uint8) api.Errno
	file   api.File
	writer api.Writer
	cutter api.Cutter
	holer  api.Holer
	syncer api.Syncer
}

// leaves is what rights leave of what a file can. Sync stays without any, and is refused.
func leaves(rights uint8) uint8 {
	can := uint8(api.CanSync)
	if rights&api.RightWrite != 0 {
		can |= api.CanWrite | api.CanCut
	}
	if rights&api.RightRead != 0 {
		can |= api.CanHoles
	}
	return can
}

// over finds out what a file can. It calls nothing of it.
func over(below api.File, ask func(right uint8) api.Errno) *guard {
	g := &guard{ask: ask, file: below}
	if w, ok := below.(api.Writer); ok {
		g.writer = w
	}
	if c, ok := below.(api.Cutter); ok {
		g.cutter = c
	}
	if h, ok := below.(api.Holer); ok {
		g.holer = h
	}
	if s, ok := below.(api.Syncer); ok {
		g.syncer = s
	}
	return g
}

// Size: P17.5.
func (g *guard) Size() int64 {
	if g.ask(api.RightRead) != api.OK {
		return 0
	}
	return g.file.Size()
}

// ReadAt: P17.5. The file may tell its own memory: the caller gets new one.
func (g *guard) ReadAt(at int64, n int) ([]byte, api.Errno) {
	if e := g.ask(api.RightRead); e != api.OK {
		return nil, e
	}
	b, e := g.file.ReadAt(at, n)
	return bytes.Clone(b), e
}

// WriteAt: P17.5. The file may keep or change what it is handed: it gets bytes of its own.
func (g *guard) WriteAt(at int64, b []byte) api.Errno {
	if e := g.ask(api.RightWrite); e != api.OK {
		return e
	}
	return g.writer.WriteAt(at, bytes.Clone(b))
}

// Cut: P17.5.
func (g *guard) Cut(size int64) api.Errno {
	if e := g.ask(api.RightWrite); e != api.OK {
		return e
	}
	return g.cutter.Cut(size)
}

// Next: P17.5.
func (g *guard) Next(at int64) (from, to int64) {
	if g.ask(api.RightRead) != api.OK {
		return 0, 0
	}
	return g.holer.Next(at)
}

// Sync: P17.5.
func (g *guard) Sync() api.Errno {
	if e := g.ask(api.RightWrite); e != api.OK {
		return e
	}
	return g.syncer.Sync()
}
