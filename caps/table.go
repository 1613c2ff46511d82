package caps

import "mantle/api"

// ask is a cell of the table: whether a wrapper has something, by what the
// files below can.
type ask func(below []uint8) bool

// row is a row of the table: over how many files a wrapper stands, and what it
// has of what they can. Its cells are asked only with so many files.
type row struct {
	least, most             int
	write, cut, holes, sync ask
}

// rowOf tells the row of a kind of wrappers, and whether there is one.
func rowOf(kind int8) (row, bool) {
	rows := table()
	if kind < 0 || int(kind) >= len(rows) {
		return row{}, false
	}
	return rows[kind], true
}

// table is the chapter's table. (Of one file, all of them have what it has.)
func table() [api.WrapRead + 1]row {
	write, cut := all(api.CanWrite), all(api.CanCut)
	holes, sync := all(api.CanHoles), all(api.CanSync)
	logged := both(write, has(1, api.CanCut)) // a journal empties its log by a Cut
	return [...]row{
		api.WrapWindow:  {1, 1, write, no, holes, sync},
		api.WrapJoin:    {1, api.MaxParts, write, no, holes, sync},
		api.WrapTee:     {2, 2, write, cut, has(0, api.CanHoles), sync},
		api.WrapCache:   {1, 1, write, cut, holes, sync},
		api.WrapBuffer:  {1, 1, write, cut, no, either(sync, write)},
		api.WrapSum:     {2, 2, write, no, no, sync},
		api.WrapPack:    {1, 1, no, no, no, no},
		api.WrapCipher:  {1, 1, write, both(write, cut), no, sync},
		api.WrapJournal: {2, 2, logged, both(logged, has(0, api.CanCut)), no, logged},
		api.WrapQuota:   {1, 1, write, cut, holes, sync},
		api.WrapRead:    {1, 1, no, no, holes, no},
	}
}

// over puts the answers of the row's cells together.
func (r row) over(below []uint8) uint8 {
	can := uint8(0)
	if r.write(below) {
		can |= api.CanWrite
	}
	if r.cut(below) {
		can |= api.CanCut
	}
	if r.holes(below) {
		can |= api.CanHoles
	}
	if r.sync(below) {
		can |= api.CanSync
	}
	return can
}

// shared tells what all of some files have.
func shared(files ...uint8) uint8 {
	can := uint8(full)
	for _, f := range files {
		can &= f
	}
	return can
}

// all asks whether each file below has the bit.
func all(bit uint8) ask {
	return func(below []uint8) bool { return shared(below...)&bit != 0 }
}

// has asks whether the file at place i has the bit.
func has(i int, bit uint8) ask {
	return func(below []uint8) bool { return below[i]&bit != 0 }
}

func both(a, b ask) ask {
	return func(below []uint8) bool { return a(below) && b(below) }
}

func either(a, b ask) ask {
	return func(below []uint8) bool { return a(below) || b(below) }
}

func no([]uint8) bool { return false }
