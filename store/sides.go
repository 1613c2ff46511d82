package store

import (
	"slices"

	"mantle/api"
	"mantle/disk"
	"mantle/face"
)

// version counts the trees that came to a disk, one behind the other, and wraps round. Each one lies on another side than the one ahead of it, which so stays whole until the new one is.
type version uint8

func (v version) side() int { return int(v % 2) }

// newer asks by the difference, as one of the two may have wrapped round.
func (v version) newer(w version) bool { return int8(v-w) > 0 }

// A side begins with a head: the sum of all that stands behind it, the signature, the version, and how many bytes the tree has that is written down behind the head.
const (
	sumBytes  = 8
	signature = "MSTO"
	headBytes = sumBytes + len(signature) + 1 + lengthBytes
)

// lengthBytes tell how long a tree or a part of it is. More bytes than they can tell have no room on any disk.
const lengthBytes = 2

// sideOf is what a side begins with that has this version, and the tree that is written down so. Nothing depends on the order in which its blocks come to the disk: as long as one is missing the sum is another one.
func sideOf(v version, text []byte) []byte {
	b := append([]byte(signature), byte(v))
	b = append(b, spread(uint64(len(text)), lengthBytes)...)
	b = append(b, text...)
	return append(spread(sum(b), sumBytes), b...)
}

// treeOn is the tree on a side of these bytes, and its version; ok tells whether one is there.
func treeOn(side []byte) (root dir, v version, ok bool) {
	if len(side) < headBytes {
		return dir{}, 0, false
	}
	length := int(number(side[headBytes-lengthBytes : headBytes]))
	if length > len(side)-headBytes {
		return dir{}, 0, false
	}
	summed := side[sumBytes : headBytes+length]
	if sum(summed) != number(side[:sumBytes]) || string(summed[:len(signature)]) != signature {
		return dir{}, 0, false
	}
	root, ok = parsed(side[headBytes : headBytes+length])
	return root, version(summed[len(signature)]), ok
}

// sides are the two halves of a disk's data blocks. A store has all of them taken from its beginning on, as nobody else is on its disk.
type sides struct {
	disk  *disk.Disk
	first int  // data block
	end   int  // behind the last one
	syncs bool // whether the file can be synced
}

func sidesOf(h *face.Handle, d *disk.Disk) sides {
	first, end := dataBlocks(d)
	return sides{d, first, end, h.Can()&api.CanSync != 0}
}

// dataBlocks tells from where to where a disk has data blocks. It is found out by what it refuses: what is no data block comes first, then bytes too long for one; and nothing is asked of the file ahead of these.
func dataBlocks(d *disk.Disk) (first, end int) {
	long := make([]byte, api.BlockSize+1)
	for k := range api.MaxBlocks {
		if d.Write(k, long) != api.ErrLong {
			continue
		}
		if end == 0 {
			first = k
		}
		end = k + 1
	}
	return first, end
}

// blocks are those of one side.
func (s sides) blocks() int { return (s.end - s.first) / 2 }

// room is for how many bytes of a tree that is written down there is room.
func (s sides) room() int { return api.BlockSize*s.blocks() - headBytes }

// begin is the first block of a side.
func (s sides) begin(side int) int { return s.first + side*s.blocks() }

// take takes all data blocks.
func (s sides) take() api.Errno {
	for range s.end - s.first {
		if _, e := s.disk.Take(); e != api.OK {
			return e
		}
	}
	return api.OK
}

// read reads a side; ErrDisk, if not all of it is taken.
func (s sides) read(side int) ([]byte, api.Errno) {
	var all []byte
	for i := range s.blocks() {
		b, e := s.disk.Read(s.begin(side) + i)
		if e == api.ErrNone {
			return nil, api.ErrDisk
		}
		if e != api.OK {
			return nil, e
		}
		all = append(all, b...)
	}
	return all, api.OK
}

// write writes what a side begins with; what stands behind that does not count.
func (s sides) write(side int, b []byte) api.Errno {
	k := s.begin(side)
	for piece := range slices.Chunk(b, api.BlockSize) {
		if e := s.disk.Write(k, piece); e != api.OK {
			return e
		}
		k++
	}
	return api.OK
}

// sync syncs the file, where it can.
func (s sides) sync() api.Errno {
	if !s.syncs {
		return api.OK
	}
	return s.disk.Sync()
}

// lay writes the tree on its side, as this version.
func (s *Store) lay(v version) api.Errno {
	return s.sides.write(v.side(), sideOf(v, written(&s.root, s.sides.room())))
}

// load reads the newer one of the trees that are on the two sides; ErrDisk, if there is none.
func (s *Store) load() api.Errno {
	found := false
	for side := range 2 {
		b, e := s.sides.read(side)
		if e != api.OK {
			return e
		}
		root, v, ok := treeOn(b)
		if !ok || v.side() != side || found && !v.newer(s.now) {
			continue
		}
		s.root, s.now, found = root, v, true
	}
	if !found {
		return api.ErrDisk
	}
	return api.OK
}
