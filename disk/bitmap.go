package disk

import "mantle/api"

// bitmap is the bytes of a disk's map.
type bitmap []byte

// bit is a block's bit in its byte of the map.
func bit(k int) byte { return 1 << (k % 8) }

// readMap reads the map of a disk of so many blocks; ErrDisk, if it is not all there.
func readMap(f api.File, blocks int) (bitmap, api.Errno) {
	n := int(place(firstData(blocks) - 1))
	m, e := read(f, place(1), n)
	if e != api.OK {
		return nil, e
	}
	if len(m) < n {
		return nil, api.ErrDisk
	}
	return m, api.OK
}

func (m bitmap) taken(k int) bool { return m[k/8]&bit(k) != 0 }

func (m bitmap) take(k int) { m[k/8] |= bit(k) }

// fits tells whether the head and the map are taken, and nothing from the disk's end on is.
func (m bitmap) fits(blocks int) bool {
	for k := range 8 * len(m) {
		if k < firstData(blocks) && !m.taken(k) || k >= blocks && m.taken(k) {
			return false
		}
	}
	return true
}
