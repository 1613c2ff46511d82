package cipher

import "bytes"

const (
	step         = 0x9E3779B97F4A7C15
	firstFactor  = 0xBF58476D1CE4E5B9
	secondFactor = 0x94D049BB133111EB
)

// numberSize is how many bytes of a stream one number makes.
const numberSize = 8

// stream is the stream of a key: the key is all that must be known of it.
type stream uint64

// number is the chapter's m(k). All that is reckoned wraps round.
func (s stream) number(k uint64) uint64 {
	z := uint64(s) + (k+1)*step
	z = (z ^ z>>30) * firstFactor
	z = (z ^ z>>27) * secondFactor
	return z ^ z>>31
}

// turned is b, the first byte of which stands at at, turned. Its last bytes may stand behind the highest int64: places are reckoned as uint64s.
func (s stream) turned(at int64, b []byte) []byte {
	out := bytes.Clone(b)
	place := uint64(at)
	number := s.number(place / numberSize)
	for i := range out {
		if place%numberSize == 0 {
			number = s.number(place / numberSize)
		}
		out[i] ^= byte(number >> (8 * (place % numberSize)))
		place++
	}
	return out
}
