package store

// number is bytes shifted together, the highest one first.
func number(b []byte) (n uint64) {
	for _, x := range b {
		n = n<<8 | uint64(x)
	}
	return n
}

// spread is a number in so many bytes, the highest one first.
func spread(n uint64, size int) []byte {
	b := make([]byte, size)
	for i := range b {
		b[i] = byte(n >> (8 * (size - 1 - i)))
	}
	return b
}

// sum tells bytes from others: s xor each byte, times a prime, modulo 2^64.
func sum(b []byte) uint64 {
	s := uint64(14695981039346656037)
	for _, x := range b {
		s ^= uint64(x)
		s *= 1099511628211
	}
	return s
}
