package pack

const headSize = 4

// head is how many bytes packed ones stand for, as it stands ahead of the pieces.
func head(n int) []byte {
	return []byte{byte(n >> 24), byte(n >> 16), byte(n >> 8), byte(n)}
}

// said is what the head of packed bytes says.
func said(b []byte) uint32 {
	return uint32(b[0])<<24 | uint32(b[1])<<16 | uint32(b[2])<<8 | uint32(b[3])
}

// tell tells the n bytes that pieces stand for. ok is false, if a piece is none, or they stand for another number of bytes.
func tell(b []byte, n int) (out []byte, ok bool) {
	out = make([]byte, n)
	at := 0
pieces:
	for len(b) > 0 {
		switch c := int(b[0]); {
		case c < matchFirst:
			end := c + 2
			if end > len(b) || c+1 > n-at {
				break pieces
			}
			at += copy(out[at:], b[1:end])
			b = b[end:]
		default:
			if len(b) < 2 {
				break pieces
			}
			m := match{c - matchFirst + matchLeast, int(b[1])}
			if m.back == 0 || m.back > at || m.long > n-at {
				break pieces
			}
			at += repeat(out, at, m)
			b = b[2:]
		}
	}
	if len(b) > 0 || at < n {
		return nil, false
	}
	return out, true
}

// repeat lays the bytes of a match at a place of out, and tells how many they are. What was told since the byte that the match begins with goes round, so all of it may be taken at once: it gets longer each time.
func repeat(out []byte, at int, m match) int {
	from, end := at-m.back, at+m.long
	for at < end {
		at += copy(out[at:end], out[from:at:at])
	}
	return m.long
}
