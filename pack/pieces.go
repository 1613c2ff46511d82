package pack

const (
	runMost    = 128 // bytes of a run
	matchLeast = 3   // bytes of a match
	matchMost  = 130
	backMost   = 255 // places from a byte of a match to the one that it repeats
	matchFirst = 128 // bytes from here on begin a match
)

// match is a match: how many bytes it stands for, and how many places ahead the bytes stand that it repeats. One of no bytes is none.
type match struct{ long, back int }

// longest looks for the longest match that could stand at a place of b.
func longest(b []byte, at int) match {
	rest := b[at:min(at+matchMost, len(b))]
	best := match{long: matchLeast - 1}
next:
	for back := 1; back <= min(at, backMost) && best.long < len(rest); back++ {
		end := at - back + len(rest)
		ahead := b[at-back : end : end]
		for k := range best.long + 1 {
			if ahead[k] != rest[k] {
				continue next // of several of one length the first one stays, whose back is the least
			}
		}
		best = match{alike(ahead, rest), back}
	}
	if best.back == 0 {
		return match{}
	}
	return best
}

// alike tells how many bytes a and b, which are of one length, begin with that are the same.
func alike(a, b []byte) int {
	for k := range a {
		if a[k] != b[k] {
			return k
		}
	}
	return len(a)
}

// putPieces lays the pieces of b into out, and tells how many bytes they take.
func putPieces(out, b []byte) int {
	n := 0
	for at := 0; at < len(b); {
		from, m := at, match{}
	run:
		for ; at < len(b); at++ {
			switch m = longest(b, at); {
			case m.long > 0, at-from == runMost:
				break run
			}
		}
		n += putRun(out[n:], b[from:at])
		n += putMatch(out[n:], m)
		at += m.long
	}
	return n
}

// putRun lays a run into out, if it has bytes, and tells how many it takes.
func putRun(out, run []byte) int {
	if len(run) == 0 {
		return 0
	}
	out[0] = byte(len(run) - 1)
	return 1 + copy(out[1:], run)
}

// putMatch lays a match into out, if it is one, and tells how many bytes it takes.
func putMatch(out []byte, m match) int {
	if m.long == 0 {
		return 0
	}
	return copy(out, []byte{byte(m.long - matchLeast + matchFirst), byte(m.back)})
}

// room is how many bytes the packed ones of n bytes take at most: a match takes fewer than it stands for, which makes up for the run ahead of it; full runs, and one at the end, take a byte more each.
func room(n int) int { return headSize + n + (n+runMost-1)/runMost }
