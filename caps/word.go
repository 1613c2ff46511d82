package caps

import "mantle/api"

// alone is the text of the set in which nothing is; it stands beside no word.
const alone = "read"

// word is how one bit of a set is told.
type word struct {
	bit  uint8
	text string
}

// words are in the order in which a text has them, and their bits rise.
var words = [...]word{
	{api.CanWrite, "write"},
	{api.CanCut, "cut"},
	{api.CanHoles, "holes"},
	{api.CanSync, "sync"},
}

// bitOf tells the bit of a word, 0 if it is none of them.
func bitOf(text string) uint8 {
	for _, w := range words {
		if w.text == text {
			return w.bit
		}
	}
	return 0
}
