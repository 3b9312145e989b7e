package grow

import "eden/api"

// Square looks for a word that stands there twice.
func Square(word string) (int, int, bool) {
	return twice(word, 0)
}

// Overlap looks for one that goes on, then, with its first letter.
func Overlap(word string) (int, int, bool) {
	return twice(word, 1)
}

// twice looks for a word, the same once more, and then so many more of its letters: for the least end, and of these the shortest.
func twice(text string, more int) (int, int, bool) {
	if len(text) > api.MaxText {
		return 0, 0, false
	}
	begin, long := 0, 0
	for size := 1; 2*size+more <= len(text); size++ {
		if at, ok := comesAgain(text, size, size+more); ok {
			begin, long = at, size
			// A longer one is better only if it ends sooner.
			text = text[:at+2*size+more-1]
		}
	}
	return begin, long, long > 0
}

// comesAgain looks for the first place from which on so many bytes are the same as those that stand size bytes behind them.
func comesAgain(text string, size, need int) (int, bool) {
	for at := 0; at+size+need <= len(text); {
		unlike := lastUnlike(text[at:at+need], text[at+size:at+size+need])
		if unlike < 0 {
			return at, true
		}
		// No place up to the unlike one can do, so that most bytes are never looked at.
		at += unlike + 1
	}
	return 0, false
}

// lastUnlike is the last place at which two texts of the same length are unlike; -1: there is none.
func lastUnlike(a, b string) int {
	for i := len(a) - 1; i >= 0; i-- {
		if a[i] != b[i] {
			return i
		}
	}
	return -1
}
