package grow

import "eden/api"

// beyondInts is what sizes are told up to: whatever is greater counts as it, and no int comes up to it.
const beyondInts = 1 << 63

// perLetter has a number for each letter: how often it stands in a word, or how many letters become of it.
type perLetter [api.MaxLetter]uint64

// count tells how often each letter stands in a word.
func count(word string) perLetter {
	var out perLetter
	for _, letter := range word {
		out[numberOf(letter)]++
	}
	return out
}

// countBehind counts the letters behind n rounds; ErrFull: a word on the way has more than bound, which is at most maxGrown.
func countBehind(images []string, word string, n, bound int) (perLetter, error) {
	var become [api.MaxLetter]perLetter
	for i, image := range images {
		become[i] = count(image)
	}
	now := count(word)
	for range n {
		// No number can wrap round: a word within the bound becomes one of at most MaxImage times maxGrown letters, and that is less than 2^64.
		now = now.round(become)
		if now.sum() > uint64(bound) {
			return perLetter{}, api.ErrFull
		}
	}
	return now, nil
}

func (each perLetter) round(become [api.MaxLetter]perLetter) perLetter {
	var out perLetter
	for from, image := range become {
		for to, times := range image {
			out[to] += each[from] * times
		}
	}
	return out
}

func (each perLetter) sum() uint64 {
	var out uint64
	for _, n := range each {
		out += n
	}
	return out
}

// sizesBehind tells how many letters become of each behind 0 rounds, 1, and so on up to n.
func sizesBehind(images []string, n int) []perLetter {
	out := make([]perLetter, n+1)
	for i := range images {
		out[0][i] = 1
	}
	for k := range n {
		for i, image := range images {
			out[k+1][i] = out[k].together(image)
		}
	}
	return out
}

// together is the size of what a word's letters become.
func (each perLetter) together(word string) uint64 {
	var out uint64
	for _, letter := range word {
		size := each[numberOf(letter)]
		if size > beyondInts-out {
			return beyondInts
		}
		out += size
	}
	return out
}

// look finds the letter numbered at of what a word becomes behind as many rounds as the last of sizes tells of.
func look(images []string, word string, sizes []perLetter, at uint64) string {
	rounds := len(sizes) - 1
	for _, letter := range word {
		size := sizes[rounds][numberOf(letter)]
		switch {
		case at >= size:
			at -= size
		case rounds == 0:
			return string(letter)
		default:
			return look(images, images[numberOf(letter)], sizes[:rounds], at)
		}
	}
	return ""
}
