package sums

import "eden/api"

// keeps tells whether what a ring weighs stays. A ring is a way through words of 2 Radius cells that ends where it began, each window being a step of it; so nothing changes on any ring, just if each word has a height, and each window changes as much as it leads upwards. The height of a word is what changes on the way to it from the word that is 0 all over.
func keeps(r api.Rule, weights []int) bool {
	words := len(r.Table) / r.States
	change := func(window int) int {
		return weights[r.Table[window]] - weights[window/words]
	}
	heights := make([]int, words)
	for word := 1; word < words; word++ {
		heights[word] = heights[word/r.States] + change(word)
	}
	for window := range r.Table {
		if change(window) != heights[window%words]-heights[window/r.States] {
			return false
		}
	}
	return true
}
