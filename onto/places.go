package onto

import (
	"math/bits"
	"slices"

	"eden/api"
)

// mostParents is the greatest number of parents that is told.
const mostParents = 1_000_000_000_000_000_000

// graph is a rule as a walk along a line: its places are the words of 2 Radius cells, as numbers, and each cell more leads on to the place that drops the first one.
type graph struct {
	states, outer, places int
	table                 []int
}

func graphOf(r api.Rule) graph {
	return graph{states: r.States, outer: 2 * r.Radius, places: placesOf(r), table: r.Table}
}

// placesOf is States to the power of 2 Radius.
func placesOf(r api.Rule) int {
	return len(r.Table) / r.States
}

// on tells where a cell leads from a place, and what becomes of the cell in the window's middle.
func (g graph) on(place, cell int) (next, becomes int) {
	window := place*g.states + cell
	return window % g.places, g.table[window]
}

// word spells a place.
func (g graph) word(place int) []int {
	out := make([]int, g.outer)
	for i := g.outer - 1; i >= 0; i-- {
		out[i] = place % g.states
		place /= g.states
	}
	return out
}

// parents counts, for each place, the words that end there and become the cells so far.
func (g graph) parents(word []int) int {
	counts := make([]int, g.places)
	for place := range counts {
		counts[place] = 1
	}
	for _, state := range word {
		further := make([]int, g.places)
		for place, count := range counts {
			for cell := range g.states {
				if next, becomes := g.on(place, cell); becomes == state {
					further[next] = sum(further[next], count)
				}
			}
		}
		counts = further
	}
	total := 0
	for _, count := range counts {
		total = sum(total, count)
	}
	return total
}

// sum stays just above mostParents instead of overflowing: a count that great may still come to nothing further on, so it is no fault as yet.
func sum(a, b int) int {
	return min(a+b, mostParents+1)
}

// reached is a set of places, a bit each, behind a state that the word so far has last.
type reached struct {
	set, state int
	ahead      int // the number of the one that it comes of
}

// orphan looks for the way that leads from all places to none. Sets are taken in the order of their words, the shortest ones first, so that the first way found is the first one of all.
func (g graph) orphan() []int {
	leads := g.leads()
	all := 1<<g.places - 1
	seen := make([]bool, all+1)
	seen[all] = true
	queue := []reached{{set: all}}
	for at := 0; at < len(queue); at++ {
		for state := range g.states {
			set := follow(queue[at].set, leads[state])
			if seen[set] {
				continue
			}
			seen[set] = true
			queue = append(queue, reached{set: set, state: state, ahead: at})
			if set == 0 {
				return spelled(queue)
			}
		}
	}
	return nil
}

// leads has, for each state and each place, the places that a cell leads to of which the state comes.
func (g graph) leads() [][]int {
	leads := make([][]int, g.states)
	for state := range leads {
		leads[state] = make([]int, g.places)
	}
	for place := range g.places {
		for cell := range g.states {
			next, becomes := g.on(place, cell)
			leads[becomes][place] |= 1 << next
		}
	}
	return leads
}

func follow(set int, leads []int) int {
	out := 0
	for ; set != 0; set &= set - 1 {
		out |= leads[bits.TrailingZeros(uint(set))]
	}
	return out
}

// spelled gives the word that leads to the last set of a queue.
func spelled(queue []reached) []int {
	var word []int
	for at := len(queue) - 1; at > 0; at = queue[at].ahead {
		word = append(word, queue[at].state)
	}
	slices.Reverse(word)
	return word
}
