package onto

import (
	"iter"
	"slices"
)

// pair is two places, or two cells, of two words that become the same.
type pair struct{ a, b int }

func (p pair) alike() bool { return p.a == p.b }

// way leads from one pair of places to another, by two cells.
type way struct{ from, to, cells pair }

// stop is a pair of places that was come to.
type stop struct {
	at, cells pair
	ahead     int // the number of the stop that it was come to from; -1, where the search began
}

// pairs goes through the pairs of places; of two that differ in their order alone, one is enough.
func (g graph) pairs() iter.Seq[pair] {
	return func(yield func(pair) bool) {
		for b := range g.places {
			for a := range b + 1 {
				if !yield(pair{a, b}) {
					return
				}
			}
		}
	}
}

// ways goes through all ways on from a pair on which the same becomes of both.
func (g graph) ways(from pair) iter.Seq[way] {
	return func(yield func(way) bool) {
		for a := range g.states {
			nextA, becomesA := g.on(from.a, a)
			for b := range g.states {
				nextB, becomesB := g.on(from.b, b)
				if becomesA == becomesB && !yield(way{from, pair{nextA, nextB}, pair{a, b}}) {
					return
				}
			}
		}
	}
}

// twins looks for two unlike words of which the same becomes, with the same cells at both ends: a way that leaves the pairs of alike places, and comes back to them.
func (g graph) twins() (a, b []int) {
	var starts []pair
	for place := range g.places {
		starts = append(starts, pair{place, place})
	}
	start, trail := g.search(starts, func(w way) bool {
		return w.to.alike() && !(w.from.alike() && w.cells.alike()) // of radius 0 all places are alike, and cells alone are not
	})
	if len(trail) == 0 {
		return nil, nil
	}
	a, b = split(trail)
	return append(g.word(start.a), a...), append(g.word(start.b), b...)
}

// rings looks for two unlike rings of which the same becomes: a way round, whose last cells are unlike.
func (g graph) rings() (a, b []int) {
	for start := range g.pairs() {
		_, trail := g.search([]pair{start}, func(w way) bool {
			return w.to == start && !w.cells.alike()
		})
		if len(trail) > 0 {
			return split(trail)
		}
	}
	return nil, nil
}

// search gives the cells of a shortest trail from a start to a way that is wanted, with that way's own, and where it starts; no cells, if there is none. No pair of places comes twice, so a trail has at most MaxPairs times MaxPairs cells.
func (g graph) search(starts []pair, wanted func(w way) bool) (pair, []pair) {
	seen := make([]bool, g.places*g.places)
	var stops []stop
	visit := func(s stop) {
		if number := s.at.a*g.places + s.at.b; !seen[number] {
			seen[number] = true
			stops = append(stops, s)
		}
	}
	for _, start := range starts {
		visit(stop{at: start, ahead: -1})
	}
	for i := 0; i < len(stops); i++ {
		for w := range g.ways(stops[i].at) {
			if wanted(w) {
				return trailTo(stops, i, w.cells)
			}
			visit(stop{at: w.to, cells: w.cells, ahead: i})
		}
	}
	return pair{}, nil
}

// trailTo goes back from a stop to where the search began.
func trailTo(stops []stop, at int, last pair) (start pair, trail []pair) {
	trail = []pair{last}
	for ; stops[at].ahead >= 0; at = stops[at].ahead {
		trail = append(trail, stops[at].cells)
	}
	slices.Reverse(trail)
	return stops[at].at, trail
}

func split(trail []pair) (a, b []int) {
	for _, cells := range trail {
		a, b = append(a, cells.a), append(b, cells.b)
	}
	return a, b
}
