package rotor

import (
	"slices"

	"eden/api"
)

// board is a graph with signs, which are its own, and a count of the chips that went from each place.
type board struct {
	sink        int
	ways        [][]int
	signs, went []int
}

func lay(g api.Graph, sink int, signs []int) *board {
	return &board{sink: sink, ways: deal(g), signs: slices.Clone(signs), went: make([]int, g.Places)}
}

// deal gives each place its ways.
func deal(g api.Graph) [][]int {
	ways := make([][]int, g.Places)
	for _, e := range g.Edges {
		for range e.Times {
			ways[e.A] = append(ways[e.A], e.B)
			ways[e.B] = append(ways[e.B], e.A)
		}
	}
	return ways
}

func (b *board) maySign(place, sign int) bool {
	if place == b.sink {
		return sign == 0
	}
	return sign >= 0 && sign < len(b.ways[place])
}

// shown is the place that a sign shows to.
func (b *board) shown(place int) int {
	return b.ways[place][b.signs[place]]
}

// turn has a chip go from a place, and tells where it comes to.
func (b *board) turn(place int) int {
	b.went[place]++
	b.signs[place]++
	if b.signs[place] == len(b.ways[place]) {
		b.signs[place] = 0
	}
	return b.shown(place)
}

// lead has a chip go on from a place till it is lost. That ends: a place that it came to again and again would send it every way, and some places have one to the sink.
func (b *board) lead(place int) {
	for place != b.sink {
		place = b.turn(place)
	}
}

func (b *board) tree() bool {
	for place := range b.signs {
		if !b.leads(place) {
			return false
		}
	}
	return true
}

// leads follows signs as often as there are places: who has not come to the sink by then goes round.
func (b *board) leads(place int) bool {
	for range b.signs {
		if place == b.sink {
			return true
		}
		place = b.shown(place)
	}
	return false
}
