package sand

import (
	"slices"

	"eden/api"
)

// ground is a graph with a sink, as chips find it.
type ground struct {
	places, sink int
	degree       [api.MaxPlaces]int
	// gives is how many chips come from a place to each other one when it topples. To the sink none do: what comes there is lost.
	gives [api.MaxPlaces][api.MaxPlaces]int
}

func lay(g api.Graph, sink int) ground {
	out := ground{places: g.Places, sink: sink}
	for _, e := range g.Edges {
		out.join(e.A, e.B, e.Times)
		out.join(e.B, e.A, e.Times)
	}
	return out
}

func (g *ground) join(from, to, times int) {
	g.degree[from] += times
	if to != g.sink {
		g.gives[from][to] += times
	}
}

// often is how many times a place that has so many chips can topple.
func (g *ground) often(place, chips int) int {
	if place == g.sink {
		return 0
	}
	return chips / g.degree[place]
}

// pile is chips on a ground.
type pile struct {
	ground
	chips, topples []int
}

func pour(g api.Graph, sink int, chips []int) *pile {
	return &pile{ground: lay(g, sink), chips: slices.Clone(chips), topples: make([]int, g.Places)}
}

func (p *pile) stable() bool {
	for place, n := range p.chips {
		if p.often(place, n) > 0 {
			return false
		}
	}
	return true
}

func (p *pile) topple(place, times int) {
	p.chips[place] -= times * p.degree[place]
	for other := range p.chips {
		p.chips[other] += times * p.gives[place][other]
	}
	p.topples[place] += times
}

func (p *pile) settle() {
	for !p.stable() {
		for place := range p.places {
			p.topple(place, p.often(place, p.chips[place]))
		}
	}
}

// burn is the places but the sink in the order in which they burn.
func (p *pile) burn() []int {
	var burning [api.MaxPlaces]bool
	burning[p.sink] = true
	var order []int
	for {
		place, found := p.next(&burning)
		if !found {
			return order
		}
		burning[place] = true
		order = append(order, place)
	}
}

// next is the first place that does not burn yet, but can.
func (p *pile) next(burning *[api.MaxPlaces]bool) (int, bool) {
	for place, n := range p.chips {
		if !burning[place] && n >= p.spared(place, burning) {
			return place, true
		}
	}
	return 0, false
}

// spared is how many edges a place has to places that do not burn.
func (p *pile) spared(place int, burning *[api.MaxPlaces]bool) int {
	edges := 0
	for other := range p.places {
		if !burning[other] {
			edges += p.gives[place][other]
		}
	}
	return edges
}

// identity takes, twice over, the most chips that are stable, and from these what they settle to: that is worth nothing, as settling is; and since it is still no fewer than the most that are stable, what it settles to is recurrent.
func identity(g api.Graph, sink int) []int {
	base := lay(g, sink)
	twice := make([]int, g.Places)
	for place := range twice {
		if place != sink {
			twice[place] = 2 * (base.degree[place] - 1)
		}
	}
	p := pour(g, sink, twice)
	p.settle()
	for place, n := range p.chips {
		twice[place] -= n
	}
	p = pour(g, sink, twice)
	p.settle()
	return p.chips
}
