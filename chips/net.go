package chips

import (
	"math/big"

	"eden/api"
)

// net is a graph as divisors find it.
type net struct {
	places int
	degree [api.MaxPlaces]int
	edges  [api.MaxPlaces][api.MaxPlaces]int // how many there are between two places
}

func lay(g api.Graph) *net {
	n := &net{places: g.Places}
	for _, e := range g.Edges {
		n.join(e.A, e.B, e.Times)
		n.join(e.B, e.A, e.Times)
	}
	return n
}

func (n *net) join(from, to, times int) {
	n.degree[from] += times
	n.edges[from][to] += times
}

// fire writes into the divisor.
func (n *net) fire(d []int, place, times int) {
	d[place] -= times * n.degree[place]
	for other := range d {
		d[other] += times * n.edges[place][other]
	}
}

// reduce finds what is left when each place but `at` has given as often as it can without debts: if a set of them could still give, it would not be as often. No place can give more often than drain says; so it gives so often, and takes back what debts force it to.
func (n *net) reduce(d []int, at int) {
	often, low := n.drain(at, d)
	for place, times := range often[0] {
		// Div rounds down, below 0 too: nobody gives a part of a time.
		n.fire(d, place, int(new(big.Int).Div(times, low).Int64()))
	}
	for n.repay(d, at) {
	}
}

// repay has each place in debt take as often as it must, and tells whether there was one. What one takes, others lack, so debts may come anew.
func (n *net) repay(d []int, at int) bool {
	found := false
	for place := range d {
		if place != at && d[place] < 0 {
			n.fire(d, place, -upward(-d[place], n.degree[place]))
			found = true
		}
	}
	return found
}

// upward divides, and rounds up.
func upward(a, b int) int {
	return (a + b - 1) / b
}
