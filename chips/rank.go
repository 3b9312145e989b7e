package chips

import (
	"iter"
	"math/big"
	"slices"

	"eden/api"
)

const maxRanked = 6 // places of a graph on which Rank is told

// Rank tells how much can be taken away.
func Rank(g api.Graph, d []int) (int, []int, error) {
	if err := check(g, d); err != nil {
		return 0, nil, err
	}
	if g.Places > maxRanked || degree(d) > api.MaxDegree {
		return 0, nil, api.ErrFull
	}
	c := classify(g)
	for k := 0; ; k++ {
		// At the latest it is found where k is above the degree of d, as what is left is below 0 then.
		if e, found := c.lost(d, k); found {
			return k - 1, e, nil
		}
	}
}

// class is alike of two divisors of one degree just where they are the same.
type class [maxRanked]int

// classes tell of divisors on a graph which class each is of: what drain says of it, without the whole times. What all parts are over, low, is how many trees the graph has: with 4000 edges between six places at most 1600^5 / 6. So a thousand times as much, and somewhat more, is an int.
type classes struct {
	places, low int
	ofChip      [maxRanked]class // by the place of one chip
}

func classify(g api.Graph) *classes {
	chips := make([][]int, g.Places)
	for place := range chips {
		chips[place] = make([]int, g.Places)
		chips[place][place] = 1
	}
	often, low := lay(g).drain(0, chips...)
	c := &classes{places: g.Places, low: int(low.Int64())}
	for i, times := range often {
		for place, n := range times {
			c.ofChip[i][place] = int(new(big.Int).Mod(n, low).Int64())
		}
	}
	return c
}

func (c *classes) of(d []int) class {
	var out class
	for from, n := range d {
		for place, part := range c.ofChip[from] {
			out[place] = (out[place] + n*part) % c.low
		}
	}
	for place, part := range out {
		out[place] = (part + c.low) % c.low
	}
	return out
}

// lost is the first effective divisor of degree k which, taken away from d, leaves what is not the same as an effective one.
func (c *classes) lost(d []int, k int) ([]int, bool) {
	good := c.ofEffective(degree(d) - k)
	for e := range effective(c.places, k) {
		if _, found := good[c.of(less(d, e))]; !found {
			return slices.Clone(e), true
		}
	}
	return nil, false
}

// ofEffective has the classes of all effective divisors of a degree.
func (c *classes) ofEffective(degree int) map[class]struct{} {
	out := map[class]struct{}{}
	for e := range effective(c.places, degree) {
		out[c.of(e)] = struct{}{}
	}
	return out
}

// effective goes through all effective divisors of a degree, by their numbers from the left. The list is the same one each time, so it is to be read at once.
func effective(places, degree int) iter.Seq[[]int] {
	return func(look func([]int) bool) {
		e := make([]int, places)
		var fill func(place, left int) bool
		fill = func(place, left int) bool {
			if place == places-1 {
				e[place] = left
				return look(e)
			}
			for n := range left + 1 {
				e[place] = n
				if !fill(place+1, left-n) {
					return false
				}
			}
			return true
		}
		if degree >= 0 {
			fill(0, degree)
		}
	}
}
