package spins

import "math/bits"

// net is rows of cells. A row that is set is a number, a bit a cell.
type net struct {
	wide, high int
	rings      bool
}

// lay has the longer side go down: the counts are the same, and a shorter row has fewer ways to be set.
func lay(wide, high int, rings bool) net {
	return net{wide: min(wide, high), high: max(wide, high), rings: rings}
}

func (n net) pairs() int {
	both := 2 * n.wide * n.high
	if n.rings {
		return both
	}
	return both - n.wide - n.high
}

// counts goes through the first rows one by one, as the last row of a ring must know the first.
func (n net) counts() []int {
	out := make([]int, n.pairs()+1)
	for first := range 1 << n.wide {
		for last, counts := range n.below(first) {
			add(out, counts, n.closing(first, last))
		}
	}
	return out
}

// below has for each last row the counts of all ways to set the rows from a first one down to it.
func (n net) below(first int) [][]int {
	now := n.none()
	now[first][n.within(first)] = 1
	for range n.high - 1 {
		next := n.none()
		for above, counts := range now {
			for row := range next {
				add(next[row], counts, unlike(above, row)+n.within(row))
			}
		}
		now = next
	}
	return now
}

// none has for each row counts that are 0.
func (n net) none() [][]int {
	out := make([][]int, 1<<n.wide)
	for row := range out {
		out[row] = make([]int, n.pairs()+1)
	}
	return out
}

// within is how many pairs of a row are unlike.
func (n net) within(row int) int {
	top := n.wide - 1
	end := row & 1
	if !n.rings {
		// The last cell has nobody behind it, which is as good as itself.
		end = row >> top
	}
	return unlike(row, row>>1|end<<top)
}

// closing is how many pairs of the last row with the first one are unlike.
func (n net) closing(first, last int) int {
	if n.rings {
		return unlike(first, last)
	}
	return 0
}

func unlike(a, b int) int {
	return bits.OnesCount(uint(a ^ b))
}

// add has counts come to others, so many pairs further on. What would come to stand behind the last one is 0, and has no room there.
func add(to, counts []int, pairs int) {
	for k, ways := range counts {
		if ways != 0 {
			to[k+pairs] += ways
		}
	}
}
