package chips

import "math/big"

// drain tells of each divisor how often every place has to give till there is no chip and no debt but at one place, which itself never gives. That takes parts of times: the numbers are to be divided by low, which is above 0. Two divisors of one degree are the same just where these parts of both are alike.
func (n *net) drain(at int, divisors ...[]int) (often [][]*big.Int, low *big.Int) {
	rows := n.equations(at, divisors)
	low = solve(rows)
	for i := range divisors {
		times := make([]*big.Int, n.places)
		for place, row := range rows {
			times[place] = row[n.places+i]
		}
		often = append(often, times)
	}
	return often, low
}

// equations has a row for each place: what it loses each time that each place gives, and behind that what each divisor has it lose in all. The place `at` has a row that keeps it from giving.
func (n *net) equations(at int, divisors [][]int) [][]*big.Int {
	rows := make([][]*big.Int, n.places)
	for place := range rows {
		row := make([]int, n.places+len(divisors))
		if place == at {
			row[at] = 1
		} else {
			for other := range n.places {
				row[other] = -n.edges[place][other]
			}
			row[place] = n.degree[place]
			for i, d := range divisors {
				row[n.places+i] = d[place]
			}
		}
		rows[place] = anySize(row)
	}
	return rows
}

// anySize gives the numbers room to grow.
func anySize(numbers []int) []*big.Int {
	out := make([]*big.Int, len(numbers))
	for i, n := range numbers {
		out[i] = big.NewInt(int64(n))
	}
	return out
}

// solve has in the end, behind the square of each row, its unknown, times what it answers. It takes whole numbers alone (Bareiss), and writes into the rows. None that it divides by is 0: each counts trees of the graph with some of its places made one.
func solve(rows [][]*big.Int) *big.Int {
	last := big.NewInt(1)
	for k, top := range rows {
		for i, row := range rows {
			if i != k {
				subtract(row, top, k, last)
			}
		}
		last = top[k]
	}
	return last
}

// subtract takes from a row as much of the top one as leaves 0 at column k.
func subtract(row, top []*big.Int, k int, last *big.Int) {
	factor := row[k]
	for j := range row {
		whole := new(big.Int).Mul(top[k], row[j])
		whole.Sub(whole, new(big.Int).Mul(factor, top[j]))
		row[j] = whole.Quo(whole, last)
	}
}
