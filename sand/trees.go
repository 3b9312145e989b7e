package sand

import (
	"math/big"

	"eden/api"
)

const maxTrees = 1000000000000000000

// Trees counts them.
func Trees(g api.Graph) (int, error) {
	if err := Check(g); err != nil {
		return 0, err
	}
	trees := determinant(losses(g))
	if trees.Cmp(big.NewInt(maxTrees)) > 0 {
		return 0, api.ErrFull
	}
	return int(trees.Int64()), nil
}

// losses has a row for each place but 0, taken as the sink: what the others lose when it topples. Its determinant is how many trees there are (Kirchhoff), whichever place is left out.
func losses(g api.Graph) [][]*big.Int {
	base := lay(g, 0)
	var rows [][]*big.Int
	for place := 1; place < g.Places; place++ {
		var row []*big.Int
		for other := 1; other < g.Places; other++ {
			loss := -base.gives[place][other]
			if other == place {
				loss = base.degree[place]
			}
			row = append(row, big.NewInt(int64(loss)))
		}
		rows = append(rows, row)
	}
	return rows
}

// determinant is taken by whole numbers alone (Bareiss), and writes into the rows. Each number that it divides by counts trees, too, of the graph in which all later places are one with the sink; so none is 0.
func determinant(rows [][]*big.Int) *big.Int {
	last := big.NewInt(1)
	for k, top := range rows {
		for _, row := range rows[k+1:] {
			for j := k + 1; j < len(row); j++ {
				sum := new(big.Int).Mul(top[k], row[j])
				sum.Sub(sum, new(big.Int).Mul(row[k], top[j]))
				row[j] = sum.Quo(sum, last)
			}
		}
		last = top[k]
	}
	return last
}
