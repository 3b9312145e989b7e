package spins

import "math/bits"

// ground is cells of which each has others beside it. A set of cells is a number, a bit a cell.
type ground struct {
	first, last uint
	beside      []uint
}

func join(wide, high int, corners bool) ground {
	cells := wide * high
	first := uint(1)<<wide - 1
	g := ground{first: first, last: first << (cells - wide), beside: make([]uint, cells)}
	for a := range cells {
		for b := range cells {
			if meet(a/wide-b/wide, a%wide-b%wide, corners) {
				g.beside[a] |= 1 << b
			}
		}
	}
	return g
}

// meet tells whether cells that are so far apart stand beside each other.
func meet(down, right int, corners bool) bool {
	far := down*down + right*right
	return far == 1 || corners && far == 2
}

func (g ground) counts() []int {
	out := make([]int, len(g.beside)+1)
	for set := range uint(1) << len(g.beside) {
		if g.leads(set) {
			out[bits.OnesCount(set)]++
		}
	}
	return out
}

// leads pours water onto the first row, and looks whether the last one gets wet.
func (g ground) leads(set uint) bool {
	wet := uint(0)
	var pour func(cells uint)
	pour = func(cells uint) {
		// What is dry is asked anew each time, as what was poured further on may have come back.
		for dry := cells & set &^ wet; dry != 0; dry = cells & set &^ wet {
			wet |= dry & -dry
			pour(g.beside[bits.TrailingZeros(dry)])
		}
	}
	pour(g.first)
	return wet&g.last != 0
}
