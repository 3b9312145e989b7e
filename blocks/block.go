package blocks

import "eden/api"

// kinds of blocks there are.
const kinds = 16

// block is its cells: the upper left, the upper right, the lower left and the lower right one.
type block [4]int

// places are where a block's cells stand in a pattern, in the block's order.
type places [4]int

func blockOf(number int) block {
	return block{number & 1, number >> 1 & 1, number >> 2 & 1, number >> 3}
}

func (b block) number() int {
	return b[0] | b[1]<<1 | b[2]<<2 | b[3]<<3
}

func (b block) living() int {
	return b[0] + b[1] + b[2] + b[3]
}

// turned is the block turned by a quarter clockwise.
func (b block) turned() block {
	return block{b[2], b[0], b[3], b[1]}
}

// becomes is a table that was checked, as the blocks themselves.
func becomes(table []int) [kinds]block {
	var next [kinds]block
	for number := range next {
		next[number] = blockOf(table[number])
	}
	return next
}

// standing tells where the blocks of a phase stand, the pattern's sides being even.
func standing(p api.Pattern, phase int) []places {
	out := make([]places, 0, len(p.Cells)/4)
	for y := phase; y < p.High; y += 2 {
		upper, lower := y*p.Wide, (y+1)%p.High*p.Wide
		for x := phase; x < p.Wide; x += 2 {
			right := (x + 1) % p.Wide
			out = append(out, places{upper + x, upper + right, lower + x, lower + right})
		}
	}
	return out
}

// step goes one step in place, as no two blocks of a phase share a cell.
func step(cells []int, stand []places, next *[kinds]block) {
	for _, at := range stand {
		now := block{cells[at[0]], cells[at[1]], cells[at[2]], cells[at[3]]}
		for i, cell := range next[now.number()] {
			cells[at[i]] = cell
		}
	}
}
