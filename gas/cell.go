package gas

import "eden/api"

// kinds of cells there are at most.
const kinds = 1 << api.Six

// cell has a bit for each direction; it is small, so that all cells of a gas are quickly at hand.
type cell uint8

// origins are the numbers of the cells from which a cell's particles come, by their directions.
type origins [api.Six]uint16

// directions tells how far each goes to the right, and, as the part that is imaginary, up. Of Six the second axis leans: it goes up and to the right.
func directions(kind int) []complex128 {
	if kind == api.Four {
		return []complex128{1, 1i, -1, -1i}
	}
	return []complex128{1, 1i, -1 + 1i, -1, -1i, 1 - 1i}
}

// placeOf tells where a cell stands, by the axes of the directions.
func placeOf(kind, x, y int) complex128 {
	return complex(float64(x+lean(kind, y)), float64(-y))
}

// numberAt is the number of the cell at a place, rows and columns being rings.
func numberAt(g api.Gas, place complex128) int {
	y := int(-imag(place))
	x := int(real(place)) - lean(g.Kind, y)
	return ring(y, g.High)*g.Wide + ring(x, g.Wide)
}

// lean is how far to the left of column 0 the axis that leans stands in a row: of Six one column more in every second row, from row 1 on.
func lean(kind, y int) int {
	if kind == api.Four {
		return 0
	}
	return (y + 1) >> 1
}

func ring(n, size int) int { return (n + size) % size }

// sources tells of each cell where its particles come from. Of Four there are none in the last directions, so that it does not matter where these come from.
func sources(g api.Gas) []origins {
	out := make([]origins, len(g.Cells))
	ways := directions(g.Kind)
	for y := range g.High {
		for x := range g.Wide {
			for d, ahead := range ways {
				out[y*g.Wide+x][d] = uint16(numberAt(g, placeOf(g.Kind, x, y)-ahead))
			}
		}
	}
	return out
}

// turned has each particle so many directions further.
func (c cell) turned(by, kind int) cell {
	return (c<<by | c>>(kind-by)) & (1<<kind - 1)
}

// meetings tells what becomes of each cell when its particles meet, by its coin.
func meetings(kind int) *[2][kinds]cell {
	var after [2][kinds]cell
	for c := range cell(kinds) {
		after[0][c], after[1][c] = c, c
	}
	for d := range kind / 2 {
		pair := cell(1)<<d | cell(1)<<(d+kind/2)
		after[0][pair], after[1][pair] = pair.turned(kind-1, kind), pair.turned(1, kind)
	}
	if kind == api.Six {
		for _, three := range []cell{0b010101, 0b101010} {
			after[0][three], after[1][three] = three.turned(1, kind), three.turned(1, kind)
		}
	}
	return &after
}

// meet lets all particles meet, with the coins from the one numbered first on, and tells which coin is next.
func meet(met, now []cell, after *[2][kinds]cell, coins []int, first int) int {
	for i, c := range now {
		met[i] = after[coins[first]][c]
		first++
		if first == len(coins) {
			first = 0
		}
	}
	return first
}

// move lets each particle go one cell on.
func move(now, met []cell, from []origins) {
	for i := range now {
		at := &from[i]
		now[i] = met[at[0]]&1 | met[at[1]]&2 | met[at[2]]&4 | met[at[3]]&8 | met[at[4]]&16 | met[at[5]]&32
	}
}

func packed(cells []int) []cell {
	out := make([]cell, len(cells))
	for i, c := range cells {
		out[i] = cell(c)
	}
	return out
}

// unpacked is a gas like g with other cells.
func unpacked(g api.Gas, cells []cell) api.Gas {
	out := api.Gas{Kind: g.Kind, Wide: g.Wide, High: g.High, Cells: make([]int, len(cells))}
	for i, c := range cells {
		out.Cells[i] = int(c)
	}
	return out
}
