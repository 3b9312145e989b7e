package wang

import (
	"math/bits"
	"slices"

	"eden/api"
)

// board is the cells that are to be filled, each with the tiles that may still stand there, a bit a tile.
type board struct {
	tiles      [api.MaxTiles]api.Tile
	wide, high int
	ring       bool
	may        [api.MaxTiling][api.MaxTiling]uint
}

func lay(tiles []api.Tile, wide, high int, ring bool) board {
	b := board{wide: wide, high: high, ring: ring}
	copy(b.tiles[:], tiles)
	for row := range high {
		for column := range wide {
			b.may[row][column] = b.unlike(row, column, len(tiles))
		}
	}
	return b
}

// unlike are the tiles that look otherwise in a cell than all ahead of them: the others are never the first ones that fit.
func (b *board) unlike(row, column, count int) uint {
	var out uint
	var ahead []api.Tile
	for tile := range count {
		t := b.in(row, column, tile)
		if !slices.Contains(ahead, t) {
			out |= 1 << tile
		}
		ahead = append(ahead, t)
	}
	return out
}

// in is a tile as a cell's neighbours see it. Where the board ends, and is no ring, nobody looks: there all sides are alike, so that they fit as if it were one.
func (b *board) in(row, column, tile int) api.Tile {
	t := b.tiles[tile]
	if b.ring {
		return t
	}
	if row == 0 {
		t.Up = 0
	}
	if column == b.wide-1 {
		t.Right = 0
	}
	if row == b.high-1 {
		t.Down = 0
	}
	if column == 0 {
		t.Left = 0
	}
	return t
}

func (b *board) fits(cells []int) bool {
	for i, tile := range cells {
		row, column := i/b.wide, i%b.wide
		below, right := (row+1)%b.high, (column+1)%b.wide
		t := b.in(row, column, tile)
		if t.Right != b.in(row, right, cells[row*b.wide+right]).Left {
			return false
		}
		if t.Down != b.in(below, column, cells[below*b.wide+column]).Up {
			return false
		}
	}
	return true
}

func (b *board) fill() ([]int, error) {
	if !b.open() {
		return nil, api.ErrNone
	}
	out := make([]int, 0, b.wide*b.high)
	for row := range b.high {
		for column := range b.wide {
			out = append(out, b.choose(row, column))
		}
	}
	return out, nil
}

// choose leaves a cell of an open board the first tile with which it stays open.
func (b *board) choose(row, column int) int {
	rest := b.may[row][column]
	for {
		tile := bits.TrailingZeros(rest)
		b.may[row][column] = 1 << tile
		rest &= rest - 1
		// If no other one is left, it must be this one.
		if rest == 0 || b.open() {
			return tile
		}
	}
}

// turned has columns for rows, and rows for columns.
func (b *board) turned() board {
	out := board{wide: b.high, high: b.wide, ring: b.ring}
	for i, t := range b.tiles {
		out.tiles[i] = api.Tile{Up: t.Left, Right: t.Down, Down: t.Right, Left: t.Up}
	}
	for row, cells := range b.may {
		for column, tiles := range cells {
			out.may[column][row] = tiles
		}
	}
	return out
}
