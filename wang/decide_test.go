package wang_test

import (
	"math/rand"
	"slices"
	"testing"

	"eden/api"
	"eden/wang"
)

// decided asks Decide for that.
func decided(t *testing.T, tiles []api.Tile, most int, want api.Decided) {
	t.Helper()
	d, err := wang.Decide(tiles, most)
	if err != nil || d.Torus != want.Torus || d.Wide != want.Wide || d.High != want.High || !slices.Equal(d.Tiles, want.Tiles) {
		t.Errorf("Decide(%v, %d): %v, %v, want %v", tiles, most, d, err, want)
	}
}

// noSquare is what is decided where no square of that side fits.
func noSquare(n int) api.Decided { return api.Decided{Wide: n, High: n} }

func ring(wide, high int, cells ...int) api.Decided {
	return api.Decided{Torus: true, Wide: wide, High: high, Tiles: cells}
}

// TestTable: the document's example.
func TestTable(t *testing.T) {
	decided(t, set(0, 1, 0, 2, 0, 2, 0, 1), 3, ring(2, 1, 0, 1))
}

// TestDecideRings: T2: tiles of which each knows its column and its row are a ring of just that size.
func TestDecideRings(t *testing.T) {
	for wide := 1; wide <= 5; wide++ {
		for high := 1; high <= 5 && wide*high <= api.MaxTiles; high++ {
			var tiles []api.Tile
			var cells []int
			for at := range wide * high {
				x, y := at%wide, at/wide
				tiles = append(tiles, api.Tile{Up: y, Right: (x + 1) % wide, Down: (y + 1) % high, Left: x})
				cells = append(cells, at)
			}
			decidedFrom(t, tiles, max(wide, high), ring(wide, high, cells...))
		}
	}
}

// decidedFrom asks that something is decided from that most on, and nothing below it.
func decidedFrom(t *testing.T, tiles []api.Tile, from int, want api.Decided) {
	t.Helper()
	for most := 1; most <= api.MaxTiling; most++ {
		if most < from {
			decideTells(t, tiles, most, api.ErrLong)
		} else {
			decided(t, tiles, most, want)
		}
	}
}

// TestDecideDiagonals: T2: of so many tiles on diagonals the least ring has that side, up to 5; beyond, neither is so.
func TestDecideDiagonals(t *testing.T) {
	for count := 1; count <= 5; count++ {
		var cells []int
		for at := range count * count {
			cells = append(cells, (at/count+at)%count)
		}
		decidedFrom(t, diagonal(count), count, ring(count, count, cells...))
	}
	for count := 6; count <= 8; count++ {
		decidedFrom(t, diagonal(count), 6, api.Decided{})
	}
}

// TestDecideSquares: T2: rows, or columns, that end behind so many cells fill no greater square.
func TestDecideSquares(t *testing.T) {
	for count := 1; count <= 5; count++ {
		var across, down []api.Tile
		for i := range count {
			across = append(across, api.Tile{Up: 0, Right: i + 1, Down: 0, Left: i})
			down = append(down, api.Tile{Up: i, Right: 0, Down: i + 1, Left: 0})
		}
		for range 2 {
			decidedFrom(t, across, count+1, noSquare(count+1))
			decidedFrom(t, down, count+1, noSquare(count+1))
			slices.Reverse(across)
			slices.Reverse(down)
		}
	}
}

// TestDecideOrder: T2: of several rings the one is told whose greater side is the least, then by High, then by Wide.
func TestDecideOrder(t *testing.T) {
	wide := set(0, 1, 0, 2, 0, 2, 0, 1)              // 2 by 1
	high := set(3, 3, 4, 3, 4, 3, 3, 3)              // 1 by 2
	three := set(5, 5, 5, 6, 5, 6, 5, 7, 5, 7, 5, 5) // 3 by 1
	tall := set(5, 4, 6, 4, 6, 4, 7, 4, 7, 4, 5, 4)  // 1 by 3
	one := set(7, 7, 7, 7)
	decided(t, slices.Concat(wide, high), 5, ring(2, 1, 0, 1))
	decided(t, slices.Concat(high, wide), 5, ring(2, 1, 2, 3))
	decided(t, slices.Concat(high), 5, ring(1, 2, 0, 1))
	decided(t, slices.Concat(three, high), 5, ring(1, 2, 3, 4))
	decided(t, slices.Concat(three, wide), 5, ring(2, 1, 3, 4))
	decided(t, slices.Concat(tall, wide), 5, ring(2, 1, 3, 4))
	decided(t, slices.Concat(tall, three), 5, ring(3, 1, 3, 5, 4))
	decided(t, slices.Concat(tall), 5, ring(1, 3, 0, 1, 2))
	decided(t, slices.Concat(tall, diagonal(2)), 5, ring(2, 2, 3, 4, 4, 3))
	decided(t, slices.Concat(tall, three, high, wide, one), 5, ring(1, 1, 10))
	// Two rings of one size: the first by its cells, wherever their tiles stand.
	decided(t, set(0, 1, 0, 2, 3, 4, 3, 5, 3, 5, 3, 4, 0, 2, 0, 1), 5, ring(2, 1, 0, 3))
	decided(t, set(0, 1, 3, 2, 3, 4, 3, 5, 3, 5, 3, 4, 0, 2, 0, 1), 5, ring(2, 1, 1, 2))
	// 2 by 3 stands behind 3 by 2, as that is less high; and ahead of 3 by 3.
	decided(t, slices.Concat(grid(2, 3, 0), grid(3, 2, 4)), 5, ring(3, 2, 6, 7, 8, 9, 10, 11))
	decided(t, slices.Concat(diagonal(3), grid(2, 3, 4)), 5, ring(2, 3, 3, 4, 5, 6, 7, 8))
	decided(t, slices.Concat(diagonal(3), grid(3, 2, 4)), 5, ring(3, 2, 3, 4, 5, 6, 7, 8))
}

// grid has a tile a cell of a ring of that size, of colours from that one on.
func grid(wide, high, colour int) []api.Tile {
	var out []api.Tile
	for at := range wide * high {
		x, y := at%wide, at/wide
		out = append(out, api.Tile{Up: colour + y, Right: colour + (x+1)%wide, Down: colour + (y+1)%high, Left: colour + x})
	}
	return out
}

// jeandelRao are the 11 tiles of Jeandel and Rao, which fill the plane, and never as a ring.
func jeandelRao() []api.Tile {
	return set(4, 2, 1, 2, 2, 2, 0, 2, 1, 1, 1, 3, 2, 1, 2, 3, 1, 3, 3, 3, 1, 0, 1, 3, 0, 0, 1, 0, 1, 3, 2, 0, 2, 0, 2, 1, 2, 1, 4, 1, 3, 3, 2, 1)
}

// TestDecideNeither: T2: tiles that fill the plane, but have no ring.
func TestDecideNeither(t *testing.T) {
	decidedFrom(t, jeandelRao(), 6, api.Decided{})
	tiles := append(jeandelRao(), set(5, 6, 7, 6, 7, 6, 5, 6)...)
	decidedFrom(t, tiles, 2, ring(1, 2, 11, 12))
}

// slowDecide goes by the words of T2, with all cells gone through; false: neither is so.
func slowDecide(tiles []api.Tile, most int) (api.Decided, bool) {
	for n := 1; n <= most; n++ {
		for high := 1; high <= n; high++ {
			for wide := 1; wide <= n; wide++ {
				if max(wide, high) != n {
					continue
				}
				if cells := allCells(tiles, wide, high, true); cells != nil {
					return ring(wide, high, cells...), true
				}
			}
		}
		if allCells(tiles, n, n, false) == nil {
			return noSquare(n), true
		}
	}
	return api.Decided{}, false
}

// TestDecideSlowly: T2: what is decided of any few tiles, against all cells.
func TestDecideSlowly(t *testing.T) {
	random := rand.New(rand.NewSource(4))
	var rings, squares, neither int
	for range 4000 {
		tiles := anySet(random, 1+random.Intn(4), 1+random.Intn(4))
		most := 1 + random.Intn(3)
		if len(tiles) == 4 {
			most = 1 + random.Intn(2)
		}
		want, ok := slowDecide(tiles, most)
		switch {
		case !ok:
			decideTells(t, tiles, most, api.ErrLong)
			neither++
		case want.Torus:
			decided(t, tiles, most, want)
			rings++
		default:
			decided(t, tiles, most, want)
			squares++
		}
	}
	if rings < 300 || squares < 300 || neither < 300 {
		t.Errorf("%d rings, %d squares, %d of neither", rings, squares, neither)
	}
}

// TestDecideMeans: T2: a ring that is found fills rings of its multiples, and all squares; where a square has none, no greater one has any, nor has a ring of any size.
func TestDecideMeans(t *testing.T) {
	random := rand.New(rand.NewSource(5))
	for range 500 {
		tiles := anySet(random, 1+random.Intn(16), 2+random.Intn(7))
		d, err := wang.Decide(tiles, 5)
		if err != nil {
			continue
		}
		for n := 1; n <= 5; n++ {
			_, err := wang.Fill(tiles, n, n, false)
			if fits := err == nil; fits != (d.Torus || n < d.Wide) {
				t.Errorf("Decide(%v): %v, but %d by %d: %v", tiles, d, n, n, err)
			}
			_, err = wang.Fill(tiles, n, 6-n, true)
			if err == nil && !d.Torus {
				t.Errorf("Decide(%v): %v, but there is a ring of %d by %d", tiles, d, n, 6-n)
			}
		}
		if d.Torus {
			repeated(t, tiles, d)
		}
	}
}

// repeated lays a ring beside itself, again and again.
func repeated(t *testing.T, tiles []api.Tile, d api.Decided) {
	t.Helper()
	for wide := 1; wide <= 5; wide++ {
		for high := 1; high <= 5; high++ {
			var cells []int
			for at := range wide * high {
				cells = append(cells, d.Tiles[at/wide%d.High*d.Wide+at%wide%d.Wide])
			}
			fit, closed := heldAgainst(t, tiles, wide, high, cells)
			if !fit || !closed && wide%d.Wide == 0 && high%d.High == 0 {
				t.Errorf("Decide(%v): %v, but %d by %d of it: %v, %v", tiles, d, wide, high, fit, closed)
			}
		}
	}
}
