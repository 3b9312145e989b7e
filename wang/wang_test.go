package wang_test

import (
	"math"
	"math/rand"
	"slices"
	"testing"

	"eden/api"
	"eden/plain"
	"eden/wang"
)

// set takes the colours of tiles by fours: Up, Right, Down, Left.
func set(colours ...int) []api.Tile {
	var out []api.Tile
	for i := 0; i+3 < len(colours); i += 4 {
		out = append(out, api.Tile{Up: colours[i], Right: colours[i+1], Down: colours[i+2], Left: colours[i+3]})
	}
	return out
}

// same is so many tiles of one colour.
func same(count, colour int) []api.Tile {
	return slices.Repeat(set(colour, colour, colour, colour), count)
}

// zeros is so many cells of tile 0.
func zeros(count int) []int { return make([]int, count) }

// anySet has so many tiles, of the first so many colours.
func anySet(random *rand.Rand, count, colours int) []api.Tile {
	out := make([]api.Tile, count)
	for i := range out {
		out[i] = api.Tile{Up: random.Intn(colours), Right: random.Intn(colours), Down: random.Intn(colours), Left: random.Intn(colours)}
	}
	return out
}

// slowFits goes through all pairs of sides as the document says it.
func slowFits(tiles []api.Tile, wide, high int, cells []int, ring bool) bool {
	at := func(x, y int) api.Tile { return tiles[cells[y*wide+x]] }
	for y := range high {
		for x := range wide - 1 {
			if at(x, y).Right != at(x+1, y).Left {
				return false
			}
		}
		if ring && at(wide-1, y).Right != at(0, y).Left {
			return false
		}
	}
	for x := range wide {
		for y := range high - 1 {
			if at(x, y).Down != at(x, y+1).Up {
				return false
			}
		}
		if ring && at(x, high-1).Down != at(x, 0).Up {
			return false
		}
	}
	return true
}

func fitsTells(t *testing.T, tiles []api.Tile, wide, high int, cells []int, want api.Errno) {
	t.Helper()
	for _, ring := range []bool{false, true} {
		if ok, err := wang.Fits(tiles, wide, high, cells, ring); plain.Told(err) != want || err != nil && ok {
			t.Errorf("Fits(%v, %d, %d, %v, %v): %v, %v, want %v", tiles, wide, high, cells, ring, ok, err, want)
		}
	}
}

func fillTells(t *testing.T, tiles []api.Tile, wide, high int, want api.Errno) {
	t.Helper()
	for _, ring := range []bool{false, true} {
		if cells, err := wang.Fill(tiles, wide, high, ring); plain.Told(err) != want || err != nil && len(cells) != 0 {
			t.Errorf("Fill(%v, %d, %d, %v): %v, %v, want %v", tiles, wide, high, ring, cells, err, want)
		}
	}
}

func decideTells(t *testing.T, tiles []api.Tile, most int, want api.Errno) {
	t.Helper()
	d, err := wang.Decide(tiles, most)
	if plain.Told(err) != want || err != nil && (d.Torus || d.Wide != 0 || d.High != 0 || len(d.Tiles) != 0) {
		t.Errorf("Decide(%v, %d): %v, %v, want %v", tiles, most, d, err, want)
	}
}

// notChecked asks that Check tells an error, and so do all others, whatever else is wrong.
func notChecked(t *testing.T, tiles []api.Tile, want api.Errno) {
	t.Helper()
	if err := wang.Check(tiles); plain.Told(err) != want {
		t.Errorf("Check(%v): %v, want %v", tiles, err, want)
	}
	for _, wide := range []int{1, 5, 0, 6, -1} {
		for _, high := range []int{1, 5, 0, 6, -1} {
			for _, cells := range [][]int{nil, zeros(1), zeros(25), {-1}, {16}} {
				fitsTells(t, tiles, wide, high, cells, want)
			}
			fillTells(t, tiles, wide, high, want)
		}
		decideTells(t, tiles, wide, want)
	}
}

// checked asks that nothing is wrong with tiles, by any call.
func checked(t *testing.T, tiles []api.Tile) {
	t.Helper()
	if err := wang.Check(tiles); err != nil {
		t.Errorf("Check(%v): %v", tiles, err)
	}
	for tile := range tiles {
		if ok, err := wang.Fits(tiles, 1, 1, []int{tile}, false); err != nil || !ok {
			t.Errorf("Fits(%v) of tile %d: %v, %v", tiles, tile, ok, err)
		}
	}
	if cells, err := wang.Fill(tiles, 1, 1, false); err != nil || !slices.Equal(cells, zeros(1)) {
		t.Errorf("Fill(%v): %v, %v", tiles, cells, err)
	}
	if _, err := wang.Decide(tiles, 1); err != nil && plain.Told(err) != api.ErrLong {
		t.Errorf("Decide(%v): %v", tiles, err)
	}
}

// TestHowMany: T1: how many tiles there may be.
func TestHowMany(t *testing.T) {
	for count := 1; count <= api.MaxTiles; count++ {
		checked(t, same(count, 0))
		checked(t, same(count, 7))
	}
	for _, tiles := range [][]api.Tile{nil, {}, same(3, 0)[:0], same(17, 0), same(18, 7), same(1000, 0)} {
		notChecked(t, tiles, api.ErrFull)
	}
	// How many there are is named ahead of their colours.
	for at := range 17 {
		tiles := same(17, 0)
		tiles[at].Left = 8
		notChecked(t, tiles, api.ErrFull)
	}
	notChecked(t, same(17, -1), api.ErrFull)
}

// sides are pointers to the colours of a tile.
func sides(tile *api.Tile) [4]*int {
	return [4]*int{&tile.Up, &tile.Right, &tile.Down, &tile.Left}
}

// TestColours: T1: which colours there may be, at each side of each tile.
func TestColours(t *testing.T) {
	for _, count := range []int{1, 2, 5, 16} {
		for at := range count {
			for side := range 4 {
				for colour := range 8 {
					tiles := same(count, 0)
					*sides(&tiles[at])[side] = colour
					checked(t, tiles)
				}
				for _, colour := range []int{-1, 8, 9, -8, 256, 1 << 32, math.MinInt, math.MaxInt} {
					tiles := same(count, 0)
					*sides(&tiles[at])[side] = colour
					notChecked(t, tiles, api.ErrRange)
				}
			}
		}
	}
}

// TestSizes: T1: which sides there may be; that is told ahead of what is wrong with cells.
func TestSizes(t *testing.T) {
	tiles := same(2, 3)
	for wide := 1; wide <= api.MaxTiling; wide++ {
		for high := 1; high <= api.MaxTiling; high++ {
			fitsTells(t, tiles, wide, high, zeros(wide*high), api.OK)
			fillTells(t, tiles, wide, high, api.OK)
		}
		decideTells(t, tiles, wide, api.OK)
	}
	for _, bad := range []int{0, 6, -1, 7, -5, 1 << 32, 1 << 62, math.MinInt, math.MaxInt} {
		for _, good := range []int{1, 2, 5, bad} {
			for _, cells := range [][]int{nil, zeros(1), zeros(6), zeros(30), {-1}, {0, 2}} {
				fitsTells(t, tiles, bad, good, cells, api.ErrRange)
				fitsTells(t, tiles, good, bad, cells, api.ErrRange)
			}
			fillTells(t, tiles, bad, good, api.ErrRange)
			fillTells(t, tiles, good, bad, api.ErrRange)
		}
		decideTells(t, tiles, bad, api.ErrRange)
	}
}

// TestCells: T1: how many cells there must be, and which; ErrShape is told first.
func TestCells(t *testing.T) {
	for _, count := range []int{1, 2, 16} {
		tiles := same(count, 0)
		for wide := 1; wide <= 5; wide++ {
			for high := 1; high <= 5; high++ {
				size := wide * high
				for _, n := range []int{0, size - 1, size + 1, 2 * size, 100} {
					fitsTells(t, tiles, wide, high, zeros(n), api.ErrShape)
					fitsTells(t, tiles, wide, high, slices.Repeat([]int{-1}, n), api.ErrShape)
					fitsTells(t, tiles, wide, high, slices.Repeat([]int{count}, n), api.ErrShape)
				}
				for at := range size {
					cells := zeros(size)
					cells[at] = count - 1
					fitsTells(t, tiles, wide, high, cells, api.OK)
					for _, bad := range []int{-1, count, count + 1, 17, -16, math.MinInt, math.MaxInt} {
						cells[at] = bad
						fitsTells(t, tiles, wide, high, cells, api.ErrRange)
					}
				}
			}
		}
	}
}

// TestWrongCellsThatDoNotFit: T1: a cell that is none is told wherever it stands, though cells ahead of it do not fit.
func TestWrongCellsThatDoNotFit(t *testing.T) {
	fitsTells(t, set(0, 1, 2, 3), 3, 1, []int{0, 0, 1}, api.ErrRange)
	fitsTells(t, set(0, 1, 2, 3), 1, 3, []int{0, 0, -1}, api.ErrRange)
}

// TestOneSide: T1: one side of one cell that is unlike all others is seen, but at the outer sides of what is no ring.
func TestOneSide(t *testing.T) {
	tiles := set(0, 0, 0, 0, 1, 0, 0, 0, 0, 1, 0, 0, 0, 0, 1, 0, 0, 0, 0, 1)
	for wide := 1; wide <= 5; wide++ {
		for high := 1; high <= 5; high++ {
			for at := range wide * high {
				x, y := at%wide, at/wide
				outer := []bool{true, y == 0, x == wide-1, y == high-1, x == 0}
				for tile := range tiles {
					cells := zeros(wide * high)
					cells[at] = tile
					if ok, err := wang.Fits(tiles, wide, high, cells, false); err != nil || ok != outer[tile] {
						t.Errorf("%d by %d, tile %d at %d: %v, %v", wide, high, tile, at, ok, err)
					}
					if ok, err := wang.Fits(tiles, wide, high, cells, true); err != nil || ok != (tile == 0) {
						t.Errorf("ring of %d by %d, tile %d at %d: %v, %v", wide, high, tile, at, ok, err)
					}
				}
			}
		}
	}
}

// TestOnePair: T1: two cells show each other a colour of their own; they must be neighbours, of a ring also round its ends, and the right way round.
func TestOnePair(t *testing.T) {
	tiles := set(0, 0, 0, 0, 0, 1, 0, 0, 0, 0, 0, 1, 0, 0, 1, 0, 1, 0, 0, 0)
	for wide := 2; wide <= 5; wide++ {
		for high := 2; high <= 5; high++ {
			for a := range wide * high {
				for b := range wide * high {
					if a == b {
						continue
					}
					for _, pair := range [][2]int{{1, 2}, {3, 4}, {1, 4}, {3, 2}} {
						cells := zeros(wide * high)
						cells[a], cells[b] = pair[0], pair[1]
						heldAgainst(t, tiles, wide, high, cells)
					}
				}
			}
		}
	}
}

// heldAgainst holds Fits against all pairs of sides, and gives whether cells fit without a ring, and with one.
func heldAgainst(t *testing.T, tiles []api.Tile, wide, high int, cells []int) (bool, bool) {
	t.Helper()
	var out [2]bool
	for i, ring := range []bool{false, true} {
		ok, err := wang.Fits(tiles, wide, high, cells, ring)
		if want := slowFits(tiles, wide, high, cells, ring); err != nil || ok != want {
			t.Errorf("Fits(%v, %d, %d, %v, %v): %v, %v, want %v", tiles, wide, high, cells, ring, ok, err, want)
		}
		out[i] = ok
	}
	return out[0], out[1]
}

// TestNoRing: T1: cells that fit, and are no ring by their last column alone, or by their last row alone.
func TestNoRing(t *testing.T) {
	for wide := 1; wide <= 5; wide++ {
		for high := 1; high <= 5; high++ {
			// Tile i has i to its left, and i + 1 to its right: a row of them fits, and does not close.
			var across, down []api.Tile
			for i := range 5 {
				across = append(across, api.Tile{Up: 6, Right: i + 1, Down: 6, Left: i})
				down = append(down, api.Tile{Up: i, Right: 6, Down: i + 1, Left: 6})
			}
			var columns, rows []int
			for at := range wide * high {
				columns = append(columns, at%wide)
				rows = append(rows, at/wide)
			}
			if fit, ring := heldAgainst(t, across, wide, high, columns); !fit || ring {
				t.Errorf("%d by %d, across: %v, %v", wide, high, fit, ring)
			}
			if fit, ring := heldAgainst(t, down, wide, high, rows); !fit || ring {
				t.Errorf("%d by %d, down: %v, %v", wide, high, fit, ring)
			}
			across[wide-1].Right, down[high-1].Down = 0, 0
			if fit, ring := heldAgainst(t, across, wide, high, columns); !fit || !ring {
				t.Errorf("%d by %d, across, closed: %v, %v", wide, high, fit, ring)
			}
			if fit, ring := heldAgainst(t, down, wide, high, rows); !fit || !ring {
				t.Errorf("%d by %d, down, closed: %v, %v", wide, high, fit, ring)
			}
		}
	}
}

// TestRingOfOne: T1: a tile is its own neighbour in a ring of side 1.
func TestRingOfOne(t *testing.T) {
	cases := []struct {
		tiles      []api.Tile
		wide, high int
		want       bool
	}{
		{set(5, 2, 5, 2), 1, 1, true},
		{set(5, 2, 4, 2), 1, 1, false},
		{set(5, 2, 5, 3), 1, 1, false},
		{set(5, 2, 5, 2), 5, 1, true},
		{set(5, 2, 5, 2), 1, 5, true},
		{set(5, 2, 4, 2), 5, 1, false},
		{set(5, 2, 5, 3), 1, 5, false},
	}
	for _, c := range cases {
		fit, ring := heldAgainst(t, c.tiles, c.wide, c.high, zeros(c.wide*c.high))
		if ring != c.want {
			t.Errorf("%v of %d by %d: %v", c.tiles, c.wide, c.high, ring)
		}
		if c.wide*c.high == 1 && !fit {
			t.Errorf("%v alone does not fit", c.tiles)
		}
	}
}

// TestAnyCells: T1: Fits of any cells, and of those that Fill finds with one of them changed.
func TestAnyCells(t *testing.T) {
	random := rand.New(rand.NewSource(1))
	counts := map[bool]int{}
	for range 4000 {
		tiles := anySet(random, 1+random.Intn(16), 1+random.Intn(4))
		wide, high := 1+random.Intn(5), 1+random.Intn(5)
		cells, err := wang.Fill(tiles, wide, high, random.Intn(2) == 0)
		if err != nil {
			cells = zeros(wide * high)
			for i := range cells {
				cells[i] = random.Intn(len(tiles))
			}
		}
		fit, _ := heldAgainst(t, tiles, wide, high, cells)
		counts[fit]++
		cells[random.Intn(len(cells))] = random.Intn(len(tiles))
		fit, _ = heldAgainst(t, tiles, wide, high, cells)
		counts[fit]++
	}
	if counts[true] < 500 || counts[false] < 500 {
		t.Errorf("fit, or not: %v", counts)
	}
}
