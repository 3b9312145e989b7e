package wang_test

import (
	"math/rand"
	"slices"
	"testing"

	"eden/api"
	"eden/plain"
	"eden/wang"
)

// dominoes are tiles of which two show each other a colour: so many that lie, so many that stand, and the one that stands alone, behind them.
func dominoes(lying, standing int, alone bool) []api.Tile {
	var out []api.Tile
	for i := 1; i <= lying; i++ {
		out = append(out, set(0, i, 0, 0, 0, 0, 0, i)...)
	}
	for i := 1; i <= standing; i++ {
		out = append(out, set(0, 0, i, 0, i, 0, 0, 0)...)
	}
	if alone {
		out = append(out, api.Tile{})
	}
	return out
}

// diagonal has so many tiles, of which each stands to the right of the one ahead of it, and below it, too.
func diagonal(count int) []api.Tile {
	var out []api.Tile
	for i := range count {
		next := (i + 1) % count
		out = append(out, api.Tile{Up: i, Right: next, Down: next, Left: i})
	}
	return out
}

// allCells goes through all cells in order, till one fits; nil: none.
func allCells(tiles []api.Tile, wide, high int, ring bool) []int {
	cells := zeros(wide * high)
	for {
		if slowFits(tiles, wide, high, cells, ring) {
			return cells
		}
		at := len(cells) - 1
		for at >= 0 && cells[at] == len(tiles)-1 {
			cells[at] = 0
			at--
		}
		if at < 0 {
			return nil
		}
		cells[at]++
	}
}

// slow fills cell by cell, and goes back where nothing fits; it gives up behind so many tries.
type slow struct {
	tiles      []api.Tile
	wide, high int
	ring       bool
	tries      int
	cells      []int
}

func (s *slow) fill() bool {
	at := len(s.cells)
	if at == s.wide*s.high {
		return true
	}
	x, y := at%s.wide, at/s.wide
	for tile, now := range s.tiles {
		s.tries--
		if s.tries < 0 {
			return false
		}
		if x > 0 && s.tiles[s.cells[at-1]].Right != now.Left || y > 0 && s.tiles[s.cells[at-s.wide]].Down != now.Up {
			continue
		}
		s.cells = append(s.cells, tile)
		right := s.ring && x == s.wide-1 && now.Right != s.tiles[s.cells[y*s.wide]].Left
		below := s.ring && y == s.high-1 && now.Down != s.tiles[s.cells[x]].Up
		if !right && !below && s.fill() {
			return true
		}
		s.cells = s.cells[:at]
	}
	return false
}

// filled asks Fill for cells, or, if they are nil, for ErrNone.
func filled(t *testing.T, tiles []api.Tile, wide, high int, ring bool, want []int) {
	t.Helper()
	cells, err := wang.Fill(tiles, wide, high, ring)
	if want == nil {
		if plain.Told(err) != api.ErrNone || len(cells) != 0 {
			t.Errorf("Fill(%v, %d, %d, %v): %v, %v, want none", tiles, wide, high, ring, cells, err)
		}
		return
	}
	if err != nil || !slices.Equal(cells, want) {
		t.Errorf("Fill(%v, %d, %d, %v): %v, %v, want %v", tiles, wide, high, ring, cells, err, want)
	}
}

// TestFillKnown: T2: first cells that are plain to see, with a ring and without one.
func TestFillKnown(t *testing.T) {
	cases := []struct {
		tiles      []api.Tile
		wide, high int
		ring       bool
		want       []int
	}{
		{set(0, 1, 0, 2, 0, 2, 0, 1), 2, 1, true, []int{0, 1}},
		{set(0, 1, 0, 2, 0, 2, 0, 1), 3, 2, false, []int{0, 1, 0, 0, 1, 0}},
		{set(0, 1, 0, 2, 0, 2, 0, 1), 3, 2, true, nil},
		{set(0, 1, 0, 2, 0, 2, 0, 1), 4, 2, true, []int{0, 1, 0, 1, 0, 1, 0, 1}},
		{set(0, 1, 2, 3), 1, 1, false, []int{0}},
		{set(0, 1, 2, 3), 1, 1, true, nil},
		{set(0, 1, 2, 3), 2, 1, false, nil},
		{set(0, 1, 2, 3), 1, 2, false, nil},
		{set(0, 1, 2, 1), 5, 1, false, zeros(5)},
		{set(0, 1, 0, 3), 1, 5, false, zeros(5)},
		{set(0, 1, 2, 1), 5, 1, true, nil},
		{set(0, 1, 0, 3), 1, 5, true, nil},
		// The first tile leads into a corner, which only the last cell tells.
		{set(0, 0, 0, 0, 0, 0, 1, 0, 1, 1, 1, 0, 1, 0, 1, 1, 2, 2, 2, 2), 2, 2, false, []int{0, 0, 0, 0}},
		{set(0, 0, 1, 0, 2, 2, 2, 2), 2, 2, false, []int{1, 1, 1, 1}},
		{set(0, 0, 1, 0, 2, 2, 2, 2), 2, 1, false, []int{0, 0}},
		{set(0, 0, 1, 0, 2, 2, 2, 2), 2, 1, true, []int{1, 1}},
		// Of tiles that are alike, and of those that are so but for sides at which nobody looks, the first one stands there.
		{set(1, 2, 1, 2, 3, 3, 3, 3, 1, 2, 1, 2), 2, 2, true, zeros(4)},
		{set(7, 2, 1, 6, 1, 3, 5, 2, 4, 3, 5, 2, 4, 2, 1, 2), 3, 1, false, []int{0, 3, 1}},
		{set(7, 2, 1, 6, 1, 3, 5, 2, 4, 3, 5, 2, 4, 2, 1, 2), 2, 1, false, []int{0, 1}},
		{diagonal(4), 4, 4, true, []int{0, 1, 2, 3, 1, 2, 3, 0, 2, 3, 0, 1, 3, 0, 1, 2}},
		{diagonal(4), 5, 4, true, nil},
		{diagonal(4), 4, 5, true, nil},
		{diagonal(5), 5, 2, false, []int{0, 1, 2, 3, 4, 1, 2, 3, 4, 0}},
		{diagonal(5), 5, 2, true, nil},
		{dominoes(1, 1, false), 3, 3, true, nil},
		{dominoes(1, 0, true), 5, 1, false, []int{0, 1, 0, 1, 0}},
		{dominoes(1, 0, true), 5, 1, true, []int{0, 1, 0, 1, 2}},
		{dominoes(0, 1, true), 1, 5, true, []int{0, 1, 0, 1, 2}},
	}
	for _, c := range cases {
		filled(t, c.tiles, c.wide, c.high, c.ring, c.want)
	}
}

// TestFillAll: T2: Fill's cells are the first of all cells, of small sizes.
func TestFillAll(t *testing.T) {
	random := rand.New(rand.NewSource(2))
	counts := map[bool]int{}
	for range 6000 {
		tiles := anySet(random, 1+random.Intn(6), 1+random.Intn(3))
		wide, high := 1+random.Intn(5), 1+random.Intn(5)
		if power(len(tiles), wide*high) > 20000 {
			continue
		}
		for _, ring := range []bool{false, true} {
			want := allCells(tiles, wide, high, ring)
			filled(t, tiles, wide, high, ring, want)
			counts[want != nil]++
		}
	}
	if counts[true] < 500 || counts[false] < 500 {
		t.Errorf("filled, or not: %v", counts)
	}
}

// power of a number; 20001, where it would be more.
func power(base, times int) int {
	out := 1
	for range times {
		out = min(out*base, 20001)
	}
	return out
}

// TestFillSlowly: T2: of all sizes, with few tiles and with many.
func TestFillSlowly(t *testing.T) {
	random := rand.New(rand.NewSource(3))
	counts := map[bool]int{}
	for wide := 1; wide <= 5; wide++ {
		for high := 1; high <= 5; high++ {
			for range 100 {
				tiles := anySet(random, 1+random.Intn(16), 1+random.Intn(8))
				for _, ring := range []bool{false, true} {
					if found, known := slowly(t, tiles, wide, high, ring); known {
						counts[found]++
					}
				}
			}
		}
	}
	if counts[true] < 1000 || counts[false] < 1000 {
		t.Errorf("filled, or not: %v", counts)
	}
}

// slowly holds Fill against going back and forth; known is false, where that would take too long.
func slowly(t *testing.T, tiles []api.Tile, wide, high int, ring bool) (found, known bool) {
	t.Helper()
	s := &slow{tiles: tiles, wide: wide, high: high, ring: ring, tries: 300000}
	found = s.fill()
	if s.tries < 0 {
		return false, false
	}
	if !found {
		s.cells = nil
	}
	filled(t, tiles, wide, high, ring, s.cells)
	return found, true
}

// TestFillDominoes: T2: dominoes on rings of odd sides leave a cell over, which no few cells tell.
func TestFillDominoes(t *testing.T) {
	for _, tiles := range [][]api.Tile{dominoes(4, 4, false), dominoes(5, 3, false), dominoes(2, 6, false)} {
		filled(t, tiles, 5, 5, true, nil)
		filled(t, tiles, 5, 3, true, nil)
		filled(t, tiles, 3, 5, true, nil)
		for _, size := range [][2]int{{5, 4}, {4, 5}, {2, 3}} {
			firstOf(t, tiles, size[0], size[1], true)
		}
		firstOf(t, tiles, 5, 5, false)
	}
	for _, tiles := range [][]api.Tile{dominoes(4, 3, true), dominoes(3, 4, true)} {
		cells := firstOf(t, tiles, 5, 5, true)
		if alone := len(tiles) - 1; !slices.Contains(cells, alone) {
			t.Errorf("%v has no cell over", cells)
		}
	}
}

// firstOf asks that Fill finds cells that fit, and that none fit that have the same beginning and an earlier tile behind it; that is looked for from the end on, as far as it does not take too long.
func firstOf(t *testing.T, tiles []api.Tile, wide, high int, ring bool) []int {
	t.Helper()
	cells, err := wang.Fill(tiles, wide, high, ring)
	if err != nil || len(cells) != wide*high || !slowFits(tiles, wide, high, cells, ring) {
		t.Errorf("Fill(%v, %d, %d, %v): %v, %v", tiles, wide, high, ring, cells, err)
		return nil
	}
	for at := len(cells) - 1; at >= 0; at-- {
		s := &slow{tiles: tiles, wide: wide, high: high, ring: ring, tries: 1000000, cells: slices.Clone(cells[:at])}
		s.fill()
		if s.tries < 0 {
			break
		}
		if !slices.Equal(s.cells, cells) {
			t.Errorf("Fill(%v, %d, %d, %v): %v, but %v is ahead", tiles, wide, high, ring, cells, s.cells)
		}
	}
	return cells
}

// TestGiven: P2, P4: nothing that is handed in is written into, what lies behind a list's length does not count, and what comes out is fresh.
func TestGiven(t *testing.T) {
	whole := append(diagonal(3), set(9, 9, 9, 9, 0, 0, 0, 0)...)
	kept := slices.Clone(whole)
	tiles := whole[:3]
	numbers := []int{0, 1, 2, 1, 2, 0, 2, 0, 1, -7, -8}
	given := numbers[:9]
	var before [][]int
	for range 2 {
		if ok, err := wang.Fits(tiles, 3, 3, given, true); err != nil || !ok {
			t.Errorf("Fits: %v, %v", ok, err)
		}
		cells, err := wang.Fill(tiles, 3, 3, true)
		if err != nil || !slices.Equal(cells, given) {
			t.Errorf("Fill: %v, %v", cells, err)
		}
		d, err := wang.Decide(tiles, 5)
		if err != nil || !d.Torus || d.Wide != 3 || d.High != 3 || !slices.Equal(d.Tiles, given) {
			t.Errorf("Decide: %v, %v", d, err)
		}
		for _, list := range before {
			if list[0] != -9 {
				t.Errorf("shared: %v", list)
			}
		}
		cells[0], d.Tiles[0] = -9, -9
		before = append(before, cells, d.Tiles)
	}
	if !slices.Equal(whole, kept) || !slices.Equal(numbers, []int{0, 1, 2, 1, 2, 0, 2, 0, 1, -7, -8}) {
		t.Errorf("written into: %v, %v", whole, numbers)
	}
}
