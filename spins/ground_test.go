package spins

import (
	"math/rand"
	"testing"
)

// draw takes rows of which each # is a cell of the set.
func draw(rows ...string) (int, int, uint) {
	set := uint(0)
	for y, row := range rows {
		for x, c := range row {
			if c == '#' {
				set |= 1 << (y*len(row) + x)
			}
		}
	}
	return len(rows[0]), len(rows), set
}

// TestLeads: E3: sets that lead, or do not, of more cells than are counted, too.
func TestLeads(t *testing.T) {
	cases := []struct {
		rows            []string
		without, corner bool
	}{
		{[]string{"."}, false, false},
		{[]string{"#"}, true, true},
		{[]string{"..#."}, true, true},
		{[]string{"#", ".", "#"}, false, false},
		{[]string{"#.", ".#"}, false, true},
		{[]string{".#", "#."}, false, true},
		{[]string{"#..", "..#"}, false, false},
		{[]string{"..#", "#.."}, false, false},
		{[]string{"#.#.", ".#.#", "#.#.", ".#.#"}, false, true},
		{[]string{"####", "....", "####"}, false, false},
		{[]string{"#...", "##..", ".##.", "..##"}, true, true},
		{[]string{"...#", "..##", ".##.", "##.."}, true, true},
		// Down, up again, and down.
		{[]string{"#....", "#.###", "###.#", "....#"}, true, true},
		{[]string{"....#", "###.#", "#.###", "#...."}, true, true},
		{[]string{"#...", "#.#.", ".#.#", "...#"}, false, true},
		{[]string{"...#", ".#.#", "#.#.", "#..."}, false, true},
		{[]string{"#.....", "#.###.", "#.#.#.", "#.#.##", "###..#", ".....#"}, true, true},
		{[]string{"#.....", "#.###.", "#.#.#.", "#.#..#", "###..#", ".....#"}, false, true},
		{[]string{"#.....", "#.###.", "#.#.#.", "#.#...", "###..#", ".....#"}, false, false},
	}
	for _, c := range cases {
		wide, high, set := draw(c.rows...)
		if got := join(wide, high, false).leads(set); got != c.without {
			t.Errorf("%q leads: %v", c.rows, got)
		}
		if got := join(wide, high, true).leads(set); got != c.corner {
			t.Errorf("%q leads with corners: %v", c.rows, got)
		}
	}
}

// others are the cells that a set does not have, with columns for rows.
func others(wide, high int, set uint) uint {
	out := uint(0)
	for y := range high {
		for x := range wide {
			if set>>(y*wide+x)&1 == 0 {
				out |= 1 << (x*high + y)
			}
		}
	}
	return out
}

// TestOthers: E3: a set leads down just where the other cells do not lead across with corners; and with corners just where they do not without.
func TestOthers(t *testing.T) {
	random := rand.New(rand.NewSource(1))
	for wide := 1; wide <= 6; wide++ {
		for high := 1; high <= 6; high++ {
			cells := wide * high
			for i := range min(4096, 1<<cells) {
				set := uint(i)
				if cells > 12 {
					set = uint(random.Int63()) & (1<<cells - 1)
				}
				rest := others(wide, high, set)
				for _, corners := range []bool{false, true} {
					if join(wide, high, corners).leads(set) == join(high, wide, !corners).leads(rest) {
						t.Errorf("%d by %d, %b: leads as the others do, %v", wide, high, set, corners)
					}
				}
			}
		}
	}
}
