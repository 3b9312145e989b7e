package spins_test

import (
	"math/bits"
	"testing"

	"eden/spins"
)

// slowLeads spreads from the first row by rounds, till nothing more is reached. If it may not go up, it never goes to a row above.
func slowLeads(wide, high, set int, corners, up bool) bool {
	in := func(x, y int) bool { return x >= 0 && x < wide && y >= 0 && y < high && set>>(y*wide+x)&1 == 1 }
	var reached [6][6]bool
	for x := range wide {
		reached[0][x] = in(x, 0)
	}
	for range wide * high {
		for y := range high {
			for x := range wide {
				for dy := -1; dy <= 1; dy++ {
					for dx := -1; dx <= 1; dx++ {
						if reached[y][x] && in(x+dx, y+dy) && (corners || dx == 0 || dy == 0) && (up || dy >= 0) {
							reached[y+dy][x+dx] = true
						}
					}
				}
			}
		}
	}
	for x := range wide {
		if reached[high-1][x] {
			return true
		}
	}
	return false
}

// slowCrossings goes through all sets.
func slowCrossings(wide, high int, corners, up bool) []int {
	out := make([]int, wide*high+1)
	for set := range 1 << (wide * high) {
		if slowLeads(wide, high, set, corners, up) {
			out[bits.OnesCount(uint(set))]++
		}
	}
	return out
}

// TestAllSets: E3: all sizes, with corners and without them, against all sets.
func TestAllSets(t *testing.T) {
	for _, size := range sizes(16) {
		for _, corners := range []bool{false, true} {
			want := slowCrossings(size[0], size[1], corners, true)
			is(t, "Crossings", size[0], size[1], counted(t, cross(corners), size[0], size[1]), want...)
		}
	}
}

// TestCrossOneRow: E3: the first row is the last one: all sets lead but the empty one.
func TestCrossOneRow(t *testing.T) {
	for n := 1; n <= 6; n++ {
		want := make([]int, n+1)
		for k := 1; k <= n; k++ {
			want[k] = choose(n, k)
		}
		is(t, "Crossings", n, 1, counted(t, cross(false), n, 1), want...)
		is(t, "Crossings", n, 1, counted(t, cross(true), n, 1), want...)
	}
}

// TestCrossOneColumn: E3: only all cells lead.
func TestCrossOneColumn(t *testing.T) {
	for n := 1; n <= 6; n++ {
		want := make([]int, n+1)
		want[n] = 1
		is(t, "Crossings", 1, n, counted(t, cross(false), 1, n), want...)
		is(t, "Crossings", 1, n, counted(t, cross(true), 1, n), want...)
	}
}

// TestCrossKnown: E3: what lies does not count as what stands.
func TestCrossKnown(t *testing.T) {
	is(t, "Crossings", 2, 3, counted(t, cross(false), 2, 3), 0, 0, 0, 2, 8, 6, 1)
	is(t, "Crossings", 3, 2, counted(t, cross(false), 3, 2), 0, 0, 3, 12, 15, 6, 1)
	is(t, "Crossings", 2, 3, counted(t, cross(true), 2, 3), 0, 0, 0, 8, 12, 6, 1)
	is(t, "Crossings", 3, 2, counted(t, cross(true), 3, 2), 0, 0, 7, 18, 15, 6, 1)
	is(t, "Crossings", 2, 2, counted(t, cross(true), 2, 2), 0, 0, 4, 4, 1)
	is(t, "Crossings", 3, 3, counted(t, cross(false), 3, 3), 0, 0, 0, 3, 22, 59, 67, 36, 9, 1)
	is(t, "Crossings", 3, 3, counted(t, cross(true), 3, 3), 0, 0, 0, 17, 67, 104, 81, 36, 9, 1)
}

// straight is how many ways of one cell a row lead down, each cell at most so far from the one above it.
func straight(wide, high, far int) int {
	now := make([]int, wide)
	for x := range now {
		now[x] = 1
	}
	for range high - 1 {
		next := make([]int, wide)
		for x := range next {
			next[x] = sum(now[max(0, x-far):min(wide, x+far+1)])
		}
		now = next
	}
	return sum(now)
}

// TestShortest: E3: fewer cells than rows never lead; as many do so straight down, or, by corners alone, also aslant.
func TestShortest(t *testing.T) {
	for _, size := range sizes(16) {
		wide, high := size[0], size[1]
		for far, corners := range []bool{false, true} {
			counts := counted(t, cross(corners), wide, high)
			if sum(counts[:high]) != 0 || counts[high] != straight(wide, high, far) {
				t.Errorf("Crossings of %d by %d, %v: %v, want %d at %d", wide, high, corners, counts, straight(wide, high, far), high)
			}
		}
	}
}

// TestUpAgain: E3: of 4 by 4 some sets lead by corners only where a way goes up again before it comes down; they are counted. (Without corners none of 16 cells is so: that is tested of sets.)
func TestUpAgain(t *testing.T) {
	// The second row of the set is reached from the third one.
	set := 1 | 1<<4 | 1<<9 | 1<<6 | 1<<11 | 1<<15
	if !slowLeads(4, 4, set, true, true) || slowLeads(4, 4, set, true, false) {
		t.Error("the set does not go up")
	}
	down, counts := slowCrossings(4, 4, true, false), counted(t, cross(true), 4, 4)
	if counts[6] <= down[6] {
		t.Errorf("Crossings of 4 by 4: %d of 6 cells, and %d that never go up", counts[6], down[6])
	}
}

// TestOtherCells: E3: a set leads down just where the others do not lead across, with corners where it has none: together they are all sets.
func TestOtherCells(t *testing.T) {
	for _, size := range sizes(16) {
		wide, high := size[0], size[1]
		cells := wide * high
		for _, corners := range []bool{false, true} {
			down := counted(t, cross(corners), wide, high)
			across := counted(t, cross(!corners), high, wide)
			for k, n := range down {
				if n+across[cells-k] != choose(cells, k) {
					t.Errorf("Crossings of %d by %d, %v: %d of %d cells lead down, and of %d others across", wide, high, corners, n, k, across[cells-k])
				}
			}
		}
	}
}

// TestAllSquares: E3: without corners, of a square, the sets that lead down and those that lead across with corners are all sets together.
func TestAllSquares(t *testing.T) {
	for n := 1; n <= 4; n++ {
		if a, b := sum(counted(t, cross(false), n, n)), sum(counted(t, cross(true), n, n)); a+b != 1<<(n*n) {
			t.Errorf("%d by %d: %d and %d together", n, n, a, b)
		}
	}
}

// TestMoreCorners: E3: with corners no fewer sets lead.
func TestMoreCorners(t *testing.T) {
	for _, size := range sizes(16) {
		with, err := spins.Crossings(size[0], size[1], true)
		if err != nil {
			t.Fatal(err)
		}
		for k, n := range counted(t, cross(false), size[0], size[1]) {
			if n > with[k] || size[0] > 1 && size[1] > 1 && k == size[1] && n == with[k] {
				t.Errorf("%d by %d: %d sets of %d cells, with corners %d", size[0], size[1], n, k, with[k])
			}
		}
	}
}
