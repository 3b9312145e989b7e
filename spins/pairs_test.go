package spins_test

import (
	"slices"
	"testing"

	"eden/spins"
)

// pairs goes by the words of E2: each cell with the one to its right, and with the one below it.
func pairs(wide, high int, rings bool) [][2]int {
	var out [][2]int
	for y := range high {
		for x := range wide {
			if rings || x+1 < wide {
				out = append(out, [2]int{y*wide + x, y*wide + (x+1)%wide})
			}
			if rings || y+1 < high {
				out = append(out, [2]int{y*wide + x, (y+1)%high*wide + x})
			}
		}
	}
	return out
}

// slowPairs goes through all ways to set the cells.
func slowPairs(cells int, all [][2]int) []int {
	out := make([]int, len(all)+1)
	for way := range 1 << cells {
		k := 0
		for _, p := range all {
			k += (way>>p[0] ^ way>>p[1]) & 1
		}
		out[k]++
	}
	return out
}

// byCells sets cell by cell, and keeps the counts of ways that differ only in cells whose pairs have all been looked at together.
func byCells(cells int, all [][2]int) []int {
	last := make([]int, cells)
	for _, p := range all {
		last[p[0]] = max(last[p[0]], p[1])
		last[p[1]] = max(last[p[1]], p[0])
	}
	now := map[int][]int{0: make([]int, len(all)+1)}
	now[0][0] = 1
	for cell := range cells {
		next := map[int][]int{}
		for way, counts := range now {
			for _, set := range []int{way, way | 1<<cell} {
				k := 0
				for _, p := range all {
					if max(p[0], p[1]) == cell {
						k += (set>>p[0] ^ set>>p[1]) & 1
					}
				}
				for done := range cell + 1 {
					if last[done] <= cell {
						set &^= 1 << done
					}
				}
				if next[set] == nil {
					next[set] = make([]int, len(all)+1)
				}
				for i, n := range counts[:len(counts)-k] {
					next[set][i+k] += n
				}
			}
		}
		now = next
	}
	return now[0]
}

// TestOneCell: E2: a cell alone has no pair; of rings it is beside itself twice, and never unlike.
func TestOneCell(t *testing.T) {
	is(t, "Free", 1, 1, counted(t, spins.Free, 1, 1), 2)
	is(t, "Energies", 1, 1, counted(t, spins.Energies, 1, 1), 2, 0, 0)
}

// TestOneRow: E2: of n cells in a row k of n - 1 pairs are unlike; of a ring an even number of n, and n more pairs are of cells with themselves.
func TestOneRow(t *testing.T) {
	for n := 1; n <= 6; n++ {
		free := make([]int, n)
		for k := range free {
			free[k] = 2 * choose(n-1, k)
		}
		ring := make([]int, 2*n+1)
		for k := 0; k <= n; k += 2 {
			ring[k] = 2 * choose(n, k)
		}
		is(t, "Free", n, 1, counted(t, spins.Free, n, 1), free...)
		is(t, "Free", 1, n, counted(t, spins.Free, 1, n), free...)
		is(t, "Energies", n, 1, counted(t, spins.Energies, n, 1), ring...)
		is(t, "Energies", 1, n, counted(t, spins.Energies, 1, n), ring...)
	}
}

// TestSideOfTwo: E2: two cells that are a ring are two pairs.
func TestSideOfTwo(t *testing.T) {
	is(t, "Free", 2, 2, counted(t, spins.Free, 2, 2), 2, 0, 12, 0, 2)
	is(t, "Energies", 2, 1, counted(t, spins.Energies, 2, 1), 2, 0, 2, 0, 0)
	is(t, "Energies", 1, 2, counted(t, spins.Energies, 1, 2), 2, 0, 2, 0, 0)
	is(t, "Energies", 2, 2, counted(t, spins.Energies, 2, 2), 2, 0, 0, 0, 12, 0, 0, 0, 2)
	is(t, "Energies", 2, 3, counted(t, spins.Energies, 2, 3), 2, 0, 0, 0, 18, 0, 26, 0, 12, 0, 6, 0, 0)
	is(t, "Energies", 3, 2, counted(t, spins.Energies, 3, 2), 2, 0, 0, 0, 18, 0, 26, 0, 12, 0, 6, 0, 0)
}

// TestKnownRings: E2: of 4 by 4 the counts are those of Ising's model.
func TestKnownRings(t *testing.T) {
	is(t, "Energies", 4, 4, counted(t, spins.Energies, 4, 4), 2, 0, 0, 0, 32, 0, 64, 0, 424, 0, 1728, 0, 6688, 0, 13568, 0, 20524, 0, 13568, 0, 6688, 0, 1728, 0, 424, 0, 64, 0, 32, 0, 0, 0, 2)
}

// TestAllWays: E2: all sizes of up to 20 cells, against all ways.
func TestAllWays(t *testing.T) {
	for _, size := range sizes(20) {
		wide, high := size[0], size[1]
		is(t, "Free", wide, high, counted(t, spins.Free, wide, high), slowPairs(wide*high, pairs(wide, high, false))...)
		is(t, "Energies", wide, high, counted(t, spins.Energies, wide, high), slowPairs(wide*high, pairs(wide, high, true))...)
	}
}

// TestByCells: E2: all sizes, the greatest among them, against counts that come about cell by cell; these are held against all ways, too.
func TestByCells(t *testing.T) {
	for _, size := range sizes(30) {
		wide, high := size[0], size[1]
		for _, rings := range []bool{false, true} {
			name, call := "Free", spins.Free
			if rings {
				name, call = "Energies", spins.Energies
			}
			all := pairs(wide, high, rings)
			want := byCells(wide*high, all)
			if wide*high <= 12 && !slices.Equal(want, slowPairs(wide*high, all)) {
				t.Errorf("%d by %d, %v: cell by cell %v", wide, high, rings, want)
			}
			is(t, name, wide, high, counted(t, call, wide, high), want...)
		}
	}
}

// TestTogether: E2: all numbers together are all ways to set the cells; and half of the pairs of two cells are unlike.
func TestTogether(t *testing.T) {
	for _, size := range sizes(30) {
		wide, high := size[0], size[1]
		ways := 1 << (wide * high)
		for _, rings := range []bool{false, true} {
			call := spins.Free
			if rings {
				call = spins.Energies
			}
			counts := counted(t, call, wide, high)
			if sum(counts) != ways || counts[0] != 2 {
				t.Errorf("%d by %d, %v: %d together, want %d; the first is %d", wide, high, rings, sum(counts), ways, counts[0])
			}
			two := 0
			for _, p := range pairs(wide, high, rings) {
				if p[0] != p[1] {
					two++
				}
			}
			unlike := 0
			for k, n := range counts {
				unlike += k * n
			}
			if unlike != two*ways/2 {
				t.Errorf("%d by %d, %v: %d pairs unlike in all, want %d", wide, high, rings, unlike, two*ways/2)
			}
		}
	}
}

// TestLying: E2: what lies counts as what stands.
func TestLying(t *testing.T) {
	for _, size := range sizes(30) {
		wide, high := size[0], size[1]
		is(t, "Free", wide, high, counted(t, spins.Free, wide, high), counted(t, spins.Free, high, wide)...)
		is(t, "Energies", wide, high, counted(t, spins.Energies, wide, high), counted(t, spins.Energies, high, wide)...)
	}
}

// TestEverySecond: E2: if every second cell is turned, like pairs are unlike ones: the counts read backwards are the same; of rings where both sides are even.
func TestEverySecond(t *testing.T) {
	for _, size := range sizes(30) {
		wide, high := size[0], size[1]
		back := counted(t, spins.Free, wide, high)
		slices.Reverse(back)
		is(t, "Free", wide, high, counted(t, spins.Free, wide, high), back...)
		if wide%2 == 0 && high%2 == 0 {
			back = counted(t, spins.Energies, wide, high)
			slices.Reverse(back)
			is(t, "Energies", wide, high, counted(t, spins.Energies, wide, high), back...)
		}
	}
}

// TestEvenRings: E2: round a ring an even number of pairs is unlike, so the odd numbers are 0.
func TestEvenRings(t *testing.T) {
	for _, size := range sizes(30) {
		for k, n := range counted(t, spins.Energies, size[0], size[1]) {
			if k%2 == 1 && n != 0 {
				t.Errorf("%d by %d: %d ways have %d pairs", size[0], size[1], n, k)
			}
		}
	}
}
