package gas_test

import (
	"math"
	"math/rand"
	"slices"
	"testing"

	"eden/api"
	"eden/gas"
	"eden/plain"
)

// of is a gas of these cells.
func of(kind, wide, high int, cells ...int) api.Gas {
	return api.Gas{Kind: kind, Wide: wide, High: high, Cells: cells}
}

// empty is a gas without a particle.
func empty(kind, wide, high int) api.Gas {
	return of(kind, wide, high, make([]int, wide*high)...)
}

func anyGas(random *rand.Rand, kind, wide, high int) api.Gas {
	g := empty(kind, wide, high)
	for i := range g.Cells {
		g.Cells[i] = random.Intn(1 << kind)
	}
	return g
}

// meeting is a gas in which many particles meet: most of its cells hold two or three.
func meeting(random *rand.Rand, kind, wide, high int) api.Gas {
	some := []int{0, 5, 10, 5, 10}
	if kind == api.Six {
		some = []int{0, 9, 18, 36, 21, 42}
	}
	g := empty(kind, wide, high)
	for i := range g.Cells {
		g.Cells[i] = some[random.Intn(len(some))]
	}
	return g
}

func anyCoins(random *rand.Rand, count int) []int {
	coins := make([]int, count)
	for i := range coins {
		coins[i] = random.Intn(2)
	}
	return coins
}

// sizes of gases: the least and the greatest sides, and rings of one column or one row, among them.
func sizes(kind int) [][2]int {
	if kind == api.Six {
		return [][2]int{{1, 2}, {2, 2}, {1, 4}, {3, 2}, {2, 4}, {5, 6}, {4, 6}, {100, 2}, {1, 100}, {100, 100}}
	}
	return [][2]int{{1, 1}, {1, 2}, {2, 1}, {1, 5}, {5, 1}, {2, 2}, {3, 3}, {4, 3}, {5, 6}, {100, 1}, {1, 100}, {99, 100}, {100, 100}}
}

func same(a, b api.Gas) bool {
	return a.Kind == b.Kind && a.Wide == b.Wide && a.High == b.High && slices.Equal(a.Cells, b.Cells)
}

func zero(g api.Gas) bool {
	return same(g, api.Gas{})
}

// run is Run of what nothing is wrong with.
func run(t *testing.T, g api.Gas, coins []int, n int) api.Gas {
	t.Helper()
	h, err := gas.Run(g, coins, n)
	if err != nil {
		t.Fatalf("Run(%d, %d by %d, %d coins, %d): %v", g.Kind, g.Wide, g.High, len(coins), n, err)
	}
	return h
}

// turned is Turned of what nothing is wrong with.
func turned(t *testing.T, g api.Gas) api.Gas {
	t.Helper()
	h, err := gas.Turned(g)
	if err != nil {
		t.Fatalf("Turned(%d, %d by %d): %v", g.Kind, g.Wide, g.High, err)
	}
	return h
}

// measures are Mass and Push of what nothing is wrong with.
func measures(t *testing.T, g api.Gas) [3]int {
	t.Helper()
	mass, err := gas.Mass(g)
	if err != nil {
		t.Fatalf("Mass(%d, %d by %d): %v", g.Kind, g.Wide, g.High, err)
	}
	right, up, err := gas.Push(g)
	if err != nil {
		t.Fatalf("Push(%d, %d by %d): %v", g.Kind, g.Wide, g.High, err)
	}
	return [3]int{mass, right, up}
}

// badGas is one that is none, with what Check says.
type badGas struct {
	g    api.Gas
	want api.Errno
}

func badGases() []badGas {
	out := []badGas{
		{api.Gas{}, api.ErrRange},
		// A kind stands first, then sides, both ahead of the cells' number.
		{of(6, 0, 3, 64), api.ErrRange},
		{of(6, 101, 3), api.ErrRange},
		{of(6, 3, 101), api.ErrRange},
		{of(4, 1<<32, 1<<32), api.ErrRange},
		// Of Six an odd High, and another number of cells, stand ahead of a cell that is none.
		{empty(6, 1, 1), api.ErrShape},
		{empty(6, 2, 3), api.ErrShape},
		{empty(6, 100, 99), api.ErrShape},
		{of(6, 1, 1, 64), api.ErrShape},
		{of(6, 1, 3, 0, 0), api.ErrShape},
		{of(4, 1, 1), api.ErrShape},
		{of(4, 1, 1, 0, 0), api.ErrShape},
		{of(4, 2, 2, 0, 0, 0), api.ErrShape},
		{of(4, 2, 2, 0, 0, 0, 0, 0), api.ErrShape},
		{of(4, 2, 2, 16, 0, 0), api.ErrShape},
		{of(4, 2, 2, 0, 0, 0, 0, -1), api.ErrShape},
		{of(6, 2, 2, 0, 0, 0), api.ErrShape},
		{of(6, 2, 2, 0, 0, 0, 0, 64), api.ErrShape},
		{of(6, 2, 2), api.ErrShape},
	}
	for _, kind := range []int{math.MinInt, -6, -4, -1, 0, 1, 2, 3, 5, 7, 8, 64, 1 << 32, 4 + 1<<32, math.MaxInt} {
		out = append(out, badGas{of(kind, 1, 2, 0, 0), api.ErrRange}, badGas{of(kind, 1, 1, 0, 0), api.ErrRange})
	}
	for _, kind := range []int{api.Four, api.Six} {
		for _, side := range []int{math.MinInt, -2, -1, 0, 101, 102, 1 << 32, math.MaxInt} {
			out = append(out, badGas{of(kind, side, 2, 0, 0), api.ErrRange}, badGas{of(kind, 2, side, 0, 0), api.ErrRange}, badGas{of(kind, side, side), api.ErrRange})
		}
		for _, cell := range []int{math.MinInt, -64, -1, 1 << kind, 1<<kind + 1, 256, 1 << 32, math.MaxInt} {
			out = append(out, badGas{of(kind, 2, 2, cell, 0, 0, 0), api.ErrRange}, badGas{of(kind, 2, 2, 0, 0, 0, cell), api.ErrRange})
		}
	}
	return append(out, badGas{of(4, 1, 2, 0, 63), api.ErrRange}, badGas{of(4, 1, 2, 64, 0), api.ErrRange})
}

// TestCheck: G1: the kinds, the sides, and as many cells as they say.
func TestCheck(t *testing.T) {
	random := rand.New(rand.NewSource(1))
	for _, kind := range []int{api.Four, api.Six} {
		for _, size := range sizes(kind) {
			if err := gas.Check(anyGas(random, kind, size[0], size[1])); err != nil {
				t.Errorf("Check(%d, %v): %v", kind, size, err)
			}
		}
		for cell := -3; cell < 70; cell++ {
			for at := range 6 {
				g, want := empty(kind, 3, 2), api.OK
				g.Cells[at] = cell
				if cell < 0 || kind == api.Four && cell > 15 || kind == api.Six && cell > 63 {
					want = api.ErrRange
				}
				if err := gas.Check(g); plain.Told(err) != want {
					t.Errorf("Check(%d, %v): %v, want %v", kind, g.Cells, err, want)
				}
			}
		}
	}
	for _, bad := range badGases() {
		if err := gas.Check(bad.g); plain.Told(err) != bad.want {
			t.Errorf("Check(%v): %v, want %v", bad.g, err, bad.want)
		}
	}
}

// TestSides: G1: sides from 1 to MaxSide, of Six no odd High.
func TestSides(t *testing.T) {
	for _, kind := range []int{api.Four, api.Six} {
		for wide := range api.MaxSide + 3 {
			for high := range api.MaxSide + 3 {
				want := api.OK
				if wide < 1 || wide > 100 || high < 1 || high > 100 {
					want = api.ErrRange
				} else if kind == api.Six && high%2 == 1 {
					want = api.ErrShape
				}
				if err := gas.Check(empty(kind, wide, high)); plain.Told(err) != want {
					t.Fatalf("Check(%d, %d by %d): %v, want %v", kind, wide, high, err, want)
				}
			}
		}
	}
}

// TestCheckFirst: G1: all others say first what Check says, whatever else is wrong, and answer nothing beside it.
func TestCheckFirst(t *testing.T) {
	for _, bad := range badGases() {
		for _, coins := range [][]int{nil, {0}, {2}} {
			for _, n := range []int{-1, 0, 1, api.MaxSteps + 1} {
				if h, err := gas.Run(bad.g, coins, n); plain.Told(err) != bad.want || !zero(h) {
					t.Errorf("Run(%v, %v, %d): %v, %v, want %v", bad.g, coins, n, h, err, bad.want)
				}
			}
		}
		if mass, err := gas.Mass(bad.g); plain.Told(err) != bad.want || mass != 0 {
			t.Errorf("Mass(%v): %d, %v, want %v", bad.g, mass, err, bad.want)
		}
		if right, up, err := gas.Push(bad.g); plain.Told(err) != bad.want || right != 0 || up != 0 {
			t.Errorf("Push(%v): %d, %d, %v, want %v", bad.g, right, up, err, bad.want)
		}
		if h, err := gas.Turned(bad.g); plain.Told(err) != bad.want || !zero(h) {
			t.Errorf("Turned(%v): %v, %v, want %v", bad.g, h, err, bad.want)
		}
	}
}

// TestMassPush: G3: particles are counted, and their directions summed up, by the axes of their kind.
func TestMassPush(t *testing.T) {
	cases := []struct {
		g    api.Gas
		want [3]int
	}{
		{of(4, 1, 1, 0), [3]int{0, 0, 0}},
		{of(4, 1, 1, 1), [3]int{1, 1, 0}},
		{of(4, 1, 1, 2), [3]int{1, 0, 1}},
		{of(4, 1, 1, 4), [3]int{1, -1, 0}},
		{of(4, 1, 1, 8), [3]int{1, 0, -1}},
		{of(4, 1, 1, 15), [3]int{4, 0, 0}},
		{of(4, 3, 1, 1, 0, 4), [3]int{2, 0, 0}},
		{of(4, 2, 2, 1, 3, 9, 11), [3]int{8, 4, 0}},
		{of(4, 1, 3, 6, 4, 13), [3]int{6, -2, 0}},
		{of(6, 1, 2, 0, 0), [3]int{0, 0, 0}},
		{of(6, 1, 2, 1, 0), [3]int{1, 1, 0}},
		{of(6, 1, 2, 0, 2), [3]int{1, 0, 1}},
		{of(6, 1, 2, 4, 0), [3]int{1, -1, 1}},
		{of(6, 1, 2, 0, 8), [3]int{1, -1, 0}},
		{of(6, 1, 2, 16, 0), [3]int{1, 0, -1}},
		{of(6, 1, 2, 0, 32), [3]int{1, 1, -1}},
		{of(6, 1, 2, 63, 63), [3]int{12, 0, 0}},
		{of(6, 1, 2, 21, 42), [3]int{6, 0, 0}},
		{of(6, 2, 2, 7, 7, 0, 48), [3]int{8, 1, 2}},
	}
	for _, c := range cases {
		if got := measures(t, c.g); got != c.want {
			t.Errorf("Mass and Push of %v: %v, want %v", c.g, got, c.want)
		}
	}
	for kind, want := range map[int][3]int{api.Four: {10000, -10000, 0}, api.Six: {10000, -10000, 10000}} {
		g := empty(kind, 100, 100)
		for i := range g.Cells {
			g.Cells[i] = 4
		}
		if got := measures(t, g); got != want {
			t.Errorf("Mass and Push of the greatest gas of %d: %v, want %v", kind, got, want)
		}
	}
}

// TestKept: G3: Run changes neither Mass nor Push, and Turned turns Push round.
func TestKept(t *testing.T) {
	random := rand.New(rand.NewSource(2))
	for _, kind := range []int{api.Four, api.Six} {
		for _, size := range sizes(kind) {
			for _, g := range []api.Gas{anyGas(random, kind, size[0], size[1]), meeting(random, kind, size[0], size[1])} {
				was := measures(t, g)
				for n := range 12 {
					if now := measures(t, run(t, g, anyCoins(random, 1+random.Intn(9)), n)); now != was {
						t.Errorf("%d, %d by %d, behind %d steps: %v, was %v", kind, g.Wide, g.High, n, now, was)
					}
				}
				if now := measures(t, turned(t, g)); now != [3]int{was[0], -was[1], -was[2]} {
					t.Errorf("%d, %d by %d, Turned: %v, was %v", kind, g.Wide, g.High, now, was)
				}
			}
		}
	}
}

// TestFresh: P2: nothing that is handed in is written into, and nothing that comes out is shared.
func TestFresh(t *testing.T) {
	random := rand.New(rand.NewSource(3))
	for _, kind := range []int{api.Four, api.Six} {
		full := meeting(random, kind, 4, 6)
		long := append(slices.Clone(full.Cells), 99, 99)
		g := of(kind, 4, 6, long[:24]...)
		purse := []int{0, 1, 1, 7, 7}
		for _, n := range []int{0, 1, 5} {
			h := run(t, g, purse[:3], n)
			again := run(t, g, purse[:3], n)
			h.Cells = append(h.Cells, 0)
			for i := range h.Cells {
				h.Cells[i] = -1
			}
			if third := run(t, g, purse[:3], n); !same(again, third) {
				t.Errorf("Run of %d by %d shares what it gave out", kind, n)
			}
		}
		back, again := turned(t, g), turned(t, g)
		for i := range back.Cells {
			back.Cells[i] = -1
		}
		if third := turned(t, g); !same(again, third) {
			t.Errorf("Turned of %d shares what it gave out", kind)
		}
		measures(t, g)
		if !slices.Equal(long, append(slices.Clone(full.Cells), 99, 99)) || !slices.Equal(purse, []int{0, 1, 1, 7, 7}) {
			t.Errorf("of %d something that was handed in is another: %v, %v", kind, long, purse)
		}
	}
}
