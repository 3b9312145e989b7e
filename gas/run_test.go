package gas_test

import (
	"math"
	"math/rand"
	"slices"
	"testing"

	"eden/api"
	"eden/gas"
	"eden/plain"
)

// ahead is the cell one on in a direction, word by word as the document has it.
func ahead(kind, wide, high, x, y, d int) (int, int) {
	if kind == api.Four {
		switch d {
		case 0:
			x++
		case 1:
			y--
		case 2:
			x--
		case 3:
			y++
		}
	} else {
		even := y%2 == 0
		switch d {
		case 0:
			x++
		case 3:
			x--
		case 1, 5:
			if !even {
				x++
			}
		case 2, 4:
			if even {
				x--
			}
		}
		switch d {
		case 1, 2:
			y--
		case 4, 5:
			y++
		}
	}
	return (x + wide) % wide, (y + high) % high
}

// met is what becomes of a cell when its particles meet, as a list of those that change.
func met(kind, cell, coin int) int {
	var changes [][3]int // the cell, what it becomes if the coin is 0, and if it is 1
	if kind == api.Four {
		changes = [][3]int{{0b0101, 0b1010, 0b1010}, {0b1010, 0b0101, 0b0101}}
	} else {
		changes = [][3]int{
			{0b001001, 0b100100, 0b010010},
			{0b010010, 0b001001, 0b100100},
			{0b100100, 0b010010, 0b001001},
			{0b010101, 0b101010, 0b101010},
			{0b101010, 0b010101, 0b010101},
		}
	}
	for _, c := range changes {
		if c[0] == cell {
			return c[1+coin]
		}
	}
	return cell
}

// moved lets each particle go on by itself.
func moved(g api.Gas) api.Gas {
	out := empty(g.Kind, g.Wide, g.High)
	for i, cell := range g.Cells {
		for d := range g.Kind {
			if cell>>d&1 == 1 {
				x, y := ahead(g.Kind, g.Wide, g.High, i%g.Wide, i/g.Wide, d)
				out.Cells[y*g.Wide+x] |= 1 << d
			}
		}
	}
	return out
}

// stepped is the step numbered k, cell by cell.
func stepped(g api.Gas, coins []int, k int) api.Gas {
	out := empty(g.Kind, g.Wide, g.High)
	for i, cell := range g.Cells {
		coin := 0
		if len(coins) > 0 {
			coin = coins[(k*g.Wide*g.High+i)%len(coins)]
		}
		out.Cells[i] = met(g.Kind, cell, coin)
	}
	return moved(out)
}

// TestRun: G2: steps that were gone by hand.
func TestRun(t *testing.T) {
	cases := []struct {
		g     api.Gas
		coins []int
		n     int
		want  []int
	}{
		{of(4, 3, 1, 1, 0, 4), nil, 1, []int{0, 5, 0}},
		{of(4, 3, 1, 1, 0, 4), nil, 2, []int{0, 10, 0}}, // they meet, and go up and down a ring of one row
		{of(4, 3, 1, 1, 0, 4), nil, 3, []int{4, 0, 1}},
		{of(4, 3, 1, 1, 0, 4), []int{1, 0}, 3, []int{4, 0, 1}},
		{of(4, 1, 1, 5), nil, 1, []int{10}},
		{of(4, 1, 1, 5), nil, 2, []int{5}},
		{of(4, 1, 1, 7), nil, 9, []int{7}},
		{of(4, 1, 1, 15), nil, 9, []int{15}},
		{of(4, 1, 3, 2, 0, 0), nil, 1, []int{0, 0, 2}},
		{of(4, 1, 3, 8, 0, 0), nil, 1, []int{0, 8, 0}},
		{of(4, 1, 3, 0, 5, 0), nil, 1, []int{2, 0, 8}},
		{of(4, 3, 3, 0, 0, 0, 0, 10, 0, 0, 0, 0), nil, 1, []int{0, 0, 0, 4, 0, 1, 0, 0, 0}},
		{of(4, 3, 3, 0, 0, 0, 0, 14, 0, 0, 0, 0), nil, 1, []int{0, 2, 0, 4, 0, 0, 0, 8, 0}},
		// Of Six, from an even row and from an odd one.
		{of(6, 3, 4, 0, 0, 0, 0, 0, 0, 0, 63, 0, 0, 0, 0), []int{0}, 1, []int{0, 0, 0, 4, 2, 0, 8, 0, 1, 16, 32, 0}},
		{of(6, 3, 4, 0, 0, 0, 0, 63, 0, 0, 0, 0, 0, 0, 0), []int{0}, 1, []int{0, 4, 2, 8, 0, 1, 0, 16, 32, 0, 0, 0}},
		{of(6, 3, 2, 9, 0, 0, 0, 0, 0), []int{0}, 1, []int{0, 0, 0, 32, 0, 4}},
		{of(6, 3, 2, 9, 0, 0, 0, 0, 0), []int{1}, 1, []int{0, 0, 0, 2, 0, 16}},
		{of(6, 3, 2, 21, 0, 0, 0, 0, 0), []int{1}, 1, []int{0, 0, 8, 34, 0, 0}},
		{of(6, 1, 2, 9, 0), []int{1}, 1, []int{0, 18}},
		// The coin of the second cell in the second step is that numbered 3, of two coins 1, of three 0.
		{of(6, 1, 2, 9, 0), []int{1, 0}, 2, []int{0, 9}},
		{of(6, 1, 2, 9, 0), []int{1, 1, 0}, 2, []int{36, 0}},
		{of(6, 1, 2, 9, 0), []int{1, 0, 0, 1}, 2, []int{36, 0}},
		{of(6, 1, 2, 9, 0), []int{1, 1, 1, 0, 1, 1, 1}, 2, []int{0, 9}},
	}
	for _, c := range cases {
		if h := run(t, c.g, c.coins, c.n); !same(h, of(c.g.Kind, c.g.Wide, c.g.High, c.want...)) {
			t.Errorf("Run(%v, %v, %d): %v, want %v", c.g, c.coins, c.n, h, c.want)
		}
	}
}

// TestAhead: G1: a particle alone goes one cell on, from each cell, in each direction, and across the first and the last row and column.
func TestAhead(t *testing.T) {
	for _, kind := range []int{api.Four, api.Six} {
		for _, size := range [][2]int{{1, 2}, {2, 2}, {3, 4}, {4, 6}, {1, 6}, {7, 2}, {100, 4}, {3, 100}} {
			wide, high := size[0], size[1]
			for i := range wide * high {
				for d := range kind {
					g, want := empty(kind, wide, high), empty(kind, wide, high)
					g.Cells[i] = 1 << d
					x, y := ahead(kind, wide, high, i%wide, i/wide, d)
					want.Cells[y*wide+x] = 1 << d
					if h := run(t, g, []int{0}, 1); !same(h, want) {
						t.Fatalf("Run of %d, %v, of one at %d in direction %d, is another", kind, size, i, d)
					}
				}
			}
		}
	}
}

// TestAcross: G1: of Six the ways across the edges, each by its number.
func TestAcross(t *testing.T) {
	// Of 3 by 4 the corners are 0, 2, 9 and 11; row 0 is even, row 3 odd.
	cases := [][7]int{
		{0, 1, 9, 11, 2, 5, 3},
		{2, 0, 11, 10, 1, 4, 5},
		{9, 10, 7, 6, 11, 0, 1},
		{11, 9, 6, 8, 10, 2, 0},
		{4, 5, 2, 1, 3, 7, 8}, // within, of an odd row
		{7, 8, 4, 3, 6, 9, 10},
	}
	for _, c := range cases {
		for d, to := range c[1:] {
			g, want := empty(api.Six, 3, 4), empty(api.Six, 3, 4)
			g.Cells[c[0]], want.Cells[to] = 1<<d, 1<<d
			if h := run(t, g, []int{1}, 1); !same(h, want) {
				t.Errorf("from %d in direction %d: %v, want it at %d", c[0], d, h.Cells, to)
			}
		}
	}
}

// TestRound: G1: rows and columns are rings: by as many steps as there are cells a particle comes back, of Six up and down when it has also been through all columns.
func TestRound(t *testing.T) {
	for _, c := range []struct{ kind, wide, high, d, n int }{
		{4, 7, 3, 0, 7}, {4, 7, 3, 1, 3}, {4, 7, 3, 2, 7}, {4, 7, 3, 3, 3},
		{6, 7, 4, 0, 7}, {6, 7, 4, 3, 7},
		// Two rows on, it is one column on.
		{6, 7, 4, 1, 28}, {6, 7, 4, 2, 28}, {6, 7, 4, 4, 28}, {6, 7, 4, 5, 28}, {6, 2, 4, 1, 4}, {6, 1, 4, 5, 4},
	} {
		g := empty(c.kind, c.wide, c.high)
		g.Cells[0] = 1 << c.d
		for n := 1; n <= c.n; n++ {
			if h := run(t, g, []int{0, 1}, n); same(h, g) != (n == c.n) {
				t.Errorf("%v: behind %d steps: %v", c, n, h.Cells)
			}
		}
	}
}

// TestMeet: G2: what becomes of every number of a cell, with both coins.
func TestMeet(t *testing.T) {
	for _, kind := range []int{api.Four, api.Six} {
		for cell := range 1 << kind {
			for coin := range 2 {
				g, want := empty(kind, 4, 4), empty(kind, 4, 4)
				g.Cells[9], want.Cells[9] = cell, met(kind, cell, coin)
				if h := run(t, g, []int{coin}, 1); !same(h, moved(want)) {
					t.Errorf("%d, cell %d, coin %d: %v, want %v", kind, cell, coin, h.Cells, moved(want).Cells)
				}
			}
		}
	}
}

// TestRunStepped: G2: steps are what each cell's particles do, by themselves and with their coin.
func TestRunStepped(t *testing.T) {
	random := rand.New(rand.NewSource(4))
	for _, kind := range []int{api.Four, api.Six} {
		for _, size := range sizes(kind) {
			for _, count := range []int{1, 2, 3, 7, size[0], size[0] * size[1], size[0]*size[1] - 1, size[0]*size[1] + 1, 3*size[0]*size[1] + 2} {
				coins := anyCoins(random, max(count, 1))
				for _, g := range []api.Gas{anyGas(random, kind, size[0], size[1]), meeting(random, kind, size[0], size[1])} {
					want := g
					for n := range 5 {
						if h := run(t, g, coins, n); !same(h, want) {
							t.Fatalf("Run(%d, %v, %d coins, %d) is another", kind, size, count, n)
						}
						want = stepped(want, coins, n)
					}
				}
			}
		}
	}
}

// TestCoins: G2: the coins of Four do not matter, and there may be none.
func TestCoins(t *testing.T) {
	random := rand.New(rand.NewSource(5))
	g := meeting(random, api.Four, 6, 5)
	want := run(t, g, nil, 9)
	for _, coins := range [][]int{{}, {0}, {1}, {0, 1}, anyCoins(random, 29), anyCoins(random, 1000)} {
		if h := run(t, g, coins, 9); !same(h, want) {
			t.Errorf("Run of Four with %d coins is another", len(coins))
		}
	}
}

// TestRunWrong: G2: what Run says of n and of coins, in its order.
func TestRunWrong(t *testing.T) {
	four, six := of(4, 1, 2, 5, 0), of(6, 1, 2, 9, 0)
	cases := []struct {
		g     api.Gas
		coins []int
		n     int
		want  api.Errno
	}{
		{four, nil, -1, api.ErrRange},
		{four, nil, math.MinInt, api.ErrRange},
		{four, nil, api.MaxSteps + 1, api.ErrRange},
		{four, nil, math.MaxInt, api.ErrRange},
		{four, nil, 1 << 32, api.ErrRange},
		{four, nil, 0, api.OK},
		{four, []int{}, api.MaxSteps, api.OK},
		{four, []int{2}, 0, api.ErrRange},
		{four, []int{2}, 1, api.ErrRange},
		{four, []int{0, 1, -1}, 1, api.ErrRange},
		{six, []int{2}, 0, api.ErrRange},
		{six, []int{-1}, 1, api.ErrRange},
		{six, []int{0, 1, 0, 1, 0, 1, 0, 1, 2}, 1, api.ErrRange}, // one that no step comes to
		{six, []int{0, math.MaxInt}, 1, api.ErrRange},
		{six, []int{math.MinInt, 0}, 1, api.ErrRange},
		{six, []int{1 << 32}, 1, api.ErrRange},
		{six, []int{0}, -1, api.ErrRange},
		{six, []int{0}, api.MaxSteps + 1, api.ErrRange},
		{six, []int{1}, api.MaxSteps, api.OK},
		{six, nil, -1, api.ErrRange}, // n stands ahead of the coins
		{six, nil, api.MaxSteps + 1, api.ErrRange},
		{six, nil, 0, api.ErrShape},
		{six, []int{}, 1, api.ErrShape},
		{six, nil, api.MaxSteps, api.ErrShape},
		{empty(6, 1, 2), nil, 1, api.ErrShape},
	}
	for _, c := range cases {
		h, err := gas.Run(c.g, c.coins, c.n)
		if plain.Told(err) != c.want || (c.want != api.OK) != zero(h) {
			t.Errorf("Run(%v, %v, %d): %v, %v, want %v", c.g, c.coins, c.n, h, err, c.want)
		}
	}
}

// TestRunParts: G2: steps can be gone in parts, if the coins of the second are those that come next.
func TestRunParts(t *testing.T) {
	random := rand.New(rand.NewSource(6))
	for _, kind := range []int{api.Four, api.Six} {
		for range 50 {
			g := meeting(random, kind, 1+random.Intn(6), 2+2*random.Intn(3))
			coins := anyCoins(random, 1+random.Intn(40))
			first, rest := random.Intn(20), random.Intn(20)
			next := first * len(g.Cells) % len(coins)
			whole := run(t, g, coins, first+rest)
			parts := run(t, run(t, g, coins, first), append(slices.Clone(coins[next:]), coins[:next]...), rest)
			if !same(whole, parts) {
				t.Errorf("Run(%v, %v): %d and %d steps are not %d", g, coins, first, rest, first+rest)
			}
		}
	}
}

// TestRunFar: G2, G3: MaxSteps steps: a particle alone goes round and round, and nothing is lost where they meet.
func TestRunFar(t *testing.T) {
	g, want := empty(api.Six, 7, 2), empty(api.Six, 7, 2)
	g.Cells[0], want.Cells[api.MaxSteps/2%7] = 2, 2
	if h := run(t, g, []int{0, 1}, api.MaxSteps); !same(h, want) {
		t.Errorf("Run of one of Six, far: %v, want %v", h.Cells, want.Cells)
	}
	g, want = empty(api.Four, 1, 99), empty(api.Four, 1, 99)
	g.Cells[0], want.Cells[api.MaxSteps%99] = 8, 8
	if h := run(t, g, nil, api.MaxSteps); !same(h, want) {
		t.Errorf("Run of one of Four, far: %v, want %v", h.Cells, want.Cells)
	}
	random := rand.New(rand.NewSource(7))
	for _, kind := range []int{api.Four, api.Six} {
		g, coins := anyGas(random, kind, 9, 10), anyCoins(random, 97)
		h := run(t, g, coins, api.MaxSteps)
		if measures(t, g) != measures(t, h) {
			t.Errorf("Run of %d, far: %v, was %v", kind, measures(t, h), measures(t, g))
		}
		want := g
		for k := range api.MaxSteps {
			want = stepped(want, coins, k)
		}
		if !same(h, want) {
			t.Errorf("Run of %d, far, is another", kind)
		}
	}
}

// TestTurned: G3: each particle in the opposite direction, and one cell back.
func TestTurned(t *testing.T) {
	cases := []struct {
		g    api.Gas
		want []int
	}{
		{of(4, 3, 1, 1, 0, 0), []int{0, 0, 4}},
		{of(4, 3, 1, 4, 0, 0), []int{0, 1, 0}},
		{of(4, 3, 1, 2, 0, 0), []int{8, 0, 0}},
		{of(4, 1, 3, 2, 0, 0), []int{0, 8, 0}},
		{of(4, 1, 3, 8, 0, 0), []int{0, 0, 2}},
		{of(4, 3, 1, 1, 0, 4), []int{1, 0, 4}},
		{of(4, 3, 3, 0, 0, 0, 0, 15, 0, 0, 0, 0), []int{0, 2, 0, 4, 0, 1, 0, 8, 0}},
		{of(6, 3, 4, 0, 0, 0, 0, 63, 0, 0, 0, 0, 0, 0, 0), []int{0, 4, 2, 8, 0, 1, 0, 16, 32, 0, 0, 0}},
		{of(6, 3, 4, 0, 0, 0, 0, 3, 0, 0, 0, 0, 0, 0, 0), []int{0, 0, 0, 8, 0, 0, 0, 16, 0, 0, 0, 0}},
		{of(6, 3, 4, 4, 0, 0, 0, 0, 0, 0, 0, 0, 0, 0, 0), []int{0, 0, 0, 32, 0, 0, 0, 0, 0, 0, 0, 0}},
	}
	for _, c := range cases {
		if h := turned(t, c.g); !same(h, of(c.g.Kind, c.g.Wide, c.g.High, c.want...)) {
			t.Errorf("Turned(%v): %v, want %v", c.g, h, c.want)
		}
	}
}

// behind is where a particle in direction d came from: the cell from which it would go on to this one.
func behind(g api.Gas, i, d int) int {
	for from := range g.Cells {
		x, y := ahead(g.Kind, g.Wide, g.High, from%g.Wide, from/g.Wide, d)
		if y*g.Wide+x == i {
			return from
		}
	}
	return -1
}

// TestTurnedBehind: G3: from each cell and in each direction.
func TestTurnedBehind(t *testing.T) {
	for _, kind := range []int{api.Four, api.Six} {
		for _, size := range [][2]int{{1, 2}, {2, 2}, {3, 4}, {4, 6}, {1, 6}, {7, 2}} {
			for i := range size[0] * size[1] {
				for d := range kind {
					g, want := empty(kind, size[0], size[1]), empty(kind, size[0], size[1])
					g.Cells[i] = 1 << d
					want.Cells[behind(g, i, d)] = 1 << ((d + kind/2) % kind)
					if h := turned(t, g); !same(h, want) {
						t.Fatalf("Turned of %d, %v, of one at %d in direction %d, is another", kind, size, i, d)
					}
				}
			}
		}
	}
}

// TestTurnedTwice: G3: what is turned twice is as it was, of both kinds: each particle comes back to its cell and its direction.
func TestTurnedTwice(t *testing.T) {
	random := rand.New(rand.NewSource(8))
	for _, kind := range []int{api.Four, api.Six} {
		for _, size := range sizes(kind) {
			for _, g := range []api.Gas{anyGas(random, kind, size[0], size[1]), meeting(random, kind, size[0], size[1]), empty(kind, size[0], size[1])} {
				if h := turned(t, turned(t, g)); !same(h, g) {
					t.Errorf("Turned of Turned of %d, %v, is another", kind, size)
				}
			}
		}
	}
}

// TestBack: G3: of Four what is turned runs back, whatever the coins are.
func TestBack(t *testing.T) {
	random := rand.New(rand.NewSource(9))
	for _, size := range sizes(api.Four) {
		for _, g := range []api.Gas{anyGas(random, api.Four, size[0], size[1]), meeting(random, api.Four, size[0], size[1])} {
			for _, n := range []int{0, 1, 2, 3, 10, 57} {
				there := turned(t, run(t, g, nil, n))
				if back := turned(t, run(t, there, anyCoins(random, 5), n)); !same(back, g) {
					t.Errorf("%d by %d, there and back by %d steps, is another", g.Wide, g.High, n)
				}
			}
		}
	}
	g := anyGas(random, api.Four, 7, 9)
	there := turned(t, run(t, g, nil, api.MaxSteps))
	if back := turned(t, run(t, there, nil, api.MaxSteps)); !same(back, g) {
		t.Errorf("there and back by MaxSteps is another")
	}
}

// TestBackSix: G2, G3: of Six a coin undoes what the other one did.
func TestBackSix(t *testing.T) {
	random := rand.New(rand.NewSource(10))
	for _, size := range sizes(api.Six) {
		g := meeting(random, api.Six, size[0], size[1])
		for _, coin := range []int{0, 1} {
			there := turned(t, run(t, g, []int{coin}, 6))
			if back := turned(t, run(t, there, []int{1 - coin}, 6)); !same(back, g) {
				t.Errorf("%d by %d of Six, there with coin %d and back with the other, is another", g.Wide, g.High, coin)
			}
		}
	}
}
