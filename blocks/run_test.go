package blocks_test

import (
	"math"
	"math/rand"
	"slices"
	"testing"

	"eden/api"
	"eden/blocks"
	"eden/pattern"
	"eden/plain"
)

// TestRun: B2: steps that were gone by hand.
func TestRun(t *testing.T) {
	cases := []struct {
		table    []int
		p        string
		phase, n int
		want     string
	}{
		{balls, "1000/0000/0000/0000", 0, 1, "0000/0100/0000/0000"},
		{balls, "1000/0000/0000/0000", 0, 2, "0000/0000/0010/0000"},
		{balls, "1000/0000/0000/0000", 0, 3, "0000/0000/0000/0001"},
		{balls, "1000/0000/0000/0000", 0, 4, "1000/0000/0000/0000"},
		{balls, "1000/0000/0000/0000", 1, 1, "0000/0000/0000/0001"}, // the lower right cell of the block of the corners
		{balls, "1000/0000/0000/0000", 1, 2, "0000/0000/0010/0000"},
		{balls, "0100/0000/0000/0000", 1, 1, "0000/0000/0000/0010"}, // the lower left one of a block of the last row and the first
		{balls, "0000/1000/0000/0000", 1, 1, "0000/0000/0001/0000"}, // the upper right one of a block of the last column and the first
		{balls, "0000/0100/0000/0000", 1, 1, "0000/0000/0010/0000"},
		{balls, "0000/0000/0000/0001", 1, 1, "1000/0000/0000/0000"},
		{balls, "10/00", 0, 1, "00/01"},
		{balls, "10/00", 1, 1, "00/01"},
		{balls, "10/00", 1, 0, "10/00"},
		{balls, "10/01", 0, 1, "01/10"},
		{balls, "1001/0110", 0, 1, "0110/1001"},
		{round, "10/00", 0, 1, "01/00"},
		{round, "10/00", 1, 1, "01/00"}, // there it is the lower right one, and comes to be the lower left one
		{round, "01/00", 1, 1, "00/01"},
		{round, "10/00", 0, 2, "00/01"},
		{round, "1100/0000", 0, 1, "0100/0100"},
		{round, "1100/0000", 1, 1, "0001/0100"},
		{mirror, "1001/0011", 0, 0, "1001/0011"},
		{mirror, "1000/0010", 0, 1, "0100/0001"},
		{mirror, "1000/0010", 1, 1, "0001/0100"},
		{still, "0110/1011", 1, 7, "0110/1011"},
		{other, "0110/1011", 1, 7, "1001/0100"},
		{other, "0110/1011", 0, 8, "0110/1011"},
		{none, "0110/1011", 0, 1, "0000/0000"},
	}
	for _, c := range cases {
		if q := run(t, c.table, cells(c.p), c.phase, c.n); !same(q, cells(c.want)) {
			t.Errorf("Run(%v, %s, %d, %d): %v, want %s", c.table, c.p, c.phase, c.n, q, c.want)
		}
	}
}

// TestRunBlocks: B1, B2: of two by two, each block becomes what the table says; at phase 1 its corners are exchanged.
func TestRunBlocks(t *testing.T) {
	for _, table := range tables(rand.New(rand.NewSource(4))) {
		for number := range 16 {
			for phase := range 2 {
				p, want := blank(2, 2), blank(2, 2)
				for i := range 4 {
					p.Cells[i^3*phase] = number >> i & 1
					want.Cells[i^3*phase] = table[number] >> i & 1
				}
				if q := run(t, table, p, phase, 1); !same(q, want) {
					t.Errorf("Run(%v, %v, %d, 1): %v, want %v", table, p, phase, q, want)
				}
			}
		}
	}
}

// stepped asks of each cell in which block it stands, and as which corner, and of that block what becomes of it.
func stepped(table []int, p api.Pattern, phase int) api.Pattern {
	at := func(x, y int) int { return p.Cells[(y+p.High)%p.High*p.Wide+(x+p.Wide)%p.Wide] }
	out := blank(p.Wide, p.High)
	for y := range p.High {
		for x := range p.Wide {
			right, down := (x+phase)%2, (y+phase)%2
			left, above := x-right, y-down
			number := at(left, above) + 2*at(left+1, above) + 4*at(left, above+1) + 8*at(left+1, above+1)
			out.Cells[y*p.Wide+x] = table[number] >> (right + 2*down) & 1
		}
	}
	return out
}

// sizes of patterns whose sides are even: none, the least and the greatest among them.
func sizes() [][2]int {
	return [][2]int{{0, 0}, {0, 2}, {2, 0}, {0, 100}, {100, 0}, {2, 2}, {2, 4}, {4, 2}, {4, 4}, {6, 8}, {8, 6}, {2, 100}, {100, 2}, {100, 98}, {100, 100}}
}

// TestRunStepped: B2: steps are what each cell's block says, by turns at one phase and the other.
func TestRunStepped(t *testing.T) {
	random := rand.New(rand.NewSource(5))
	for _, table := range tables(random) {
		for _, size := range sizes() {
			for phase := range 2 {
				p := anyPattern(random, size[0], size[1])
				want := p
				for n := range 4 {
					if q := run(t, table, p, phase, n); !same(q, want) {
						t.Fatalf("Run(%v, %d by %d, %d, %d) is another", table, p.Wide, p.High, phase, n)
					}
					want = stepped(table, want, (phase+n)%2)
				}
			}
		}
	}
}

// TestRunNothing: B2: a pattern without cells stays as it is, by as many steps as may be.
func TestRunNothing(t *testing.T) {
	for _, p := range []api.Pattern{{}, {Cells: []int{}}, {Wide: 2}, {High: 2}, {Wide: 100}, {High: 100}} {
		for phase := range 2 {
			for _, n := range []int{0, 1, 2, api.MaxSteps} {
				if q := run(t, other, p, phase, n); !same(q, p) {
					t.Errorf("Run(%d by %d, %d, %d): %v", p.Wide, p.High, phase, n, q)
				}
			}
		}
	}
}

// TestRunParts: B2: steps can be gone in parts, each beginning with the phase that comes next.
func TestRunParts(t *testing.T) {
	random := rand.New(rand.NewSource(6))
	for _, table := range tables(random) {
		p := anyPattern(random, 8, 6)
		phase, first, rest := random.Intn(2), random.Intn(20), random.Intn(20)
		whole := run(t, table, p, phase, first+rest)
		parts := run(t, table, run(t, table, p, phase, first), (phase+first)%2, rest)
		if !same(whole, parts) {
			t.Errorf("Run(%v, %v, %d): %d and %d steps are not %d", table, p, phase, first, rest, first+rest)
		}
	}
}

// TestRunFar: B2: MaxSteps steps of the greatest patterns: a ball goes one cell right and down in each.
func TestRunFar(t *testing.T) {
	cases := []struct{ wide, high, phase, n int }{
		{100, 98, 0, api.MaxSteps},
		{98, 100, 1, api.MaxSteps},
		{100, 2, 0, api.MaxSteps - 1},
		{2, 100, 1, api.MaxSteps - 1},
		{6, 4, 0, api.MaxSteps - 1},
		{14, 22, 1, api.MaxSteps},
	}
	for _, c := range cases {
		p, want := blank(c.wide, c.high), blank(c.wide, c.high)
		p.Cells[c.phase*c.wide+c.phase] = 1
		end := c.phase + c.n
		want.Cells[end%c.high*c.wide+end%c.wide] = 1
		if q := run(t, balls, p, c.phase, c.n); !same(q, want) {
			t.Errorf("Run of a ball, %v: it is elsewhere", c)
		}
	}
}

// TestRunWrong: B2: what is told first, where several things are wrong.
func TestRunWrong(t *testing.T) {
	even := cells("10/00")
	cases := []struct {
		p        api.Pattern
		phase, n int
		want     api.Errno
	}{
		// What the pattern's Check says is ahead of odd sides, phase and n.
		{api.Pattern{Wide: -1, High: 2}, 0, 1, api.ErrRange},
		{api.Pattern{Wide: -2, High: 2}, 0, 1, api.ErrRange},
		{api.Pattern{Wide: 2, High: 101, Cells: make([]int, 202)}, 0, 1, api.ErrRange},
		{api.Pattern{Wide: 101, High: 101, Cells: make([]int, 101*101)}, 0, 1, api.ErrRange},
		{api.Pattern{Wide: 102, High: 2, Cells: make([]int, 204)}, 0, 1, api.ErrRange},
		{api.Pattern{Wide: math.MaxInt, High: math.MinInt}, 0, 1, api.ErrRange},
		{api.Pattern{Wide: 2, High: 2}, 0, 1, api.ErrShape},
		{api.Pattern{Wide: 2, High: 2, Cells: make([]int, 5)}, 0, 1, api.ErrShape},
		{api.Pattern{Wide: 2, High: 2}, 2, 1, api.ErrShape},
		{api.Pattern{Wide: 2, High: 2, Cells: make([]int, 3)}, 0, -1, api.ErrShape},
		{api.Pattern{Wide: 2, High: 2, Cells: []int{0, 1, 2, 0}}, 0, 1, api.ErrRange},
		{api.Pattern{Wide: 2, High: 2, Cells: []int{0, 1, -1, 0}}, 0, 0, api.ErrRange},
		{api.Pattern{Wide: 1, High: 2, Cells: []int{0, 2}}, 0, 1, api.ErrRange},
		{api.Pattern{Wide: 3, High: 1, Cells: []int{0, 2, 0}}, 2, -1, api.ErrRange},
		// Odd sides are ahead of phase and n.
		{cells("1"), 0, 1, api.ErrShape},
		{cells("10"), 0, 1, api.ErrShape},
		{cells("1/0"), 0, 1, api.ErrShape},
		{cells("101/010"), 0, 0, api.ErrShape},
		{cells("10/01/10"), 1, 0, api.ErrShape},
		{cells("101/010/101"), 1, 1, api.ErrShape},
		{blank(99, 100), 0, 1, api.ErrShape},
		{blank(100, 99), 1, 1, api.ErrShape},
		{blank(99, 99), 0, 1, api.ErrShape},
		{api.Pattern{Wide: 1}, 0, 1, api.ErrShape},
		{api.Pattern{High: 99}, 1, 1, api.ErrShape},
		{cells("10"), 2, 1, api.ErrShape},
		{cells("1/0"), -1, 1, api.ErrShape},
		{cells("10"), 0, -1, api.ErrShape},
		{cells("1/0"), 1, api.MaxSteps + 1, api.ErrShape},
		// Phases and steps that are none.
		{even, -1, 1, api.ErrRange},
		{even, 2, 1, api.ErrRange},
		{even, 2, 0, api.ErrRange},
		{even, -1, -1, api.ErrRange},
		{even, math.MaxInt, 1, api.ErrRange},
		{even, math.MinInt, 1, api.ErrRange},
		{even, 0, -1, api.ErrRange},
		{even, 1, -1, api.ErrRange},
		{even, 0, api.MaxSteps + 1, api.ErrRange},
		{even, 1, math.MaxInt, api.ErrRange},
		{even, 0, math.MinInt, api.ErrRange},
		{even, 0, 1 << 32, api.ErrRange},
		{api.Pattern{}, 2, 1, api.ErrRange},
		{api.Pattern{}, 0, -1, api.ErrRange},
		{api.Pattern{Wide: 2}, 0, api.MaxSteps + 1, api.ErrRange},
	}
	for _, c := range cases {
		q, err := blocks.Run(balls, c.p, c.phase, c.n)
		if plain.Told(err) != c.want || !zero(q) {
			t.Errorf("Run(%v, %d, %d): %v, %v, want %v", c.p, c.phase, c.n, q, err, c.want)
		}
	}
}

// TestRunBack: B3: Run, and Run of Back that begins with the phase of the last step, is the pattern, for n even and odd.
func TestRunBack(t *testing.T) {
	random := rand.New(rand.NewSource(7))
	undone := [][]int{balls, still, other, round, mirror}
	for range 20 {
		undone = append(undone, random.Perm(16))
	}
	for _, table := range undone {
		back, err := blocks.Back(table)
		if err != nil {
			t.Fatalf("Back(%v): %v", table, err)
		}
		for _, size := range sizes() {
			for _, n := range []int{0, 1, 2, 3, 10, 11} {
				for phase := range 2 {
					p := anyPattern(random, size[0], size[1])
					last := (phase + n + 1) % 2
					q := run(t, back, run(t, table, p, phase, n), last, n)
					if !same(q, p) {
						t.Errorf("Run(%v, %v, %d, %d) does not run back", table, p, phase, n)
					}
				}
			}
		}
	}
}

// TestRunBackFar: B3: MaxSteps steps there, and back.
func TestRunBackFar(t *testing.T) {
	random := rand.New(rand.NewSource(8))
	for _, c := range []struct{ wide, high, n int }{{100, 100, api.MaxSteps}, {6, 4, api.MaxSteps}, {8, 8, api.MaxSteps - 1}} {
		table := random.Perm(16)
		back, err := blocks.Back(table)
		if err != nil {
			t.Fatal(err)
		}
		p := anyPattern(random, c.wide, c.high)
		if q := run(t, back, run(t, table, p, 0, c.n), (c.n+1)%2, c.n); !same(q, p) {
			t.Errorf("%d steps of %d by %d do not run back", c.n, c.wide, c.high)
		}
	}
}

func living(p api.Pattern) int {
	count := 0
	for _, cell := range p.Cells {
		count += cell
	}
	return count
}

// TestKeepsRuns: B2, B3: a table keeps how many live just where Run does, of all patterns of two by two; and then of others.
func TestKeepsRuns(t *testing.T) {
	random := rand.New(rand.NewSource(9))
	for _, table := range append(tables(random), []int{0, 1, 1, 3, 1, 3, 3, 7, 1, 3, 3, 7, 3, 7, 7, 15}) {
		kept := true
		for number := range 16 {
			p := api.Pattern{Wide: 2, High: 2, Cells: []int{number & 1, number >> 1 & 1, number >> 2 & 1, number >> 3}}
			kept = kept && living(run(t, table, p, 0, 1)) == living(p)
		}
		if keeps(t, table) != kept {
			t.Errorf("Keeps(%v) is not %v", table, kept)
		}
		p := anyPattern(random, 10, 8)
		if kept && living(run(t, table, p, 1, 33)) != living(p) {
			t.Errorf("Run(%v) does not keep how many live", table)
		}
	}
}

// TestTurnsRuns: B2, B3: by a table that does not mind being turned, a pattern that is turned comes to what it comes to, turned likewise.
func TestTurnsRuns(t *testing.T) {
	random := rand.New(rand.NewSource(10))
	all := [][]int{balls, still, other, round, none}
	for range 30 {
		all = append(all, turning(t, random))
	}
	for _, table := range all {
		for phase := range 2 {
			p := anyPattern(random, 8, 6)
			turned, _ := pattern.Turn(p, 1)
			want, _ := pattern.Turn(run(t, table, p, phase, 9), 1)
			if !turns(t, table) || !same(run(t, table, turned, phase, 9), want) {
				t.Errorf("Run(%v, %v, %d, 9) minds being turned", table, p, phase)
			}
		}
	}
}

// TestRunAgain: what Run answers hangs on its arguments alone.
func TestRunAgain(t *testing.T) {
	p := cells("011010/100110/000111/101011")
	first := run(t, balls, p, 1, 5)
	run(t, other, first, 0, 4)
	if again := run(t, balls, p, 1, 5); !slices.Equal(first.Cells, again.Cells) {
		t.Errorf("Run answers %v, and then %v", first, again)
	}
}
