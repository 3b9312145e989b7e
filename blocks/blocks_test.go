package blocks_test

import (
	"math"
	"math/bits"
	"math/rand"
	"slices"
	"strings"
	"testing"

	"eden/api"
	"eden/blocks"
	"eden/pattern"
	"eden/plain"
)

// Tables that the tests speak of by name.
var (
	balls = []int{0, 8, 4, 3, 2, 5, 9, 7, 1, 6, 10, 11, 12, 13, 14, 15}
	still = []int{0, 1, 2, 3, 4, 5, 6, 7, 8, 9, 10, 11, 12, 13, 14, 15}
	other = []int{15, 14, 13, 12, 11, 10, 9, 8, 7, 6, 5, 4, 3, 2, 1, 0}
	// round turns each block by a quarter clockwise, mirror exchanges left and right.
	round  = []int{0, 2, 8, 10, 1, 3, 9, 11, 4, 6, 12, 14, 5, 7, 13, 15}
	mirror = []int{0, 2, 1, 3, 8, 10, 9, 11, 4, 6, 5, 7, 12, 14, 13, 15}
	none   = make([]int, 16)
)

// cells reads a pattern: its rows.
func cells(text string) api.Pattern {
	lines := strings.Split(text, "/")
	p := api.Pattern{Wide: len(lines[0]), High: len(lines)}
	for _, line := range lines {
		for _, letter := range line {
			p.Cells = append(p.Cells, int(letter-'0'))
		}
	}
	return p
}

// blank is a pattern without a cell that lives.
func blank(wide, high int) api.Pattern {
	return api.Pattern{Wide: wide, High: high, Cells: make([]int, wide*high)}
}

func anyPattern(random *rand.Rand, wide, high int) api.Pattern {
	p := blank(wide, high)
	for i := range p.Cells {
		p.Cells[i] = random.Intn(2)
	}
	return p
}

func anyTable(random *rand.Rand) []int {
	table := make([]int, 16)
	for i := range table {
		table[i] = random.Intn(16)
	}
	return table
}

// tables are the named ones, some that can be undone, and some of any kind.
func tables(random *rand.Rand) [][]int {
	out := [][]int{balls, still, other, round, mirror, none}
	for range 12 {
		out = append(out, random.Perm(16), anyTable(random))
	}
	return out
}

// without leaves a table as it is, but for one number.
func without(table []int, at, number int) []int {
	out := slices.Clone(table)
	out[at] = number
	return out
}

func same(a, b api.Pattern) bool {
	return a.Wide == b.Wide && a.High == b.High && slices.Equal(a.Cells, b.Cells)
}

func zero(p api.Pattern) bool {
	return same(p, api.Pattern{})
}

// run is Run of what nothing is wrong with.
func run(t *testing.T, table []int, p api.Pattern, phase, n int) api.Pattern {
	t.Helper()
	q, err := blocks.Run(table, p, phase, n)
	if err != nil {
		t.Fatalf("Run(%v, %d by %d, %d, %d): %v", table, p.Wide, p.High, phase, n, err)
	}
	return q
}

// badTable is one that is none, with what Check says.
type badTable struct {
	table []int
	want  api.Errno
}

func badTables() []badTable {
	return []badTable{
		{nil, api.ErrShape},
		{[]int{}, api.ErrShape},
		{[]int{0}, api.ErrShape},
		{[]int{16}, api.ErrShape},
		{still[:15], api.ErrShape},
		{append(slices.Clone(still), 0), api.ErrShape},
		{append(slices.Clone(still), 16), api.ErrShape},
		{without(still, 3, -1)[:15], api.ErrShape},
		{make([]int, 256), api.ErrShape},
		{without(still, 0, 16), api.ErrRange},
		{without(still, 15, 16), api.ErrRange},
		{without(still, 7, 16), api.ErrRange},
		{without(still, 0, -1), api.ErrRange},
		{without(still, 15, -1), api.ErrRange},
		{without(none, 8, -16), api.ErrRange},
		{without(none, 8, 17), api.ErrRange},
		{without(still, 5, math.MaxInt), api.ErrRange},
		{without(still, 5, math.MinInt), api.ErrRange},
		{without(still, 5, 1<<32), api.ErrRange},
	}
}

// TestCheck: B1: sixteen numbers, from 0 to 15 each.
func TestCheck(t *testing.T) {
	for _, table := range tables(rand.New(rand.NewSource(1))) {
		if err := blocks.Check(table); err != nil {
			t.Errorf("Check(%v): %v", table, err)
		}
	}
	for at := range 16 {
		for _, number := range []int{0, 15} {
			if err := blocks.Check(without(balls, at, number)); err != nil {
				t.Errorf("Check with %d at %d: %v", number, at, err)
			}
		}
		for _, number := range []int{-1, 16} {
			if err := blocks.Check(without(balls, at, number)); plain.Told(err) != api.ErrRange {
				t.Errorf("Check with %d at %d: %v, want ErrRange", number, at, err)
			}
		}
	}
	for _, bad := range badTables() {
		if err := blocks.Check(bad.table); plain.Told(err) != bad.want {
			t.Errorf("Check(%v): %v, want %v", bad.table, err, bad.want)
		}
	}
}

// TestCheckFirst: B1: all others say first what Check says, whatever else is wrong, and answer nothing beside it.
func TestCheckFirst(t *testing.T) {
	for _, bad := range badTables() {
		for _, p := range []api.Pattern{{}, cells("10/00"), cells("1"), cells("12"), {Wide: -1}, {Wide: 2, High: 2}} {
			for _, k := range [][2]int{{0, 1}, {2, 1}, {0, -1}} {
				q, err := blocks.Run(bad.table, p, k[0], k[1])
				if plain.Told(err) != bad.want || !zero(q) {
					t.Errorf("Run(%v, %v, %v): %v, %v, want %v", bad.table, p, k, q, err, bad.want)
				}
			}
		}
		back, err := blocks.Back(bad.table)
		if plain.Told(err) != bad.want || len(back) != 0 {
			t.Errorf("Back(%v): %v, %v, want %v", bad.table, back, err, bad.want)
		}
		keeps, err := blocks.Keeps(bad.table)
		if plain.Told(err) != bad.want || keeps {
			t.Errorf("Keeps(%v): %v, %v, want %v", bad.table, keeps, err, bad.want)
		}
		turns, err := blocks.Turns(bad.table)
		if plain.Told(err) != bad.want || turns {
			t.Errorf("Turns(%v): %v, %v, want %v", bad.table, turns, err, bad.want)
		}
	}
}

// TestBackOfTables: B3: the tables that undo others.
func TestBackOfTables(t *testing.T) {
	cases := []struct{ table, want []int }{
		{balls, balls},
		{still, still},
		{other, other},
		{mirror, mirror},
		{round, []int{0, 4, 1, 5, 8, 12, 9, 13, 2, 6, 3, 7, 10, 14, 11, 15}},
		{[]int{1, 2, 3, 4, 5, 6, 7, 8, 9, 10, 11, 12, 13, 14, 15, 0}, []int{15, 0, 1, 2, 3, 4, 5, 6, 7, 8, 9, 10, 11, 12, 13, 14}},
	}
	for _, c := range cases {
		back, err := blocks.Back(c.table)
		if err != nil || !slices.Equal(back, c.want) {
			t.Errorf("Back(%v): %v, %v, want %v", c.table, back, err, c.want)
		}
	}
	random := rand.New(rand.NewSource(2))
	for range 200 {
		table := random.Perm(16)
		back, err := blocks.Back(table)
		if err != nil || blocks.Check(back) != nil {
			t.Fatalf("Back(%v): %v, %v", table, back, err)
		}
		for number := range table {
			if back[table[number]] != number || table[back[number]] != number {
				t.Errorf("Back(%v): %v does not undo %d", table, back, number)
			}
		}
	}
}

// TestBackOfNone: B3: where two blocks become the same one, whichever two, there is no table that undoes it.
func TestBackOfNone(t *testing.T) {
	for one := range 16 {
		for two := range 16 {
			if one == two {
				continue
			}
			table := without(balls, one, balls[two])
			back, err := blocks.Back(table)
			if plain.Told(err) != api.ErrNone || len(back) != 0 {
				t.Errorf("Back(%v): %v, %v, want ErrNone", table, back, err)
			}
		}
	}
	if back, err := blocks.Back(none); plain.Told(err) != api.ErrNone || len(back) != 0 {
		t.Errorf("Back of all 0: %v, %v, want ErrNone", back, err)
	}
}

func keeps(t *testing.T, table []int) bool {
	t.Helper()
	yes, err := blocks.Keeps(table)
	if err != nil {
		t.Fatalf("Keeps(%v): %v", table, err)
	}
	return yes
}

// TestKeeps: B3: as many cells live in each block as in what it becomes.
func TestKeeps(t *testing.T) {
	for _, table := range [][]int{balls, still, round, mirror,
		{0, 1, 1, 3, 1, 3, 3, 7, 1, 3, 3, 7, 3, 7, 7, 15},        // kept, but not to be undone
		{0, 2, 1, 3, 4, 5, 6, 7, 8, 9, 10, 11, 12, 13, 14, 15}} { // kept, but minding turns
		if !keeps(t, table) {
			t.Errorf("Keeps(%v) is false", table)
		}
	}
	for _, table := range [][]int{other, none,
		{15, 1, 2, 3, 4, 5, 6, 7, 8, 9, 10, 11, 12, 13, 14, 0},
		{0, 3, 2, 1, 4, 5, 6, 7, 8, 9, 10, 11, 12, 13, 14, 15}} {
		if keeps(t, table) {
			t.Errorf("Keeps(%v) is true", table)
		}
	}
	for at := range 16 {
		for number := range 16 {
			want := bits.OnesCount(uint(at)) == bits.OnesCount(uint(number))
			if got := keeps(t, without(balls, at, number)); got != want {
				t.Errorf("Keeps of balls with %d at %d: %v", number, at, got)
			}
		}
	}
}

func turns(t *testing.T, table []int) bool {
	t.Helper()
	yes, err := blocks.Turns(table)
	if err != nil {
		t.Fatalf("Turns(%v): %v", table, err)
	}
	return yes
}

// quarter turns a block clockwise, as P4 turns a pattern of two by two.
func quarter(t *testing.T, number int) int {
	t.Helper()
	p := api.Pattern{Wide: 2, High: 2, Cells: []int{number & 1, number >> 1 & 1, number >> 2 & 1, number >> 3 & 1}}
	q, err := pattern.Turn(p, 1)
	if err != nil {
		t.Fatal(err)
	}
	return q.Cells[0] + 2*q.Cells[1] + 4*q.Cells[2] + 8*q.Cells[3]
}

// minds tells, block by block, whether a table minds being turned.
func minds(t *testing.T, table []int) bool {
	for number := range 16 {
		if table[quarter(t, number)] != quarter(t, table[number]) {
			return true
		}
	}
	return false
}

// turning gives a table that does not mind being turned: of blocks that are turns of each other, one says what becomes of all.
func turning(t *testing.T, random *rand.Rand) []int {
	for {
		table := make([]int, 16)
		for _, first := range []int{0, 1, 3, 6, 7, 15} {
			at, number := first, random.Intn(16)
			if first == 0 || first == 15 {
				number = 15 * random.Intn(2)
			}
			for range 4 {
				table[at] = number
				at, number = quarter(t, at), quarter(t, number)
			}
		}
		if !minds(t, table) {
			return table
		}
	}
}

// TestTurns: B3: a block that is turned by a quarter clockwise becomes what it becomes, turned likewise.
func TestTurns(t *testing.T) {
	for _, table := range [][]int{balls, still, other, round, none,
		{0, 7, 11, 1, 13, 4, 6, 3, 14, 9, 2, 10, 8, 5, 12, 15},
		{15, 2, 8, 3, 1, 5, 9, 8, 4, 6, 10, 4, 12, 2, 1, 0}} {
		if !turns(t, table) {
			t.Errorf("Turns(%v) is false", table)
		}
	}
	for _, table := range [][]int{mirror,
		{0, 2, 1, 3, 4, 5, 6, 7, 8, 9, 10, 11, 12, 13, 14, 15},
		{0, 1, 2, 3, 4, 5, 9, 7, 8, 9, 10, 11, 12, 13, 14, 15},
		{0, 4, 8, 3, 1, 5, 6, 7, 2, 9, 10, 11, 12, 13, 14, 15},
		slices.Repeat([]int{1}, 16)} {
		if turns(t, table) {
			t.Errorf("Turns(%v) is true", table)
		}
	}
	for at := range 16 {
		for number := range 16 {
			table := without(balls, at, number)
			if got := turns(t, table); got == minds(t, table) {
				t.Errorf("Turns of balls with %d at %d: %v", number, at, got)
			}
		}
	}
	random := rand.New(rand.NewSource(3))
	for range 100 {
		if table := turning(t, random); !turns(t, table) {
			t.Errorf("Turns(%v) is false", table)
		}
		table := anyTable(random)
		if got := turns(t, table); got == minds(t, table) {
			t.Errorf("Turns(%v): %v", table, got)
		}
	}
}

// fill writes into all memory of a list, behind its length too.
func fill(list []int, number int) {
	whole := list[:cap(list)]
	for i := range whole {
		whole[i] = number
	}
}

// TestFresh: what is handed in is neither written into nor kept, nor read behind its length, and what comes out shares no memory with it.
func TestFresh(t *testing.T) {
	numbers := append(slices.Clone(round), 99, 99)
	squares := append(slices.Clone(cells("0110/1000/0011/0101").Cells), 7, 7, 7)
	wasNumbers, wasSquares := slices.Clone(numbers), slices.Clone(squares)
	table, p := numbers[:16], api.Pattern{Wide: 4, High: 4, Cells: squares[:16]}
	var lists [][]int
	for phase := range 2 {
		for n := range 3 {
			lists = append(lists, run(t, table, p, phase, n).Cells)
		}
	}
	back, err := blocks.Back(table)
	again, _ := blocks.Back(table)
	if err != nil || !keeps(t, table) || !turns(t, table) {
		t.Fatalf("Back(%v): %v", table, err)
	}
	lists = append(lists, back, again)
	for i, list := range lists {
		fill(list, 100+i)
	}
	for i, list := range lists {
		if slices.Min(list) != 100+i || slices.Max(list) != 100+i {
			t.Errorf("answer %d shares memory", i)
		}
	}
	if !slices.Equal(numbers, wasNumbers) || !slices.Equal(squares, wasSquares) {
		t.Errorf("what was handed in was written into: %v, %v", numbers, squares)
	}
	empty := run(t, table, api.Pattern{Wide: 4, Cells: squares[:0]}, 0, 1)
	fill(empty.Cells, 100)
	if !slices.Equal(squares, wasSquares) {
		t.Errorf("an empty answer shares memory with what was handed in")
	}
}
