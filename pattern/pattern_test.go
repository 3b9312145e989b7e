package pattern_test

import (
	"math"
	"slices"
	"strings"
	"testing"

	"eden/api"
	"eden/pattern"
	"eden/plain"
)

// rows makes a pattern of rows of 0 and 1, with / between.
func rows(text string) api.Pattern {
	lines := strings.Split(text, "/")
	p := api.Pattern{Wide: len(lines[0]), High: len(lines)}
	for _, c := range []byte(strings.Join(lines, "")) {
		p.Cells = append(p.Cells, int(c)-'0')
	}
	return p
}

// empty is a pattern without a cell that lives.
func empty(wide, high int) api.Pattern {
	return api.Pattern{Wide: wide, High: high, Cells: make([]int, wide*high)}
}

// same holds patterns against each other; an empty list and nil are the same.
func same(a, b api.Pattern) bool {
	return a.Wide == b.Wide && a.High == b.High && slices.Equal(a.Cells, b.Cells)
}

func zero(p api.Pattern) bool {
	return same(p, api.Pattern{})
}

// some gives patterns of many sizes, each with cells of its own.
func some() []api.Pattern {
	var out []api.Pattern
	seed := uint32(1)
	for _, wide := range []int{0, 1, 2, 3, 7, 20, 99, 100} {
		for _, high := range []int{0, 1, 2, 5, 11, 100} {
			for _, sparse := range []uint32{1, 2, 9, 200} {
				p := empty(wide, high)
				for i := range p.Cells {
					seed = seed*1664525 + 1013904223
					if seed>>16%sparse == 0 {
						p.Cells[i] = 1
					}
				}
				out = append(out, p)
			}
		}
	}
	return out
}

type wrong struct {
	p    api.Pattern
	want api.Errno
}

// wrongs are patterns that are none, with what Check says.
func wrongs() []wrong {
	cells := func(n int) []int { return make([]int, n) }
	return []wrong{
		{api.Pattern{Wide: -1}, api.ErrRange},
		{api.Pattern{High: -1}, api.ErrRange},
		{api.Pattern{Wide: -1, High: -1, Cells: cells(1)}, api.ErrRange},
		{api.Pattern{Wide: 101}, api.ErrRange},
		{api.Pattern{High: 101}, api.ErrRange},
		{api.Pattern{Wide: 101, High: 1, Cells: cells(101)}, api.ErrRange},
		{api.Pattern{Wide: 1, High: 101, Cells: cells(101)}, api.ErrRange},
		{api.Pattern{Wide: math.MaxInt, High: math.MaxInt, Cells: cells(1)}, api.ErrRange},
		{api.Pattern{Wide: math.MinInt, High: math.MinInt}, api.ErrRange},
		{api.Pattern{Wide: 1 << 32, High: 1 << 32}, api.ErrRange},
		{api.Pattern{Wide: -1, Cells: []int{2}}, api.ErrRange},
		{api.Pattern{Cells: cells(1)}, api.ErrShape},
		{api.Pattern{Wide: 2, High: 3}, api.ErrShape},
		{api.Pattern{Wide: 2, High: 3, Cells: cells(5)}, api.ErrShape},
		{api.Pattern{Wide: 2, High: 3, Cells: cells(7)}, api.ErrShape},
		{api.Pattern{Wide: 5, Cells: cells(5)}, api.ErrShape},
		{api.Pattern{High: 5, Cells: cells(5)}, api.ErrShape},
		{api.Pattern{Wide: 100, High: 100, Cells: cells(9999)}, api.ErrShape},
		{api.Pattern{Wide: 2, High: 1, Cells: []int{2}}, api.ErrShape},
		{api.Pattern{Wide: 2, High: 1, Cells: []int{0, 2}}, api.ErrRange},
		{api.Pattern{Wide: 2, High: 1, Cells: []int{-1, 0}}, api.ErrRange},
		{api.Pattern{Wide: 1, High: 1, Cells: []int{math.MaxInt}}, api.ErrRange},
		{api.Pattern{Wide: 1, High: 1, Cells: []int{math.MinInt}}, api.ErrRange},
	}
}

// TestCheck: P1: sides from 0 to MaxSide, as many cells, 0 or 1 each.
func TestCheck(t *testing.T) {
	for _, p := range []api.Pattern{{}, {Cells: []int{}}, {Wide: 100}, {High: 100}, rows("010/111"), empty(100, 100), empty(1, 100), empty(100, 1)} {
		if err := pattern.Check(p); err != nil {
			t.Errorf("Check of %d by %d: %v", p.Wide, p.High, err)
		}
	}
	for _, w := range wrongs() {
		if got := plain.Told(pattern.Check(w.p)); got != w.want {
			t.Errorf("Check(%v): %v, want %v", w.p, got, w.want)
		}
	}
}

// TestCheckFirst: P1: all others say first what Check says, and answer nothing beside it.
func TestCheckFirst(t *testing.T) {
	for _, w := range wrongs() {
		runs, err := pattern.Runs(w.p)
		if plain.Told(err) != w.want || runs != "" {
			t.Errorf("Runs(%v): %q, %v, want %v", w.p, runs, err, w.want)
		}
		drawn, err := pattern.Draw(w.p)
		if plain.Told(err) != w.want || drawn != "" {
			t.Errorf("Draw(%v): %q, %v, want %v", w.p, drawn, err, w.want)
		}
		for _, k := range []int{0, 7, 8, -1} {
			q, err := pattern.Turn(w.p, k)
			if plain.Told(err) != w.want || !zero(q) {
				t.Errorf("Turn(%v, %d): %v, %v, want %v", w.p, k, q, err, w.want)
			}
		}
		q, right, down, err := pattern.Trim(w.p)
		if plain.Told(err) != w.want || !zero(q) || right != 0 || down != 0 {
			t.Errorf("Trim(%v): %v, %d, %d, %v, want %v", w.p, q, right, down, err, w.want)
		}
		q, err = pattern.Canon(w.p)
		if plain.Told(err) != w.want || !zero(q) {
			t.Errorf("Canon(%v): %v, %v, want %v", w.p, q, err, w.want)
		}
	}
}

// TestTurn: P4: quarters clockwise, of others mirrored first.
func TestTurn(t *testing.T) {
	cases := []struct {
		p    string
		want [8]string
	}{
		{"010/111", [8]string{"010/111", "10/11/10", "111/010", "01/11/01", "010/111", "10/11/10", "111/010", "01/11/01"}},
		{"110/100", [8]string{"110/100", "11/01/00", "001/011", "00/10/11", "011/001", "00/01/11", "100/110", "11/10/00"}},
		{"100", [8]string{"100", "1/0/0", "001", "0/0/1", "001", "0/0/1", "100", "1/0/0"}},
		{"1", [8]string{"1", "1", "1", "1", "1", "1", "1", "1"}},
	}
	for _, c := range cases {
		for k, want := range c.want {
			q, err := pattern.Turn(rows(c.p), k)
			if err != nil || !same(q, rows(want)) {
				t.Errorf("Turn(%s, %d): %v, %v, want %s", c.p, k, q, err, want)
			}
		}
	}
	for _, k := range []int{-1, 8, 9, -8, 16, math.MaxInt, math.MinInt} {
		q, err := pattern.Turn(rows("010/111"), k)
		if plain.Told(err) != api.ErrRange || !zero(q) {
			t.Errorf("Turn by %d: %v, %v, want ErrRange", k, q, err)
		}
	}
}

// turn is Turn of what is a pattern.
func turn(t *testing.T, p api.Pattern, k int) api.Pattern {
	t.Helper()
	q, err := pattern.Turn(p, k)
	if err != nil {
		t.Fatalf("Turn of %d by %d, by %d: %v", p.Wide, p.High, k, err)
	}
	return q
}

// TestTurnCells: P4: of patterns of all sizes, sides of 0 and of MaxSide among them, each cell is where the turn puts it.
func TestTurnCells(t *testing.T) {
	for _, p := range some() {
		for k := range 8 {
			q := turn(t, p, k)
			wide, high := p.Wide, p.High
			if k%2 == 1 {
				wide, high = high, wide
			}
			if q.Wide != wide || q.High != high || pattern.Check(q) != nil {
				t.Fatalf("Turn of %d by %d, by %d: %d by %d, %d cells", p.Wide, p.High, k, q.Wide, q.High, len(q.Cells))
			}
			for i, cell := range p.Cells {
				x, y := i%p.Wide, i/p.Wide
				if k >= 4 {
					x = p.Wide - 1 - x
				}
				switch k % 4 {
				case 1:
					x, y = p.High-1-y, x
				case 2:
					x, y = p.Wide-1-x, p.High-1-y
				case 3:
					x, y = y, p.Wide-1-x
				}
				if q.Cells[y*wide+x] != cell {
					t.Fatalf("Turn of %d by %d, by %d: cell %d, %d", p.Wide, p.High, k, x, y)
				}
			}
		}
		if !same(turn(t, turn(t, p, 1), 3), p) || !same(turn(t, turn(t, p, 6), 6), p) {
			t.Errorf("turns of %d by %d do not undo each other", p.Wide, p.High)
		}
	}
}

// TestTrim: P4: the least pattern that has all that lives, and what was left out.
func TestTrim(t *testing.T) {
	cases := []struct {
		p, want     string
		right, down int
	}{
		{"010/111", "010/111", 0, 0},
		{"0000/0010/0110/0000", "01/11", 1, 1},
		{"001", "1", 2, 0},
		{"100", "1", 0, 0},
		{"0/0/1/0", "1", 0, 2},
		{"1000/0000/0001", "1000/0000/0001", 0, 0},
		{"0001/0000/0100", "001/000/100", 1, 0},
		{"00000/01000/00000/00010/00000", "100/000/001", 1, 1},
	}
	for _, c := range cases {
		q, right, down, err := pattern.Trim(rows(c.p))
		if err != nil || !same(q, rows(c.want)) || right != c.right || down != c.down {
			t.Errorf("Trim(%s): %v, %d, %d, %v, want %s, %d, %d", c.p, q, right, down, err, c.want, c.right, c.down)
		}
	}
	for _, p := range []api.Pattern{{}, {Wide: 5}, {High: 100}, empty(1, 1), empty(3, 2), empty(100, 100)} {
		q, right, down, err := pattern.Trim(p)
		if err != nil || !zero(q) || right != 0 || down != 0 {
			t.Errorf("Trim of %d by %d without life: %v, %d, %d, %v", p.Wide, p.High, q, right, down, err)
		}
	}
	corner := empty(100, 100)
	corner.Cells[9999] = 1
	q, right, down, err := pattern.Trim(corner)
	if err != nil || !same(q, rows("1")) || right != 99 || down != 99 {
		t.Errorf("Trim of the last cell of 100 by 100: %v, %d, %d, %v", q, right, down, err)
	}
}

// TestCanon: P4: the first of the eight turns of what is trimmed.
func TestCanon(t *testing.T) {
	cases := []struct{ p, want string }{
		{"1", "1"},
		{"0/1/1/0/1", "1011"},
		{"1101", "1011"},
		{"010/111", "010/111"},
		{"10/11/10", "010/111"},
		{"110/011", "011/110"},
		{"010/001/111", "001/101/011"},
		{"000/110/100", "01/11"},
		{"111/100/000", "001/111"},
		{"10/10/11", "001/111"},
		{"0110/1001/0110", "0110/1001/0110"},
		{"1001/0110", "0110/1001"},
	}
	for _, c := range cases {
		q, err := pattern.Canon(rows(c.p))
		if err != nil || !same(q, rows(c.want)) {
			t.Errorf("Canon(%s): %v, %v, want %s", c.p, q, err, c.want)
		}
	}
	for _, p := range []api.Pattern{{}, {Wide: 5}, {High: 5}, empty(4, 2)} {
		if q, err := pattern.Canon(p); err != nil || !zero(q) {
			t.Errorf("Canon of %d by %d without life: %v, %v", p.Wide, p.High, q, err)
		}
	}
}

// TestCanonOfTurns: P4: all turns of a pattern, wherever it stands, have one Canon; it is one of them, and none is ahead of it.
func TestCanonOfTurns(t *testing.T) {
	for _, p := range some() {
		want, err := pattern.Canon(p)
		if err != nil {
			t.Fatal(err)
		}
		trimmed, _, _, _ := pattern.Trim(p)
		found := false
		for k := range 8 {
			if q, err := pattern.Canon(turn(t, p, k)); err != nil || !same(q, want) {
				t.Errorf("Canon of %d by %d turned by %d is another", p.Wide, p.High, k)
			}
			q := turn(t, trimmed, k)
			found = found || same(q, want)
			if order(q, want) < 0 {
				t.Errorf("Turn by %d of %d by %d is ahead of Canon", k, p.Wide, p.High)
			}
		}
		if !found {
			t.Errorf("Canon of %d by %d is none of its turns", p.Wide, p.High)
		}
	}
}

func order(a, b api.Pattern) int {
	return slices.Compare(append([]int{a.High, a.Wide}, a.Cells...), append([]int{b.High, b.Wide}, b.Cells...))
}

// TestFresh: what is handed in is not written into, and what comes out shares no memory with it.
func TestFresh(t *testing.T) {
	memory := []int{0, 1, 1, 0, 7, 7, 7, 7}
	p := api.Pattern{Wide: 2, High: 2, Cells: memory[:4]}
	var out []api.Pattern
	for k := range 8 {
		out = append(out, turn(t, p, k))
	}
	trimmed, _, _, _ := pattern.Trim(p)
	canon, _ := pattern.Canon(p)
	out = append(out, trimmed, canon)
	runs, _ := pattern.Runs(p)
	drawn, _ := pattern.Draw(p)
	parsed, _, _ := pattern.ParseRuns(runs)
	read, _, _ := pattern.ParseDraw(drawn)
	out = append(out, parsed, read)
	if !slices.Equal(memory, []int{0, 1, 1, 0, 7, 7, 7, 7}) {
		t.Errorf("memory handed in was written into: %v", memory)
	}
	for i := range out {
		whole := out[i].Cells[:cap(out[i].Cells)]
		for j := range whole {
			whole[j] = 10 + i
		}
	}
	for i := range out {
		for _, cell := range out[i].Cells {
			if cell != 10+i {
				t.Errorf("answer %d shares memory", i)
			}
		}
	}
	if !slices.Equal(memory, []int{0, 1, 1, 0, 7, 7, 7, 7}) {
		t.Errorf("an answer shares memory with what was handed in: %v", memory)
	}
	none := api.Pattern{Wide: 3, Cells: memory[:0]}
	trimmed, _, _, _ = pattern.Trim(none)
	canon, _ = pattern.Canon(none)
	for _, q := range []api.Pattern{turn(t, none, 0), turn(t, none, 5), trimmed, canon} {
		if cap(q.Cells) > 0 && &q.Cells[:1][0] == &memory[0] {
			t.Errorf("an empty answer shares memory with what was handed in")
		}
	}
}
