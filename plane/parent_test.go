package plane_test

import (
	"math/rand"
	"slices"
	"testing"

	"eden/api"
	"eden/plain"
	"eden/plane"
)

// middle gives what one step makes of a pattern's cells that have all their neighbours in it.
func middle(r api.Rule, p api.Pattern) api.Pattern {
	out := blank(p.Wide-2, p.High-2)
	for i := range out.Cells {
		at := (i/out.Wide+1)*p.Wide + i%out.Wide + 1
		count := -p.Cells[at]
		for _, row := range []int{at - p.Wide, at, at + p.Wide} {
			count += p.Cells[row-1] + p.Cells[row] + p.Cells[row+1]
		}
		bits := r.Born
		if p.Cells[at] == 1 {
			bits = r.Stay
		}
		out.Cells[i] = bits >> count & 1
	}
	return out
}

// numbered gives the pattern of so many sides whose cells are a number's digits.
func numbered(wide, high, number int) api.Pattern {
	p := blank(wide, high)
	for i := range p.Cells {
		p.Cells[len(p.Cells)-1-i] = number >> i & 1
	}
	return p
}

// sparse makes a rule by which a cell lives for one number of neighbours alone, so that much has no parent.
func sparse(random *rand.Rand) api.Rule {
	bit := random.Intn(18)
	return lifeOf(1<<bit&511, 1<<bit>>9)
}

// TestParentOfAll: all patterns of few cells, against all their parents in order.
func TestParentOfAll(t *testing.T) {
	random := rand.New(rand.NewSource(7))
	some := []api.Rule{life, lifeOf(0, 0), lifeOf(511, 511), lifeOf(0, 511), lifeOf(1, 0), lifeOf(256, 256)}
	for range 8 {
		some = append(some, anyRule(random), sparse(random))
	}
	found := map[bool]int{}
	for _, r := range some {
		for _, sides := range [][2]int{{0, 0}, {0, 3}, {3, 0}, {1, 1}, {2, 1}, {1, 2}, {3, 1}, {1, 3}, {2, 2}} {
			wide, high := sides[0], sides[1]
			first := map[int]api.Pattern{}
			for number := range 1 << ((wide + 2) * (high + 2)) {
				parent := numbered(wide+2, high+2, number)
				key := 0
				for _, cell := range middle(r, parent).Cells {
					key = key<<1 | cell
				}
				if _, known := first[key]; !known {
					first[key] = parent
				}
				if len(first) == 1<<(wide*high) {
					break
				}
			}
			for number := range 1 << (wide * high) {
				p := numbered(wide, high, number)
				want, any := first[number]
				found[any]++
				got, err := plane.Parent(r, p)
				if any && (!same(got, want) || err != nil) || !any && plain.Told(err) != api.ErrNone {
					t.Fatalf("Parent(%v, %v): %v %v, want %v", r, p, got, err, want)
				}
			}
		}
	}
	if found[true] < 200 || found[false] < 80 {
		t.Errorf("found: %v", found)
	}
}

// firstParent finds the first parent from below: for each number of rows, which pairs of last rows can be gone on from.
func firstParent(r api.Rule, p api.Pattern) (api.Pattern, bool) {
	wide, high := p.Wide+2, p.High+2
	count := 1 << wide
	fits := func(y, above, here, below int) bool {
		three := blank(wide, 3)
		for i, number := range []int{above, here, below} {
			lay(three, numbered(wide, 1, number), 0, i)
		}
		return slices.Equal(middle(r, three).Cells, p.Cells[(y-1)*p.Wide:y*p.Wide])
	}
	leads := make([][]bool, high)
	leads[high-1] = slices.Repeat([]bool{true}, count*count)
	for y := high - 2; y >= 1; y-- {
		leads[y] = make([]bool, count*count)
		for pair := range leads[y] {
			for below := range count {
				if leads[y+1][pair%count*count+below] && fits(y, pair/count, pair%count, below) {
					leads[y][pair] = true
					break
				}
			}
		}
	}
	start := slices.Index(leads[1], true)
	if start < 0 {
		return api.Pattern{}, false
	}
	rows := []int{start / count, start % count}
	for y := 1; y < high-1; y++ {
		for below := range count {
			if leads[y+1][rows[y]*count+below] && fits(y, rows[y-1], rows[y], below) {
				rows = append(rows, below)
				break
			}
		}
	}
	out := blank(wide, high)
	for y, number := range rows {
		lay(out, numbered(wide, 1, number), 0, y)
	}
	return out, true
}

func TestParentIsFirst(t *testing.T) {
	random := rand.New(rand.NewSource(8))
	found := map[bool]int{}
	for i := range 120 {
		r, p := anyRule(random), anyPattern(random, random.Intn(4), random.Intn(6))
		switch i % 3 {
		case 0:
			r = life
		case 1:
			r, p = sparse(random), anyPattern(random, 3, 3+random.Intn(3))
		}
		want, any := firstParent(r, p)
		found[any]++
		got, err := plane.Parent(r, p)
		if any && (!same(got, want) || err != nil) || !any && plain.Told(err) != api.ErrNone {
			t.Fatalf("Parent(%v, %v): %v %v, want %v", r, p, got, err, want)
		}
	}
	if found[true] < 50 || found[false] < 10 {
		t.Errorf("found: %v", found)
	}
}

// TestParentMakes: of the greatest patterns what is found makes them; and of one that was made there is a parent, no later than the one that made it.
func TestParentMakes(t *testing.T) {
	random := rand.New(rand.NewSource(9))
	for i := range 150 {
		r, older := anyRule(random), anyPattern(random, 7, 7)
		if i%2 == 0 {
			r = life
		}
		p := middle(r, older)
		got, err := plane.Parent(r, p)
		if err != nil || got.Wide != 7 || got.High != 7 || !same(middle(r, got), p) || slices.Compare(got.Cells, older.Cells) > 0 {
			t.Fatalf("Parent(%v, %v): %v %v", r, p, got, err)
		}
	}
}

// TestParentBySteps: a parent is a parent by Torus and by Grow, too.
func TestParentBySteps(t *testing.T) {
	random := rand.New(rand.NewSource(10))
	for range 100 {
		p := anyPattern(random, 1+random.Intn(5), 1+random.Intn(5))
		parent, err := plane.Parent(life, p)
		if err != nil {
			continue
		}
		next, err := plane.Torus(life, parent)
		if err != nil {
			t.Fatal(err)
		}
		grown, right, down, err := plane.Grow(life, parent, 1)
		if err != nil {
			t.Fatal(err)
		}
		wide := blank(parent.Wide+2, parent.High+2)
		if grown.High > 0 {
			lay(wide, grown, right+1, down+1)
		}
		for i, cell := range p.Cells {
			x, y := i%p.Wide, i/p.Wide
			if next.Cells[(y+1)*next.Wide+x+1] != cell || wide.Cells[(y+2)*wide.Wide+x+2] != cell {
				t.Fatalf("Parent(%v): %v", p, parent)
			}
		}
	}
}

func TestParentSides(t *testing.T) {
	for _, c := range []struct {
		wide, high int
		want       api.Errno
	}{
		{5, 5, api.OK}, {6, 5, api.ErrFull}, {5, 6, api.ErrFull}, {6, 6, api.ErrFull}, {100, 100, api.ErrFull},
		{0, 5, api.OK}, {5, 0, api.OK}, {0, 6, api.ErrFull}, {6, 0, api.ErrFull}, {100, 0, api.ErrFull}, {0, 100, api.ErrFull}, {1, 5, api.OK}, {5, 1, api.OK},
	} {
		got, err := plane.Parent(life, blank(c.wide, c.high))
		if plain.Told(err) != c.want {
			t.Errorf("%d by %d: %v, want %v", c.wide, c.high, err, c.want)
		}
		if c.want == api.OK && !same(got, blank(c.wide+2, c.high+2)) {
			t.Errorf("%d by %d: %v", c.wide, c.high, got)
		}
	}
}

// TestGardensOfEden: patterns without a parent.
func TestGardensOfEden(t *testing.T) {
	full := blank(5, 5)
	for i := range full.Cells {
		full.Cells[i] = 1
	}
	for _, c := range []struct {
		rule    api.Rule
		pattern api.Pattern
		want    api.Errno
	}{
		{lifeOf(0, 0), cells("1"), api.ErrNone},
		{lifeOf(511, 511), cells("0"), api.ErrNone},
		{lifeOf(0, 0), full, api.ErrNone},
		{lifeOf(0, 256), full, api.OK},
		{lifeOf(256, 0), cells("11"), api.ErrNone}, // each would need the other one to live
		{lifeOf(256, 0), cells("101"), api.OK},
		{lifeOf(0, 256), cells("101"), api.ErrNone}, // what lets both live lets the one between them live
		{lifeOf(0, 256), cells("10001"), api.OK},
		{lifeOf(0, 256), blankBut(5, 5, 12), api.OK},
		{lifeOf(0, 1), cells("11"), api.ErrNone}, // each would need the other one not to live
		{lifeOf(0, 1), cells("00100/00000/10001/00000/00100"), api.OK},
		{lifeOf(0, 0), blankBut(5, 5, 24), api.ErrNone}, // only the last row shows it
	} {
		if _, err := plane.Parent(c.rule, c.pattern); plain.Told(err) != c.want {
			t.Errorf("Parent(%v, %v): %v, want %v", c.rule, c.pattern, err, c.want)
		}
	}
}

func blankBut(wide, high, at int) api.Pattern {
	p := blank(wide, high)
	p.Cells[at] = 1
	return p
}
