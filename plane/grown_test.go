package plane_test

import (
	"math"
	"math/rand"
	"testing"

	"eden/api"
	"eden/pattern"
	"eden/plain"
	"eden/plane"
)

const (
	glider  = "010/001/111"
	blinker = "1/1/1"
	block   = "11/11"
	pulsar  = "0011100011100/0000000000000/1000010100001/1000010100001/1000010100001/0011100011100/0000000000000/0011100011100/1000010100001/1000010100001/1000010100001/0000000000000/0011100011100"
)

// B46/S123467 has a pattern of period 64, which is MaxPeriod, and one of period 65.
const (
	sixtyFour = "11000/10100/11010/00101/11111/00111/00110"
	sixtyFive = "00011/00000/01111/10011/11011/01101/00101/00010"
)

// wantGrown goes n steps cell by cell; ErrFull, if it grows too great.
func wantGrown(r api.Rule, p api.Pattern, n int) (api.Pattern, int, int, api.Errno) {
	lives := planeOf(p)
	out, right, down := box(lives)
	for range n {
		lives = stepped(r, lives)
		out, right, down = box(lives)
		if out.Wide > api.MaxSide || out.High > api.MaxSide {
			return api.Pattern{}, 0, 0, api.ErrFull
		}
	}
	return out, right, down, api.OK
}

func checkGrown(t *testing.T, r api.Rule, p api.Pattern, n int) api.Errno {
	t.Helper()
	want, wantRight, wantDown, bad := wantGrown(r, p, n)
	got, right, down, err := plane.Grow(r, p, n)
	if !same(got, want) || right != wantRight || down != wantDown || plain.Told(err) != bad {
		t.Fatalf("Grow(%v, %v, %d): %v %d %d %v, want %v %d %d %v", r, p, n, got, right, down, err, want, wantRight, wantDown, bad)
	}
	return bad
}

func TestGrow(t *testing.T) {
	random := rand.New(rand.NewSource(3))
	for range 3000 {
		r, p := anyRule(random), anyPattern(random, random.Intn(9), random.Intn(9))
		r.Born &^= 1
		checkGrown(t, r, p, random.Intn(8))
	}
}

// TestGrowFar: wide and high enough that rows pass from word to word, and that some come to be too great.
func TestGrowFar(t *testing.T) {
	random := rand.New(rand.NewSource(4))
	seen := map[api.Errno]int{}
	for i := range 150 {
		r, p := anyRule(random), anyPattern(random, random.Intn(101), random.Intn(101))
		if i%2 == 0 {
			p = anyPattern(random, 1+random.Intn(70), 1+random.Intn(4))
		}
		r.Born &^= 7
		if i%3 == 0 {
			r.Born |= 2 << random.Intn(2)
			p = anyPattern(random, 80+random.Intn(21), 1+random.Intn(9))
		}
		seen[checkGrown(t, r, p, random.Intn(12))]++
	}
	if seen[api.OK] < 20 || seen[api.ErrFull] < 20 {
		t.Errorf("seen: %v", seen)
	}
}

// TestGrowOneByOne: a cell alone, wherever it stands, and two far apart.
func TestGrowOneByOne(t *testing.T) {
	for _, at := range []int{0, 1, 62, 63, 64, 65, 98, 99} {
		p := blank(100, 1)
		p.Cells[at] = 1
		for _, p := range []api.Pattern{p, slantwise(p)} {
			checkGrown(t, lifeOf(0, 1), p, 0)
			checkGrown(t, lifeOf(0, 1), p, 3)
			checkGrown(t, lifeOf(2, 0), p, 1)
			checkGrown(t, lifeOf(4, 0), p, 1)
			p.Cells[0] = 1
			checkGrown(t, lifeOf(0, 511), p, 1)
			checkGrown(t, lifeOf(2, 511), p, 1)
		}
	}
}

// TestGrowByNoSteps: Trim.
func TestGrowByNoSteps(t *testing.T) {
	random := rand.New(rand.NewSource(5))
	for range 500 {
		p := blank(random.Intn(100)+1, random.Intn(100)+1)
		for range random.Intn(3) {
			p.Cells[random.Intn(len(p.Cells))] = 1
		}
		want, wantRight, wantDown, _ := pattern.Trim(p)
		if got, right, down, err := plane.Grow(life, p, 0); !same(got, want) || right != wantRight || down != wantDown || err != nil {
			t.Fatalf("Grow: %v %d %d %v, want %v %d %d", got, right, down, err, want, wantRight, wantDown)
		}
	}
}

// TestGrowOfNothing: no cells, none that live, or one that dies: 0 by 0, 0, 0.
func TestGrowOfNothing(t *testing.T) {
	corner := blank(100, 100)
	corner.Cells[9999] = 1
	for _, p := range []api.Pattern{{}, {Wide: 100}, {High: 100}, cells("000/000"), blank(100, 100), cells("0001"), corner} {
		for _, n := range []int{1, 2, api.MaxSteps} {
			if got, right, down, err := plane.Grow(life, p, n); !same(got, api.Pattern{}) || right != 0 || down != 0 || err != nil {
				t.Errorf("Grow of %d by %d, %d steps: %v %d %d %v", p.Wide, p.High, n, got, right, down, err)
			}
		}
	}
}

func TestGrowSteps(t *testing.T) {
	for n, want := range map[int]api.Errno{
		0: api.OK, api.MaxSteps: api.OK,
		-1: api.ErrRange, api.MaxSteps + 1: api.ErrRange, math.MinInt: api.ErrRange, math.MaxInt: api.ErrRange,
	} {
		for _, p := range []api.Pattern{{}, cells("0"), cells(block)} {
			if _, _, _, err := plane.Grow(life, p, n); plain.Told(err) != want {
				t.Errorf("Grow of %v, %d steps: %v, want %v", p, n, err, want)
			}
		}
	}
}

// TestGrowMost: a glider is 25000 cells away, in each of its directions.
func TestGrowMost(t *testing.T) {
	for k, way := range [][2]int{{1, 1}, {-1, 1}, {-1, -1}, {1, -1}} {
		p, _ := pattern.Turn(cells(glider), k)
		got, right, down, err := plane.Grow(life, p, api.MaxSteps)
		if !same(got, p) || right != way[0]*25000 || down != way[1]*25000 || err != nil {
			t.Errorf("Turn by %d: %v %d %d %v", k, got, right, down, err)
		}
	}
	full := blank(100, 100)
	for i := range full.Cells {
		full.Cells[i] = 1
	}
	got, right, down, err := plane.Grow(lifeOf(0, 511), full, api.MaxSteps)
	if !same(got, full) || right != 0 || down != 0 || err != nil {
		t.Errorf("of what stays: %d by %d, %d %d %v", got.Wide, got.High, right, down, err)
	}
}

// atEnds is a blinker on the left, which becomes one column wider to that side, and a block on the right: so wide.
func atEnds(wide int) api.Pattern {
	p := blank(wide, 3)
	lay(p, cells(blinker), 0, 0)
	lay(p, cells(block), wide-2, 0)
	return p
}

func TestGrowJustToMaxSide(t *testing.T) {
	for wide, want := range map[int]api.Errno{98: api.OK, 99: api.OK, 100: api.ErrFull} {
		p := atEnds(wide)
		for _, p := range []api.Pattern{p, slantwise(p)} {
			for n := range 4 {
				expected := want
				if n == 0 {
					expected = api.OK
				}
				if got := checkGrown(t, life, p, n); got != expected {
					t.Errorf("%d by %d, %d steps: %v, want %v", p.Wide, p.High, n, got, expected)
				}
			}
		}
	}
}

// TestGrowByOneEachStep: B1 grows to every side.
func TestGrowByOneEachStep(t *testing.T) {
	for _, c := range []struct {
		text string
		n    int
		want api.Errno
	}{
		{"1", 49, api.OK}, {"1", 50, api.ErrFull}, {"11", 49, api.OK}, {"11", 50, api.ErrFull}, {"1/1", 49, api.OK}, {"1/1", 50, api.ErrFull}, {"1", api.MaxSteps, api.ErrFull},
	} {
		_, right, down, err := plane.Grow(lifeOf(2, 511), cells(c.text), c.n)
		if plain.Told(err) != c.want || c.want == api.OK && (right != -c.n || down != -c.n) {
			t.Errorf("Grow of %s, %d steps: %d %d %v, want %v", c.text, c.n, right, down, err, c.want)
		}
	}
}

// TestGrowOnlyOnTheWay: what is too great on the way is told, even if it would be less in the end; and cells that do not live count for nothing.
func TestGrowOnlyOnTheWay(t *testing.T) {
	p := atEnds(100)
	if _, _, _, err := plane.Grow(life, p, 2); plain.Told(err) != api.ErrFull {
		t.Errorf("two steps: %v", err)
	}
	q := blank(100, 100)
	lay(q, cells(blinker), 99, 97)
	for n := range 5 {
		checkGrown(t, life, q, n)
	}
	got, right, down, err := plane.Grow(life, q, 1)
	if !same(got, cells("111")) || right != 98 || down != 98 || err != nil {
		t.Errorf("one step beyond the pattern's border: %v %d %d %v", got, right, down, err)
	}
}

// wantAgain looks by Grow, from the pattern on, for each number of steps.
func wantAgain(r api.Rule, p api.Pattern, most int) (api.Again, api.Errno) {
	first, right, down, _ := pattern.Trim(p)
	for n := 1; n <= most; n++ {
		got, x, y, err := plane.Grow(r, p, n)
		if err != nil {
			return api.Again{}, plain.Told(err)
		}
		if first.High > 0 && same(got, first) {
			return api.Again{Period: n, Right: x - right, Down: y - down}, api.OK
		}
	}
	return api.Again{}, api.ErrNone
}

func TestAgain(t *testing.T) {
	random := rand.New(rand.NewSource(6))
	seen := map[api.Errno]int{}
	for i := range 3000 {
		r, p := anyRule(random), anyPattern(random, random.Intn(5), random.Intn(5))
		r.Born &^= 3
		if i%2 == 0 {
			r = life
		}
		most := 1 + random.Intn(10)
		want, bad := wantAgain(r, p, most)
		got, err := plane.Again(r, p, most)
		if got != want || plain.Told(err) != bad {
			t.Fatalf("Again(%v, %v, %d): %v %v, want %v %v", r, p, most, got, err, want, bad)
		}
		seen[bad]++
	}
	if seen[api.OK] < 100 || seen[api.ErrNone] < 100 {
		t.Errorf("seen: %v", seen)
	}
}

// TestAgainJustAtMost: the least Period is told if it is at most most, and ErrNone, if it is one more.
func TestAgainJustAtMost(t *testing.T) {
	strange := lifeOf(80, 222)
	padded := blank(20, 30)
	lay(padded, cells(glider), 7, 9)
	for _, c := range []struct {
		rule    api.Rule
		pattern api.Pattern
		want    api.Again
	}{
		{life, cells(block), api.Again{Period: 1}},
		{life, cells(blinker), api.Again{Period: 2}},
		{life, cells(pulsar), api.Again{Period: 3}},
		{life, cells(glider), api.Again{Period: 4, Right: 1, Down: 1}},
		{life, padded, api.Again{Period: 4, Right: 1, Down: 1}},
		{strange, cells(sixtyFour), api.Again{Period: 64}},
	} {
		period := c.want.Period
		for _, most := range []int{period, period + 1, 2 * period, api.MaxPeriod} {
			if most > api.MaxPeriod {
				continue
			}
			if got, err := plane.Again(c.rule, c.pattern, most); got != c.want || err != nil {
				t.Errorf("Again, at most %d: %v %v, want %v", most, got, err, c.want)
			}
		}
		if period == 1 {
			continue
		}
		if got, err := plane.Again(c.rule, c.pattern, period-1); got != (api.Again{}) || plain.Told(err) != api.ErrNone {
			t.Errorf("Again, at most %d: %v %v, want ErrNone", period-1, got, err)
		}
	}
	if got, err := plane.Again(strange, cells(sixtyFive), 64); plain.Told(err) != api.ErrNone {
		t.Errorf("Again of what comes behind 65 steps: %v %v", got, err)
	}
	if got, _, _, err := plane.Grow(strange, cells(sixtyFive), 65); !same(got, cells(sixtyFive)) || err != nil {
		t.Errorf("65 steps: %v %v", got, err)
	}
}

func TestAgainMost(t *testing.T) {
	for most, want := range map[int]api.Errno{
		1: api.OK, 64: api.OK, 0: api.ErrRange, -1: api.ErrRange, 65: api.ErrRange, math.MinInt: api.ErrRange, math.MaxInt: api.ErrRange,
	} {
		if _, err := plane.Again(life, cells(block), most); plain.Told(err) != want {
			t.Errorf("at most %d: %v, want %v", most, err, want)
		}
		if want == api.OK {
			want = api.ErrNone
		}
		if _, err := plane.Again(life, cells("000"), most); plain.Told(err) != want {
			t.Errorf("of nothing, at most %d: %v, want %v", most, err, want)
		}
	}
}

// TestAgainOfNothing: it is as it was, but nothing lives.
func TestAgainOfNothing(t *testing.T) {
	for _, p := range []api.Pattern{{}, {Wide: 100}, {High: 100}, cells("0"), blank(100, 100), cells("1"), cells("11")} {
		if got, err := plane.Again(life, p, 64); got != (api.Again{}) || plain.Told(err) != api.ErrNone {
			t.Errorf("Again of %d by %d: %v %v", p.Wide, p.High, got, err)
		}
	}
}

// TestAgainFull: only as far as it is looked.
func TestAgainFull(t *testing.T) {
	p := atEnds(100)
	for _, p := range []api.Pattern{p, slantwise(p)} {
		for most := range 4 {
			want := api.ErrFull
			if most == 0 {
				want = api.ErrRange
			}
			if _, err := plane.Again(life, p, most); plain.Told(err) != want {
				t.Errorf("%d by %d, at most %d: %v, want %v", p.Wide, p.High, most, err, want)
			}
		}
	}
	for most, want := range map[int]api.Errno{49: api.ErrNone, 50: api.ErrFull, 64: api.ErrFull} {
		if _, err := plane.Again(lifeOf(2, 0), cells("1"), most); plain.Told(err) != want {
			t.Errorf("of what grows, at most %d: %v, want %v", most, err, want)
		}
	}
	wide := atEnds(99)
	if got, err := plane.Again(life, wide, 64); got != (api.Again{Period: 2}) || err != nil {
		t.Errorf("99 wide: %v %v", got, err)
	}
}
