package plane_test

import (
	"math"
	"math/rand"
	"reflect"
	"slices"
	"strings"
	"testing"

	"eden/api"
	"eden/pattern"
	"eden/plain"
	"eden/plane"
	"eden/rules"
)

var life = lifeOf(1<<3, 1<<2|1<<3)

func lifeOf(born, stay int) api.Rule {
	return api.Rule{Kind: api.Life, Born: born, Stay: stay}
}

// cells reads a pattern: its rows.
func cells(text string) api.Pattern {
	if text == "" {
		return api.Pattern{}
	}
	lines := strings.Split(text, "/")
	p := api.Pattern{Wide: len(lines[0]), High: len(lines)}
	for _, line := range lines {
		for _, letter := range line {
			p.Cells = append(p.Cells, int(letter-'0'))
		}
	}
	return p
}

func anyPattern(random *rand.Rand, wide, high int) api.Pattern {
	p := api.Pattern{Wide: wide, High: high}
	for range wide * high {
		p.Cells = append(p.Cells, random.Intn(2))
	}
	return p
}

func anyRule(random *rand.Rand) api.Rule {
	return lifeOf(random.Intn(512), random.Intn(512))
}

func same(a, b api.Pattern) bool {
	return a.Wide == b.Wide && a.High == b.High && slices.Equal(a.Cells, b.Cells)
}

func blank(wide, high int) api.Pattern {
	return api.Pattern{Wide: wide, High: high, Cells: make([]int, wide*high)}
}

// lay writes a pattern's cells into another one.
func lay(into api.Pattern, p api.Pattern, x, y int) {
	for i, cell := range p.Cells {
		into.Cells[(y+i/p.Wide)*into.Wide+x+i%p.Wide] |= cell
	}
}

// slantwise exchanges right and down.
func slantwise(p api.Pattern) api.Pattern {
	out := blank(p.High, p.Wide)
	for i, cell := range p.Cells {
		out.Cells[i%p.Wide*out.Wide+i/p.Wide] = cell
	}
	return out
}

// spot is a cell of a plane.
type spot struct{ right, down int }

// planeOf is a plane as what lives in it.
func planeOf(p api.Pattern) map[spot]bool {
	out := map[spot]bool{}
	for i, cell := range p.Cells {
		if cell == 1 {
			out[spot{i % p.Wide, i / p.Wide}] = true
		}
	}
	return out
}

// stepped counts the neighbours of whatever lives, and asks the rule of each spot that has one.
func stepped(r api.Rule, lives map[spot]bool) map[spot]bool {
	counts := map[spot]int{}
	for s := range lives {
		for right := -1; right <= 1; right++ {
			for down := -1; down <= 1; down++ {
				if right != 0 || down != 0 {
					counts[spot{s.right + right, s.down + down}]++
				}
			}
		}
		counts[s] += 0
	}
	out := map[spot]bool{}
	for s, count := range counts {
		bits := r.Born
		if lives[s] {
			bits = r.Stay
		}
		if bits>>count&1 == 1 {
			out[s] = true
		}
	}
	return out
}

// box gives a plane's living part as a pattern, and where it stands.
func box(lives map[spot]bool) (api.Pattern, int, int) {
	if len(lives) == 0 {
		return api.Pattern{}, 0, 0
	}
	left, above, right, below := math.MaxInt, math.MaxInt, math.MinInt, math.MinInt
	for s := range lives {
		left, right = min(left, s.right), max(right, s.right)
		above, below = min(above, s.down), max(below, s.down)
	}
	out := blank(right-left+1, below-above+1)
	for s := range lives {
		out.Cells[(s.down-above)*out.Wide+s.right-left] = 1
	}
	return out, left, above
}

func TestExamples(t *testing.T) {
	for _, c := range []struct {
		text string
		want api.Again
	}{
		{"010/001/111", api.Again{Period: 4, Right: 1, Down: 1}},
		{"111", api.Again{Period: 2}},
		{"11/11", api.Again{Period: 1}},
	} {
		if got, err := plane.Again(life, cells(c.text), 8); got != c.want || err != nil {
			t.Errorf("Again(%s): %v %v, want %v", c.text, got, err, c.want)
		}
	}
	if got, right, down, err := plane.Grow(life, cells("111"), 1); !same(got, cells("1/1/1")) || right != 1 || down != -1 || err != nil {
		t.Errorf("Grow: %v %d %d %v", got, right, down, err)
	}
	if got, err := plane.Parent(life, cells("1")); !same(got, cells("000/000/111")) || err != nil {
		t.Errorf("Parent: %v %v", got, err)
	}
}

// told asks all four calls of the same rule and pattern.
func told(r api.Rule, p api.Pattern) [4]api.Errno {
	_, torus := plane.Torus(r, p)
	_, _, _, grow := plane.Grow(r, p, 1)
	_, again := plane.Again(r, p, 1)
	_, parent := plane.Parent(r, p)
	return [4]api.Errno{plain.Told(torus), plain.Told(grow), plain.Told(again), plain.Told(parent)}
}

func all(e api.Errno) [4]api.Errno { return [4]api.Errno{e, e, e, e} }

// TestErrorsOfAll: the rule, then the pattern, then the Kind.
func TestErrorsOfAll(t *testing.T) {
	good, wide := cells("11/11"), blank(6, 6)
	shape := api.Pattern{Wide: 2, High: 2, Cells: []int{1, 1, 1}}
	line := api.Rule{Kind: api.Line, States: 2, Radius: 0, Table: []int{0, 1}}
	ant := api.Rule{Kind: api.Ant, Turns: "RL"}
	for name, c := range map[string]struct {
		rule    api.Rule
		pattern api.Pattern
		want    [4]api.Errno
	}{
		"good":                       {life, good, all(api.OK)},
		"no kind":                    {api.Rule{}, good, all(api.ErrRange)},
		"Born below 0":               {lifeOf(-2, 0), good, all(api.ErrRange)},
		"Born above 511":             {lifeOf(512, 0), good, all(api.ErrRange)},
		"Stay below 0":               {lifeOf(8, -1), good, all(api.ErrRange)},
		"Stay above 511":             {lifeOf(8, 512), good, all(api.ErrRange)},
		"what Life does not use":     {api.Rule{Kind: api.Life, Born: 8, States: 2}, good, all(api.ErrRange)},
		"a rule ahead of a shape":    {lifeOf(-2, 0), shape, all(api.ErrRange)},
		"a shape":                    {life, shape, all(api.ErrShape)},
		"a side below 0":             {life, api.Pattern{Wide: -1, High: -1, Cells: []int{1}}, all(api.ErrRange)},
		"a side above MaxSide":       {life, api.Pattern{Wide: 101, High: 0}, all(api.ErrRange)},
		"sides whose product wraps":  {life, api.Pattern{Wide: 1 << 32, High: 1 << 32}, all(api.ErrRange)},
		"a cell":                     {life, api.Pattern{Wide: 1, High: 1, Cells: []int{2}}, all(api.ErrRange)},
		"a cell below 0":             {life, api.Pattern{Wide: 1, High: 1, Cells: []int{-1}}, all(api.ErrRange)},
		"of a line":                  {line, good, all(api.ErrRange)},
		"of an ant":                  {ant, good, all(api.ErrRange)},
		"a shape ahead of the kind":  {line, shape, all(api.ErrShape)},
		"the kind ahead of MaxWide":  {ant, wide, all(api.ErrRange)},
		"the shape ahead of MaxWide": {life, api.Pattern{Wide: 6, High: 6}, all(api.ErrShape)},
		"Born of 0":                  {lifeOf(1, 0), good, [4]api.Errno{0, api.ErrRange, api.ErrRange, 0}},
		"the shape ahead of Born":    {lifeOf(1, 0), shape, all(api.ErrShape)},
		"nothing, and Born of 0":     {lifeOf(1, 0), api.Pattern{}, [4]api.Errno{0, api.ErrRange, api.ErrRange, 0}},
	} {
		if got := told(c.rule, c.pattern); got != c.want {
			t.Errorf("%s: %v, want %v", name, got, c.want)
		}
	}
}

// TestNothingBesideAnError: with an error all else is 0 or empty.
func TestNothingBesideAnError(t *testing.T) {
	for _, c := range []struct {
		rule    api.Rule
		pattern api.Pattern
		n       int
	}{
		{api.Rule{}, cells("1"), 1}, {life, api.Pattern{Wide: 1}, -1}, {lifeOf(9, 12), blank(6, 6), 1}, {life, cells("1"), -1},
		{lifeOf(2, 0), cells("1"), 60}, {lifeOf(0, 0), cells("11/11"), 64},
	} {
		a, err := plane.Torus(c.rule, c.pattern)
		b, right, down, bad := plane.Grow(c.rule, c.pattern, c.n)
		d, ill := plane.Again(c.rule, c.pattern, c.n)
		e, none := plane.Parent(c.rule, c.pattern)
		if err != nil && !reflect.DeepEqual(a, api.Pattern{}) {
			t.Errorf("Torus of %v: %v %v", c, a, err)
		}
		if bad != nil && (!reflect.DeepEqual(b, api.Pattern{}) || right != 0 || down != 0) {
			t.Errorf("Grow of %v: %v %d %d %v", c, b, right, down, bad)
		}
		if ill == nil || d != (api.Again{}) {
			t.Errorf("Again of %v: %v %v", c, d, ill)
		}
		if none != nil && !reflect.DeepEqual(e, api.Pattern{}) {
			t.Errorf("Parent of %v: %v %v", c, e, none)
		}
	}
}

// onRings goes one step by counting at each of the eight places beside a cell.
func onRings(r api.Rule, p api.Pattern) api.Pattern {
	out := blank(p.Wide, p.High)
	for y := range p.High {
		for x := range p.Wide {
			count := 0
			for _, by := range [][2]int{{-1, -1}, {0, -1}, {1, -1}, {-1, 0}, {1, 0}, {-1, 1}, {0, 1}, {1, 1}} {
				across, down := x+by[0], y+by[1]
				if across < 0 {
					across = p.Wide - 1
				}
				if across == p.Wide {
					across = 0
				}
				if down < 0 {
					down = p.High - 1
				}
				if down == p.High {
					down = 0
				}
				count += p.Cells[down*p.Wide+across]
			}
			bits := r.Born
			if p.Cells[y*p.Wide+x] == 1 {
				bits = r.Stay
			}
			out.Cells[y*p.Wide+x] = bits >> count & 1
		}
	}
	return out
}

func TestTorus(t *testing.T) {
	random := rand.New(rand.NewSource(1))
	for range 3000 {
		r, p := anyRule(random), anyPattern(random, random.Intn(8), random.Intn(8))
		if got, err := plane.Torus(r, p); !same(got, onRings(r, p)) || err != nil {
			t.Fatalf("Torus(%v, %v): %v %v, want %v", r, p, got, err, onRings(r, p))
		}
	}
	for _, sides := range [][2]int{{100, 100}, {100, 1}, {1, 100}, {100, 2}, {64, 65}} {
		r, p := anyRule(random), anyPattern(random, sides[0], sides[1])
		if got, err := plane.Torus(r, p); !same(got, onRings(r, p)) || err != nil {
			t.Errorf("Torus of %v: not as counted (%v)", sides, err)
		}
	}
}

// TestTorusOfShortRings: a cell is its own neighbour, or twice another one's.
func TestTorusOfShortRings(t *testing.T) {
	for _, c := range []struct {
		text  string
		count []int // neighbours of each cell
	}{
		{"1", []int{8}},
		{"10", []int{2, 6}},
		{"1/0", []int{2, 6}},
		{"11", []int{8, 8}},
		{"10/00", []int{0, 2, 2, 4}},
		{"11/00", []int{2, 2, 6, 6}},
		{"100", []int{2, 3, 3}},
		{"100/000", []int{0, 1, 1, 2, 2, 2}},
		{"00/10/00", []int{1, 2, 0, 2, 1, 2}},
	} {
		p := cells(c.text)
		for n := range 9 {
			want := blank(p.Wide, p.High)
			for i, count := range c.count {
				if count == n {
					want.Cells[i] = 1
				}
			}
			if got, err := plane.Torus(lifeOf(1<<n, 1<<n), p); !same(got, want) || err != nil {
				t.Errorf("Torus of %s, by %d neighbours: %v %v, want %v", c.text, n, got, err, want)
			}
		}
	}
}

func TestTorusWithoutCells(t *testing.T) {
	for _, p := range []api.Pattern{{}, {Wide: 100}, {High: 100}, {Wide: 3, Cells: []int{}}} {
		if got, err := plane.Torus(lifeOf(511, 511), p); !same(got, p) || err != nil {
			t.Errorf("Torus(%v): %v %v", p, got, err)
		}
	}
}

func TestArgumentsStay(t *testing.T) {
	held := []int{0, 1, 0, 0, 0, 1, 1, 1, 1, 7, 7}
	p := api.Pattern{Wide: 3, High: 3, Cells: held[:9]}
	before := slices.Clone(held)
	torus, _ := plane.Torus(lifeOf(0, 511), p)
	stays, _, _, _ := plane.Grow(life, p, 0)
	plane.Grow(life, p, 9)
	plane.Again(life, p, 9)
	parent, _ := plane.Parent(life, p)
	if !slices.Equal(held, before) {
		t.Errorf("written into: %v", held)
	}
	for _, out := range [][]int{torus.Cells, stays.Cells, parent.Cells} {
		for i := range out {
			out[i] = 5
		}
	}
	if !slices.Equal(held, before) {
		t.Errorf("memory shared: %v", held)
	}
}

// TestMirrored: R4 says that a rule of a plane is its own mirror, so each Turn of a pattern goes the same way.
func TestMirrored(t *testing.T) {
	random := rand.New(rand.NewSource(2))
	for range 200 {
		r, p := anyRule(random), anyPattern(random, random.Intn(7), random.Intn(7))
		m, err := rules.Mirror(r)
		if err != nil {
			t.Fatal(err)
		}
		for k := range 8 {
			turned, _ := pattern.Turn(p, k)
			a, _ := plane.Torus(m, turned)
			b, _ := plane.Torus(r, p)
			b, _ = pattern.Turn(b, k)
			if !same(a, b) {
				t.Fatalf("Torus of a turned %v: %v, want %v", p, a, b)
			}
		}
	}
}
