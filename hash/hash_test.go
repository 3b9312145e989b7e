package hash_test

import (
	"math"
	"math/rand"
	"reflect"
	"slices"
	"strings"
	"testing"

	"eden/api"
	"eden/hash"
	"eden/plain"
	"eden/rules"
)

const farthest = 1000000000000

var life = lifeOf(1<<3, 1<<2|1<<3)

func lifeOf(born, stay int) api.Rule {
	return api.Rule{Kind: api.Life, Born: born, Stay: stay}
}

// cells reads a pattern: its rows.
func cells(text string) api.Pattern {
	if text == "" {
		return api.Pattern{}
	}
	lines := strings.Split(text, "/")
	p := api.Pattern{Wide: len(lines[0]), High: len(lines)}
	for _, line := range lines {
		for _, letter := range line {
			p.Cells = append(p.Cells, int(letter-'0'))
		}
	}
	return p
}

func anyPattern(random *rand.Rand, wide, high int) api.Pattern {
	p := api.Pattern{Wide: wide, High: high, Cells: make([]int, wide*high)}
	for i := range p.Cells {
		p.Cells[i] = random.Intn(2)
	}
	return p
}

func spaceOf(t *testing.T, r api.Rule) *hash.Space {
	t.Helper()
	s, err := hash.New(r)
	if err != nil {
		t.Fatalf("New(%v): %v", r, err)
	}
	return s
}

func put(t *testing.T, s *hash.Space, p api.Pattern, right, down int) {
	t.Helper()
	if err := s.Put(p, right, down); err != nil {
		t.Fatalf("Put at %d, %d: %v", right, down, err)
	}
}

func jump(t *testing.T, s *hash.Space, k int) {
	t.Helper()
	if err := s.Jump(k); err != nil {
		t.Fatalf("Jump(%d): %v", k, err)
	}
}

func wantErr(t *testing.T, what string, err error, want api.Errno) {
	t.Helper()
	if plain.Told(err) != want {
		t.Errorf("%s: %v, want %v", what, err, want)
	}
}

func wantBox(t *testing.T, s *hash.Space, want [4]int) {
	t.Helper()
	right, down, wide, high := s.Box()
	if got := [4]int{right, down, wide, high}; got != want {
		t.Errorf("Box: %v, want %v", got, want)
	}
}

func wantWindow(t *testing.T, s *hash.Space, right, down int, want api.Pattern) {
	t.Helper()
	got, err := s.Cells(right, down, want.Wide, want.High)
	if err != nil {
		t.Fatalf("Cells at %d, %d: %v", right, down, err)
	}
	if got.Wide != want.Wide || got.High != want.High || !slices.Equal(got.Cells, want.Cells) {
		t.Errorf("Cells at %d, %d: %v, want %v", right, down, got, want)
	}
}

// spot is a cell of a plane.
type spot struct{ right, down int }

// plainly has the cells that live, one by one.
type plainly map[spot]bool

func (c plainly) put(p api.Pattern, right, down int) {
	for i, cell := range p.Cells {
		at := spot{right + i%p.Wide, down + i/p.Wide}
		if cell == 1 {
			c[at] = true
		} else {
			delete(c, at)
		}
	}
}

func (c plainly) step(r api.Rule) plainly {
	counts := map[spot]int{}
	for at := range c {
		counts[at] += 0
		for i := range 9 {
			if i != 4 {
				counts[spot{at.right + i%3 - 1, at.down + i/3 - 1}]++
			}
		}
	}
	next := plainly{}
	for at, count := range counts {
		if c[at] && r.Stay>>count&1 == 1 || !c[at] && r.Born>>count&1 == 1 {
			next[at] = true
		}
	}
	return next
}

func (c plainly) box() [4]int {
	if len(c) == 0 {
		return [4]int{}
	}
	left, up, right, down := math.MaxInt, math.MaxInt, math.MinInt, math.MinInt
	for at := range c {
		left, right = min(left, at.right), max(right, at.right)
		up, down = min(up, at.down), max(down, at.down)
	}
	return [4]int{left, up, right - left + 1, down - up + 1}
}

func (c plainly) window(right, down, wide, high int) api.Pattern {
	out := api.Pattern{Wide: wide, High: high, Cells: make([]int, wide*high)}
	for i := range out.Cells {
		if c[spot{right + i%wide, down + i/wide}] {
			out.Cells[i] = 1
		}
	}
	return out
}

// wantPlainly holds a space against all the cells that are to live in it.
func wantPlainly(t *testing.T, s *hash.Space, c plainly) {
	t.Helper()
	if s.Living() != len(c) {
		t.Errorf("Living: %d, want %d", s.Living(), len(c))
	}
	box := c.box()
	wantBox(t, s, box)
	seen := map[spot]bool{}
	for at := range c {
		corner := spot{at.right - (at.right-box[0])%api.MaxSide, at.down - (at.down-box[1])%api.MaxSide}
		if !seen[corner] {
			seen[corner] = true
			wantWindow(t, s, corner.right, corner.down, c.window(corner.right, corner.down, api.MaxSide, api.MaxSide))
		}
	}
	right, down := max(box[0]-1, -farthest), max(box[1]-1, -farthest)
	wantWindow(t, s, right, down, c.window(right, down, 12, 7))
}

func TestNewRefusesRules(t *testing.T) {
	wrong := map[string]api.Rule{
		"no kind":        {},
		"Born too great": lifeOf(512, 0),
		"Born below 0":   lifeOf(-2, 0),
		"Stay too great": lifeOf(8, 512),
		"with Turns":     {Kind: api.Life, Born: 8, Turns: "LR"},
		"a line":         {Kind: api.Line, States: 2, Radius: 0, Table: []int{0, 1}},
		"an ant":         {Kind: api.Ant, Turns: "LR"},
		"bit 0":          lifeOf(1, 0),
		"all bits":       lifeOf(511, 511),
	}
	for name, r := range wrong {
		s, err := hash.New(r)
		wantErr(t, name, err, api.ErrRange)
		if s != nil {
			t.Errorf("%s: a space beside an error", name)
		}
	}
	for _, r := range []api.Rule{wrong["a line"], wrong["an ant"]} {
		if err := rules.Check(r); err != nil {
			t.Errorf("%v is to be a rule, of another kind: %v", r, err)
		}
	}
	for _, r := range []api.Rule{lifeOf(0, 0), lifeOf(510, 511), lifeOf(2, 1)} {
		if s, err := hash.New(r); err != nil || s == nil {
			t.Errorf("New(%v): %v, %v", r, s, err)
		}
	}
}

func TestNothingLivesAtFirst(t *testing.T) {
	s := spaceOf(t, life)
	wantPlainly(t, s, plainly{})
	wantWindow(t, s, farthest, -farthest, api.Pattern{Wide: 3, High: 2, Cells: make([]int, 6)})
	for k := 0; k <= api.MaxJump; k += 10 {
		jump(t, s, k)
		wantPlainly(t, s, plainly{})
	}
}

func TestPutMakesCellsThePatterns(t *testing.T) {
	s, c := spaceOf(t, life), plainly{}
	lay := func(text string, right, down int) {
		t.Helper()
		put(t, s, cells(text), right, down)
		c.put(cells(text), right, down)
		wantPlainly(t, s, c)
	}
	lay("101/010", 0, 0)
	lay("11", -7, -9)
	lay("010/111", 1, 0) // over the first: its 0s take away
	lay("1", 1000, -1000)
	lay("0", 1000, -1000)
	lay("00/00", -7, -9)
	lay("", 5, 5)
	lay("00000/00000", -1, 0)
	if s.Living() != 0 {
		t.Fatalf("Living: %d, want none", s.Living())
	}
	wantBox(t, s, [4]int{})
	lay("11/11", -farthest, farthest)
}

func TestPutWithoutCells(t *testing.T) {
	s := spaceOf(t, life)
	put(t, s, cells("11/01"), 2, 3)
	for _, p := range []api.Pattern{{}, {Wide: 5}, {High: 100}, {Cells: []int{}}} {
		put(t, s, p, 2, 3)
		put(t, s, p, farthest, -farthest)
	}
	wantBox(t, s, [4]int{2, 3, 2, 2})
	if s.Living() != 3 {
		t.Errorf("Living: %d, want 3", s.Living())
	}
}

func TestPutMany(t *testing.T) {
	random := rand.New(rand.NewSource(1))
	for round := range 20 {
		s, c := spaceOf(t, life), plainly{}
		reach := []int{8, 50, 300}[round%3]
		for range 40 {
			p := anyPattern(random, random.Intn(30), random.Intn(30))
			if random.Intn(3) == 0 {
				clear(p.Cells)
			}
			right, down := random.Intn(2*reach)-reach, random.Intn(2*reach)-reach
			put(t, s, p, right, down)
			c.put(p, right, down)
		}
		wantPlainly(t, s, c)
	}
}

func TestPutGreatest(t *testing.T) {
	random := rand.New(rand.NewSource(2))
	s, c := spaceOf(t, life), plainly{}
	for _, at := range []spot{{0, 0}, {-100, 50}, {13, -113}, {farthest, farthest}, {-farthest, farthest}} {
		p := anyPattern(random, api.MaxSide, api.MaxSide)
		put(t, s, p, at.right, at.down)
		c.put(p, at.right, at.down)
		wantWindow(t, s, at.right, at.down, p)
	}
	if s.Living() != len(c) {
		t.Errorf("Living: %d, want %d", s.Living(), len(c))
	}
	wantBox(t, s, c.box())
}

func TestPutEdges(t *testing.T) {
	for _, far := range []int{farthest, -farthest} {
		s := spaceOf(t, life)
		put(t, s, cells("1"), far, 0)
		wantBox(t, s, [4]int{far, 0, 1, 1})
		put(t, s, cells("1"), 0, far)
		wantPlainly(t, spaceWith(t, spot{far, 0}), plainly{{far, 0}: true})
		if s.Living() != 2 {
			t.Errorf("Living: %d, want 2", s.Living())
		}
		wantBox(t, s, plainly{{far, 0}: true, {0, far}: true}.box())
		wantWindow(t, s, far, 0, cells("1"))
		wantWindow(t, s, 0, far, cells("1"))
	}
}

func spaceWith(t *testing.T, at spot) *hash.Space {
	t.Helper()
	s := spaceOf(t, life)
	put(t, s, cells("1"), at.right, at.down)
	return s
}

func TestPutRefuses(t *testing.T) {
	s := spaceOf(t, life)
	put(t, s, cells("010/001/111"), 4, -4)
	one := cells("1")
	for _, far := range []int{farthest + 1, -farthest - 1, math.MaxInt, math.MinInt} {
		wantErr(t, "right too far", s.Put(one, far, 0), api.ErrRange)
		wantErr(t, "down too far", s.Put(one, 0, far), api.ErrRange)
		wantErr(t, "without cells, too far", s.Put(api.Pattern{}, 0, far), api.ErrRange)
		wantErr(t, "another number of cells, too far", s.Put(api.Pattern{Wide: 1, High: 1}, far, far), api.ErrShape)
	}
	wantErr(t, "a side too great", s.Put(api.Pattern{Wide: 101, High: 1, Cells: make([]int, 101)}, 0, 0), api.ErrRange)
	wantErr(t, "a side below 0", s.Put(api.Pattern{Wide: -1, High: -1, Cells: []int{1}}, 0, 0), api.ErrRange)
	wantErr(t, "a side that is none ahead of the cells", s.Put(api.Pattern{Wide: 1, High: 101}, 0, 0), api.ErrRange)
	wantErr(t, "too many cells", s.Put(api.Pattern{Wide: 1, High: 1, Cells: []int{1, 1}}, 0, 0), api.ErrShape)
	wantErr(t, "another number ahead of a cell that is none", s.Put(api.Pattern{Wide: 2, High: 1, Cells: []int{2}}, 0, 0), api.ErrShape)
	wantErr(t, "a cell that is none", s.Put(api.Pattern{Wide: 2, High: 1, Cells: []int{1, 2}}, 0, 0), api.ErrRange)
	c := plainly{}
	c.put(cells("010/001/111"), 4, -4)
	wantPlainly(t, s, c)
}

func TestCellsWindows(t *testing.T) {
	random := rand.New(rand.NewSource(3))
	s, c := spaceOf(t, life), plainly{}
	for range 12 {
		p := anyPattern(random, 1+random.Intn(40), 1+random.Intn(40))
		right, down := random.Intn(200)-100, random.Intn(200)-100
		put(t, s, p, right, down)
		c.put(p, right, down)
	}
	for range 300 {
		right, down, wide, high := random.Intn(300)-200, random.Intn(300)-200, random.Intn(101), random.Intn(101)
		wantWindow(t, s, right, down, c.window(right, down, wide, high))
	}
	for _, far := range []int{farthest, -farthest} {
		wantWindow(t, s, far, 0, plainly{}.window(0, 0, api.MaxSide, api.MaxSide))
		wantWindow(t, s, 0, far, plainly{}.window(0, 0, api.MaxSide, api.MaxSide))
		wantWindow(t, s, far, far, plainly{}.window(0, 0, 1, 1))
	}
	for _, sides := range []spot{{0, 0}, {0, api.MaxSide}, {api.MaxSide, 0}} {
		got, err := s.Cells(0, 0, sides.right, sides.down)
		if err != nil || got.Wide != sides.right || got.High != sides.down || len(got.Cells) != 0 {
			t.Errorf("Cells %v: %v, %v", sides, got, err)
		}
	}
}

func TestCellsRefuses(t *testing.T) {
	s := spaceWith(t, spot{0, 0})
	wrong := [][4]int{
		{0, 0, -1, 1}, {0, 0, 1, -1}, {0, 0, 101, 1}, {0, 0, 1, 101}, {0, 0, math.MaxInt, 0}, {0, 0, 0, math.MinInt},
		{farthest + 1, 0, 1, 1}, {-farthest - 1, 0, 1, 1}, {0, farthest + 1, 1, 1}, {0, -farthest - 1, 1, 1},
		{math.MaxInt, 0, 0, 0}, {0, math.MinInt, 0, 0},
	}
	for _, w := range wrong {
		got, err := s.Cells(w[0], w[1], w[2], w[3])
		wantErr(t, "Cells", err, api.ErrRange)
		if !reflect.DeepEqual(got, api.Pattern{}) {
			t.Errorf("Cells %v: %v beside an error", w, got)
		}
	}
	wantPlainly(t, s, plainly{{0, 0}: true})
}

func TestMemoryIsTheCallers(t *testing.T) {
	s := spaceOf(t, life)
	behind := []int{1, 1, 1, 1, 7, 7}
	p := api.Pattern{Wide: 2, High: 2, Cells: behind[:4]}
	put(t, s, p, 0, 0)
	if !slices.Equal(behind, []int{1, 1, 1, 1, 7, 7}) {
		t.Errorf("Put wrote into its pattern: %v", behind)
	}
	clear(behind)
	a, _ := s.Cells(0, 0, 2, 2)
	clear(a.Cells)
	b, _ := s.Cells(0, 0, 2, 2)
	if !slices.Equal(b.Cells, []int{1, 1, 1, 1}) {
		t.Errorf("Cells: %v, want what was put", b.Cells)
	}
	jump(t, s, 3)
	wantPlainly(t, s, plainly{{0, 0}: true, {1, 0}: true, {0, 1}: true, {1, 1}: true})
}
