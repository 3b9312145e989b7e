package hash_test

import (
	"math"
	"math/bits"
	"math/rand"
	"testing"

	"eden/api"
	"eden/pattern"
	"eden/plane"
	"eden/rules"
)

func TestTableOfTheChapter(t *testing.T) {
	glider := cells("010/001/111")
	for k, want := range map[int][4]int{2: {1, 1, 3, 3}, 40: {274877906944, 274877906944, 3, 3}} {
		s := spaceOf(t, life)
		put(t, s, glider, 0, 0)
		jump(t, s, k)
		wantBox(t, s, want)
		wantWindow(t, s, want[0], want[1], glider)
		if s.Living() != 5 {
			t.Errorf("Living: %d, want 5", s.Living())
		}
	}
}

func TestJumpIsSteps(t *testing.T) {
	random := rand.New(rand.NewSource(4))
	for range 300 {
		r := lifeOf(random.Intn(512)&^1, random.Intn(512))
		if random.Intn(3) == 0 {
			r = life
		}
		k := random.Intn(6)
		p := anyPattern(random, 1+random.Intn(12), 1+random.Intn(12))
		right, down := random.Intn(40)-20, random.Intn(40)-20
		s, c := spaceOf(t, r), plainly{}
		put(t, s, p, right, down)
		c.put(p, right, down)
		jump(t, s, k)
		for range 1 << k {
			c = c.step(r)
		}
		wantPlainly(t, s, c)
		if t.Failed() {
			t.Fatalf("rule %v, pattern %v at %d, %d, k %d", r, p, right, down, k)
		}
	}
}

func TestJumpOfGreatPatterns(t *testing.T) {
	random := rand.New(rand.NewSource(5))
	for k := range 6 {
		p := anyPattern(random, api.MaxSide, api.MaxSide)
		s, c := spaceOf(t, life), plainly{}
		put(t, s, p, -farthest, farthest)
		c.put(p, -farthest, farthest)
		jump(t, s, k)
		for range 1 << k {
			c = c.step(life)
		}
		if s.Living() != len(c) {
			t.Errorf("k %d: Living: %d, want %d", k, s.Living(), len(c))
		}
		wantBox(t, s, c.box())
		wantWindow(t, s, -farthest, farthest, c.window(-farthest, farthest, api.MaxSide, api.MaxSide))
	}
}

// What does not come again is told, too, up to a k of 12.
func TestFarJumpIsSteps(t *testing.T) {
	for _, text := range []string{"011/110/010", "00000010/11000000/01000111", "1000111/1110010/0100000"} {
		c := plainly{}
		c.put(cells(text), -2, 3)
		gone := 0
		for k := 6; k <= 12; k++ {
			for ; gone < 1<<k; gone++ {
				c = c.step(life)
			}
			s := spaceOf(t, life)
			put(t, s, cells(text), -2, 3)
			jump(t, s, k)
			wantPlainly(t, s, c)
		}
	}
}

func TestJumpsBehindOneAnother(t *testing.T) {
	random := rand.New(rand.NewSource(6))
	for round := range 30 {
		r := life
		if round%2 == 1 {
			r = lifeOf(random.Intn(512)&^1, random.Intn(512))
		}
		s, c := spaceOf(t, r), plainly{}
		for range 6 {
			p := anyPattern(random, random.Intn(9), random.Intn(9))
			right, down := random.Intn(60)-30, random.Intn(60)-30
			put(t, s, p, right, down)
			c.put(p, right, down)
			k := random.Intn(4)
			jump(t, s, k)
			for range 1 << k {
				c = c.step(r)
			}
			wantPlainly(t, s, c)
		}
	}
}

func TestJumpsAddUp(t *testing.T) {
	for k := range 12 {
		once, twice := spaceOf(t, life), spaceOf(t, life)
		put(t, once, cells("011/110/010"), 7, 7)
		put(t, twice, cells("011/110/010"), 7, 7)
		jump(t, once, k+1)
		jump(t, twice, k)
		jump(t, twice, k)
		right, down, wide, high := once.Box()
		wantBox(t, twice, [4]int{right, down, wide, high})
		if once.Living() != twice.Living() {
			t.Errorf("k %d: Living: %d once, %d twice", k, once.Living(), twice.Living())
		}
		window, err := once.Cells(right, down, api.MaxSide, api.MaxSide)
		if err != nil {
			t.Fatal(err)
		}
		wantWindow(t, twice, right, down, window)
	}
}

// A square that was known by one rule, or for one k, is not taken for another.
func TestSpacesAreApart(t *testing.T) {
	random := rand.New(rand.NewSource(7))
	p := anyPattern(random, 20, 20)
	ruled := []api.Rule{life, lifeOf(4, 0), lifeOf(8|64, 4|8)}
	for k := range 5 {
		for _, r := range ruled {
			s, other, c := spaceOf(t, r), spaceOf(t, life), plainly{}
			put(t, s, p, 0, 0)
			put(t, other, p, 1, 1)
			c.put(p, 0, 0)
			jump(t, s, k)
			jump(t, other, 3)
			jump(t, s, 4-k)
			for range 1<<k + 1<<(4-k) {
				c = c.step(r)
			}
			wantPlainly(t, s, c)
		}
	}
}

func TestFarApart(t *testing.T) {
	random := rand.New(rand.NewSource(8))
	for _, k := range []int{0, 1, 2, 5, 6} {
		s, c := spaceOf(t, life), plainly{}
		for _, at := range []spot{{0, 0}, {farthest, farthest}, {-farthest, 17}, {70000, -farthest}, {1 << 20, 1<<20 - 3}} {
			p := anyPattern(random, 1+random.Intn(16), 1+random.Intn(16))
			put(t, s, p, at.right, at.down)
			c.put(p, at.right, at.down)
		}
		jump(t, s, k)
		for range 1 << k {
			c = c.step(life)
		}
		if s.Living() != len(c) {
			t.Errorf("k %d: Living: %d, want %d", k, s.Living(), len(c))
		}
		wantBox(t, s, c.box())
		for at := range c {
			right, down := max(at.right-5, -farthest), max(at.down-5, -farthest)
			wantWindow(t, s, min(right, farthest), min(down, farthest), c.window(min(right, farthest), min(down, farthest), 10, 10))
		}
	}
}

// comesAgain has patterns that come again: still, in place, and elsewhere, one cell a step among them.
var comesAgain = []struct{ rule, runs string }{
	{"B3/S23", "x = 2, y = 2\n2o$2o!\n"},
	{"B3/S23", "x = 3, y = 1\n3o!\n"},
	{"B3/S23", "x = 3, y = 3\nbo$2bo$3o!\n"},
	{"B3/S23", "x = 5, y = 4\nbo2bo$o$o3bo$4o!\n"},
	{"B3/S23", "x = 10, y = 3\n2bo4bo$2ob4ob2o$2bo4bo!\n"},
	{"B3/S23", "x = 13, y = 13\n2b3o3b3o2$o4bobo4bo$o4bobo4bo$o4bobo4bo$2b3o3b3o2$2b3o3b3o$o4bobo4bo$o4bobo4bo$o4bobo4bo2$2b3o3b3o!\n"},
	{"B24567/S7", "x = 2, y = 4\nbo$o$o$bo!\n"},
	{"B24567/S345", "x = 4, y = 2\nb2o$o2bo!\n"},
	{"B278/S", "x = 4, y = 2\no2bo$b2o!\n"},
	{"B267/S7", "x = 2, y = 4\no$bo$bo$o!\n"},
	{"B345678/S1468", "x = 5, y = 3\n4o$obobo$4o!\n"},
	{"B357/S0345", "x = 5, y = 4\n2bo$4o$o2b2o$bobo!\n"},
	{"B3567/S45678", "x = 5, y = 5\no2bo$b3o$b4o$b3o$b2o!\n"},
	{"B34/S1456", "x = 4, y = 5\nbo$3bo$3o$2bo$2bo!\n"},
}

func readBoth(t *testing.T, rule, runs string) (api.Rule, api.Pattern) {
	t.Helper()
	r, _, err := rules.Parse(rule)
	if err != nil {
		t.Fatal(rule, err)
	}
	p, _, err := pattern.ParseRuns(runs)
	if err != nil {
		t.Fatal(runs, err)
	}
	return r, p
}

// after tells what Grow and Again say of a pattern that comes again, so many steps later, and where it is.
func after(t *testing.T, r api.Rule, p api.Pattern, steps int) (api.Pattern, int, int) {
	t.Helper()
	a, err := plane.Again(r, p, api.MaxPeriod)
	if err != nil {
		t.Fatal(r, p, err)
	}
	times := steps / a.Period
	now, right, down, err := plane.Grow(r, p, steps%a.Period)
	if err != nil {
		t.Fatal(r, p, err)
	}
	return now, right + times*a.Right, down + times*a.Down
}

func TestWhatComesAgain(t *testing.T) {
	for _, which := range comesAgain {
		r, p := readBoth(t, which.rule, which.runs)
		for k := 0; k <= api.MaxJump; k++ {
			s := spaceOf(t, r)
			put(t, s, p, -11, 6)
			jump(t, s, k)
			now, right, down := after(t, r, p, 1<<k)
			right, down = right-11, down+6
			wantBox(t, s, [4]int{right, down, now.Wide, now.High})
			wantLiving(t, s, now)
			if max(right, -right, down, -down) <= farthest {
				wantWindow(t, s, right, down, now)
			}
			if t.Failed() {
				t.Fatalf("%s, k %d", which.rule, k)
			}
		}
	}
}

func wantLiving(t *testing.T, s interface{ Living() int }, p api.Pattern) {
	t.Helper()
	count := 0
	for _, cell := range p.Cells {
		count += cell
	}
	if s.Living() != count {
		t.Errorf("Living: %d, want %d", s.Living(), count)
	}
}

// A ship of one cell a step goes 2 to the power of 40 cells, beyond where windows stand.
func TestBeyondAllWindows(t *testing.T) {
	r, p := readBoth(t, "B267/S7", "x = 2, y = 4\no$bo$bo$o!\n")
	s := spaceOf(t, r)
	put(t, s, p, farthest, farthest)
	jump(t, s, api.MaxJump)
	jump(t, s, api.MaxJump)
	jump(t, s, 0)
	right := farthest + 2<<40 + 1
	wantBox(t, s, [4]int{right, farthest, 2, 4})
	_, err := s.Cells(right, farthest, 2, 4)
	wantErr(t, "a window there", err, api.ErrRange)
	put(t, s, cells("1"), -farthest, -farthest)
	wantBox(t, s, [4]int{-farthest, -farthest, right + farthest + 2, 2*farthest + 4})
	jump(t, s, 0)
	wantBox(t, s, [4]int{right + 1, farthest, 2, 4})
}

func TestFarJumpsBehindOneAnother(t *testing.T) {
	for _, which := range comesAgain {
		r, p := readBoth(t, which.rule, which.runs)
		s, steps := spaceOf(t, r), 0
		put(t, s, p, 0, 0)
		for _, k := range []int{40, 0, 13, 39, 1, 2, 12, 33, 40, 3, 40, 5} {
			jump(t, s, k)
			steps += 1 << k
			now, right, down := after(t, r, p, steps)
			wantBox(t, s, [4]int{right, down, now.Wide, now.High})
			wantLiving(t, s, now)
			if max(right, -right, down, -down) <= farthest {
				wantWindow(t, s, right, down, now)
			}
		}
		if t.Failed() {
			t.Fatal(which.rule)
		}
	}
}

// Many jumps do not make the space wider than what lives.
func TestManyJumps(t *testing.T) {
	s := spaceOf(t, life)
	put(t, s, cells("010/001/111"), -1, -1)
	for range 500 {
		jump(t, s, 30)
	}
	far := 500<<28 - 1
	wantBox(t, s, [4]int{far, far, 3, 3})
	blinker := spaceOf(t, life)
	put(t, blinker, cells("111"), -1, 0)
	for range 501 {
		jump(t, blinker, 0)
	}
	wantPlainly(t, blinker, plainly{{0, -1}: true, {0, 0}: true, {0, 1}: true})
}

// Many gliders in a square of MaxSide, no two beside others the same way.
func TestManyThatComeAgain(t *testing.T) {
	random := rand.New(rand.NewSource(9))
	p := api.Pattern{Wide: 96, High: 96, Cells: make([]int, 96*96)}
	glider := cells("010/001/111")
	for y := 0; y < 96; y += 12 {
		for x := 0; x < 96; x += 12 {
			now, right, down, err := plane.Grow(life, glider, random.Intn(4))
			if err != nil {
				t.Fatal(err)
			}
			x, y := x+1+right+random.Intn(6), y+1+down+random.Intn(6)
			for i, cell := range now.Cells {
				p.Cells[(y+i/now.Wide)*p.Wide+x+i%now.Wide] = cell
			}
		}
	}
	p, _, _, err := pattern.Trim(p)
	if err != nil {
		t.Fatal(err)
	}
	for _, k := range []int{12, 13, 40} {
		s := spaceOf(t, life)
		put(t, s, p, 0, 0)
		jump(t, s, k)
		wantWindow(t, s, 1<<(k-2), 1<<(k-2), p)
		wantLiving(t, s, p)
	}
}

func TestJumpRefuses(t *testing.T) {
	s := spaceOf(t, life)
	for _, k := range []int{-1, api.MaxJump + 1, math.MaxInt, math.MinInt} {
		wantErr(t, "an empty space", s.Jump(k), api.ErrRange)
	}
	put(t, s, cells("111"), 0, 0)
	for _, k := range []int{-1, api.MaxJump + 1, math.MaxInt, math.MinInt} {
		wantErr(t, "Jump", s.Jump(k), api.ErrRange)
		wantPlainly(t, s, plainly{{0, 0}: true, {1, 0}: true, {2, 0}: true})
	}
	jump(t, s, 0)
	wantPlainly(t, s, plainly{{1, -1}: true, {1, 0}: true, {1, 1}: true})
}

// sheet is a part of a plane, a bit a cell: quick enough for what fills thousands of rows.
type sheet [][]uint64

func newSheet(side int) sheet {
	out := make(sheet, side)
	for i := range out {
		out[i] = make([]uint64, side/64)
	}
	return out
}

// seeds goes a step by B2/S: a cell lives behind it, if it does not now and just two of its neighbours do. What lives is not farther than reach from the middle.
func (s sheet) seeds(next sheet, reach int) {
	from, to := len(s)/2-reach, len(s)/2+reach
	for y := from; y < to; y++ {
		for x := from / 64; x <= to/64; x++ {
			var one, two, more uint64
			for i := range 9 {
				row := s[y+i/3-1]
				cells := row[x]
				switch i % 3 {
				case 0:
					cells = cells<<1 | row[x-1]>>63
				case 2:
					cells = cells>>1 | row[x+1]<<63
				}
				if i != 4 {
					more |= two & one & cells
					one, two = one^cells, two^one&cells
				}
			}
			next[y][x] = two &^ one &^ more &^ s[y][x]
		}
	}
}

// By a rule that fills the plane with what is never alike, a jump would have to know too many squares; it is gone all the same.
func TestJumpOfWhatIsNeverAlike(t *testing.T) {
	const k, middle = 10, 1280
	random := rand.New(rand.NewSource(10))
	p := anyPattern(random, 30, 30)
	s := spaceOf(t, lifeOf(4, 0))
	put(t, s, p, 0, 0)
	jump(t, s, k)
	now, next := newSheet(2*middle), newSheet(2*middle)
	for i, cell := range p.Cells {
		x, y := middle+i%30, middle+i/30
		now[y][x/64] |= uint64(cell) << (x % 64)
	}
	for step := range 1 << k {
		now.seeds(next, 40+step)
		now, next = next, now
	}
	living := 0
	for _, row := range now {
		for _, cells := range row {
			living += bits.OnesCount64(cells)
		}
	}
	if s.Living() != living || living < 100000 {
		t.Errorf("Living: %d, want %d", s.Living(), living)
	}
	for range 100 {
		x, y := random.Intn(2*middle-100), random.Intn(2*middle-100)
		want := api.Pattern{Wide: 100, High: 100, Cells: make([]int, 100*100)}
		for i := range want.Cells {
			x, y := x+i%100, y+i/100
			want.Cells[i] = int(now[y][x/64] >> (x % 64) & 1)
		}
		wantWindow(t, s, x-middle, y-middle, want)
	}
}

// Of a k above 12 nothing is said, if a pattern does not come again; but the call ends, and behind an error the space is as it was.
func TestTooMuchToKnow(t *testing.T) {
	random := rand.New(rand.NewSource(11))
	p := anyPattern(random, 10, 10)
	s, c := spaceOf(t, lifeOf(4, 0)), plainly{}
	put(t, s, p, 0, 0)
	c.put(p, 0, 0)
	wantErr(t, "Jump", s.Jump(api.MaxJump), api.ErrFull)
	wantPlainly(t, s, c)
	jump(t, s, 0)
	wantPlainly(t, s, c.step(lifeOf(4, 0)))
}

// What fills all the plane evenly is told as long as numbers can tell it.
func TestFilledPlane(t *testing.T) {
	for _, k := range []int{0, 5, 12, 20, 29, 40} {
		s := spaceOf(t, lifeOf(510, 511))
		put(t, s, cells("1"), 3, 4)
		jump(t, s, k)
		wide := 2<<k + 1
		wantBox(t, s, [4]int{3 - 1<<k, 4 - 1<<k, wide, wide})
		living := math.MaxInt
		if k < 31 {
			living = wide * wide
		}
		if s.Living() != living {
			t.Errorf("k %d: Living: %d, want %d", k, s.Living(), living)
		}
	}
}
