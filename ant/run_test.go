package ant_test

import (
	"math/rand"
	"slices"
	"strings"
	"testing"

	"eden/ant"
	"eden/api"
)

// at are spots by their numbers: Right, Down, Colour, of each.
func at(numbers ...int) []api.Spot {
	var out []api.Spot
	for i := 0; i < len(numbers); i += 3 {
		out = append(out, api.Spot{Right: numbers[i], Down: numbers[i+1], Colour: numbers[i+2]})
	}
	return out
}

// sorted has spots by Down, then by Right.
func sorted(spots []api.Spot) []api.Spot {
	slices.SortFunc(spots, func(a, b api.Spot) int {
		if a.Down != b.Down {
			return a.Down - b.Down
		}
		return a.Right - b.Right
	})
	return spots
}

// anySpots are so many spots at most, near to 0, of a rule of so many colours.
func anySpots(random *rand.Rand, side, colours, count int) []api.Spot {
	var out []api.Spot
	for range count {
		s := api.Spot{Right: random.Intn(side) - side/2, Down: random.Intn(side) - side/2, Colour: 1}
		if colours < 2 {
			return nil
		}
		s.Colour += random.Intn(colours - 1)
		if !slices.ContainsFunc(out, func(o api.Spot) bool { return o.Right == s.Right && o.Down == s.Down }) {
			out = append(out, s)
		}
	}
	return sorted(out)
}

func anyTurns(random *rand.Rand, letters int) string {
	out := make([]byte, letters)
	for i := range out {
		out[i] = "LR"[random.Intn(2)]
	}
	return string(out)
}

// ahead is where a walker is that goes one cell, word by word.
func ahead(w api.Walker) api.Walker {
	switch w.Facing {
	case 0:
		w.Down--
	case 1:
		w.Right++
	case 2:
		w.Down++
	case 3:
		w.Right--
	}
	return w
}

// opposite is a walker that faces the other way.
func opposite(w api.Walker) api.Walker {
	w.Facing = (w.Facing + 2) % 4
	return w
}

// plane is a list of all spots, in any order, and no more.
type plane []api.Spot

func (p plane) colour(w api.Walker) int {
	for _, s := range p {
		if s.Right == w.Right && s.Down == w.Down {
			return s.Colour
		}
	}
	return 0
}

func (p plane) painted(w api.Walker, colour int) plane {
	out := slices.DeleteFunc(slices.Clone(p), func(s api.Spot) bool { return s.Right == w.Right && s.Down == w.Down })
	if colour > 0 {
		out = append(out, api.Spot{Right: w.Right, Down: w.Down, Colour: colour})
	}
	return out
}

// stepped is one step, word by word as the document has it.
func stepped(turns string, p plane, w api.Walker) (plane, api.Walker) {
	colour := p.colour(w)
	quarter := 1
	if turns[colour] == 'L' {
		quarter = 3
	}
	w.Facing = (w.Facing + quarter) % 4
	next := colour + 1
	if next == len(turns) {
		next = 0
	}
	return p.painted(w, next), ahead(w)
}

// undone is one step back, word by word.
func undone(turns string, p plane, w api.Walker) (plane, api.Walker) {
	w = opposite(ahead(opposite(w)))
	last := p.colour(w) - 1
	if last < 0 {
		last = len(turns) - 1
	}
	quarter := 3
	if turns[last] == 'L' {
		quarter = 1
	}
	p = p.painted(w, last)
	w.Facing = (w.Facing + quarter) % 4
	return p, w
}

// TestTable: the examples of the chapter, and others that were gone by hand.
func TestTable(t *testing.T) {
	cases := []struct {
		turns string
		spots []api.Spot
		w     api.Walker
		n     int
		out   []api.Spot
		now   api.Walker
	}{
		{"RL", nil, api.Walker{}, 0, nil, api.Walker{}},
		{"RL", nil, api.Walker{}, 1, at(0, 0, 1), api.Walker{Right: 1, Facing: 1}},
		{"RL", nil, api.Walker{}, 2, at(0, 0, 1, 1, 0, 1), api.Walker{Right: 1, Down: 1, Facing: 2}},
		{"RL", nil, api.Walker{}, 4, at(0, 0, 1, 1, 0, 1, 0, 1, 1, 1, 1, 1), api.Walker{}},
		{"RL", nil, api.Walker{}, 5, at(1, 0, 1, 0, 1, 1, 1, 1, 1), api.Walker{Right: -1, Facing: 3}},
		{"LR", nil, api.Walker{}, 1, at(0, 0, 1), api.Walker{Right: -1, Facing: 3}},
		{"LR", at(0, 0, 1), api.Walker{}, 1, nil, api.Walker{Right: 1, Facing: 1}},
		{"RLL", at(4, -2, 1), api.Walker{Right: 4, Down: -2, Facing: 2}, 1, at(4, -2, 2), api.Walker{Right: 5, Down: -2, Facing: 1}},
		{"RLL", at(4, -2, 2), api.Walker{Right: 4, Down: -2, Facing: 2}, 1, nil, api.Walker{Right: 5, Down: -2, Facing: 1}},
	}
	for _, c := range cases {
		if out, now := gone(t, faces()[0], c.turns, c.spots, c.w, c.n); !slices.Equal(out, c.out) || now != c.now {
			t.Errorf("Run(%s, %v, %v, %d): %v, %v, want %v, %v", c.turns, c.spots, c.w, c.n, out, now, c.out, c.now)
		}
		if out, now := gone(t, faces()[1], c.turns, c.out, c.now, c.n); !slices.Equal(out, c.spots) || now != c.w {
			t.Errorf("Back(%s, %v, %v, %d): %v, %v, want %v, %v", c.turns, c.out, c.now, c.n, out, now, c.spots, c.w)
		}
	}
}

// TestFacings: A2: all four facings with both letters, each by where it leads.
func TestFacings(t *testing.T) {
	cases := []struct {
		letter string
		facing int
		want   api.Walker
	}{
		{"R", 0, api.Walker{Right: 11, Down: 20, Facing: 1}},
		{"R", 1, api.Walker{Right: 10, Down: 21, Facing: 2}},
		{"R", 2, api.Walker{Right: 9, Down: 20, Facing: 3}},
		{"R", 3, api.Walker{Right: 10, Down: 19, Facing: 0}},
		{"L", 0, api.Walker{Right: 9, Down: 20, Facing: 3}},
		{"L", 1, api.Walker{Right: 10, Down: 19, Facing: 0}},
		{"L", 2, api.Walker{Right: 11, Down: 20, Facing: 1}},
		{"L", 3, api.Walker{Right: 10, Down: 21, Facing: 2}},
	}
	backs := []struct {
		letter string
		facing int
		want   api.Walker
	}{
		{"R", 0, api.Walker{Right: 10, Down: 21, Facing: 3}},
		{"R", 1, api.Walker{Right: 9, Down: 20, Facing: 0}},
		{"R", 2, api.Walker{Right: 10, Down: 19, Facing: 1}},
		{"R", 3, api.Walker{Right: 11, Down: 20, Facing: 2}},
		{"L", 0, api.Walker{Right: 10, Down: 21, Facing: 1}},
		{"L", 1, api.Walker{Right: 9, Down: 20, Facing: 2}},
		{"L", 2, api.Walker{Right: 10, Down: 19, Facing: 3}},
		{"L", 3, api.Walker{Right: 11, Down: 20, Facing: 0}},
	}
	for i, c := range cases {
		if _, w := gone(t, faces()[0], c.letter, nil, api.Walker{Right: 10, Down: 20, Facing: c.facing}, 1); w != c.want {
			t.Errorf("Run(%s) facing %d: %v, want %v", c.letter, c.facing, w, c.want)
		}
		b := backs[i]
		if _, w := gone(t, faces()[1], b.letter, nil, api.Walker{Right: 10, Down: 20, Facing: b.facing}, 1); w != b.want {
			t.Errorf("Back(%s) facing %d: %v, want %v", b.letter, b.facing, w, b.want)
		}
	}
}

// TestLetters: A2: each colour has the letter of its number, the first one that of 0, and becomes the next; Back finds the one ahead.
func TestLetters(t *testing.T) {
	random := rand.New(rand.NewSource(1))
	for letters := 1; letters <= api.MaxTurns; letters++ {
		turns := anyTurns(random, letters)
		for colour := range letters {
			for facing := range 4 {
				w := api.Walker{Right: -5, Down: 3, Facing: facing}
				p := plane{}.painted(w, colour)
				next := (colour + 1) % letters
				out, now := gone(t, faces()[0], turns, p, w, 1)
				if want, v := stepped(turns, p, w); !slices.Equal(out, want) || now != v || plane(out).colour(w) != next {
					t.Errorf("%s, colour %d, facing %d: %v, %v", turns, colour, facing, out, now)
				}
				if back, v := gone(t, faces()[1], turns, out, now, 1); !slices.Equal(back, p) || v != w {
					t.Errorf("%s, colour %d, facing %d, back: %v, %v", turns, colour, facing, back, v)
				}
			}
		}
	}
}

// TestWords: A2: Run and Back go as the words of the document do, step by step.
func TestWords(t *testing.T) {
	random := rand.New(rand.NewSource(2))
	for range 400 {
		letters := 1 + random.Intn(6)
		if random.Intn(8) == 0 {
			letters = 1 + random.Intn(api.MaxTurns)
		}
		turns := anyTurns(random, letters)
		spots := anySpots(random, 7, letters, random.Intn(30))
		w := api.Walker{Right: random.Intn(7) - 3, Down: random.Intn(7) - 3, Facing: random.Intn(4)}
		n := random.Intn(60)
		for i, step := range []func(string, plane, api.Walker) (plane, api.Walker){stepped, undone} {
			p, v := slices.Clone(plane(spots)), w
			for range n {
				p, v = step(turns, p, v)
			}
			f := faces()[i]
			if out, now := gone(t, f, turns, spots, w, n); !slices.Equal(out, sorted(p)) || now != v {
				t.Fatalf("%s(%s, %v, %v, %d): %v, %v, want %v, %v", f.name, turns, spots, w, n, out, now, p, v)
			}
		}
	}
}

// TestThereAndBack: A2: Back of Run is what was, and Run of Back.
func TestThereAndBack(t *testing.T) {
	random := rand.New(rand.NewSource(3))
	for _, n := range []int{0, 1, 2, 3, 10, 104, 1000, 20000} {
		for range 12 {
			letters := 1 + random.Intn(api.MaxTurns)
			turns := anyTurns(random, letters)
			spots := anySpots(random, 20, letters, 60)
			w := api.Walker{Right: random.Intn(20) - 10, Down: random.Intn(20) - 10, Facing: random.Intn(4)}
			for i, f := range faces() {
				out, now := gone(t, f, turns, spots, w, n)
				if back, v := gone(t, faces()[1-i], turns, out, now, n); !slices.Equal(back, spots) || v != w {
					t.Errorf("%s, %d steps, %s and back, is another", turns, n, f.name)
				}
			}
		}
	}
}

// TestParts: A2: steps follow each other, however they are dealt out.
func TestParts(t *testing.T) {
	random := rand.New(rand.NewSource(4))
	for range 40 {
		turns := anyTurns(random, 2+random.Intn(9))
		spots := anySpots(random, 9, len(turns), 20)
		a, b := random.Intn(500), random.Intn(500)
		for i, f := range faces() {
			half, w := gone(t, f, turns, spots, api.Walker{Facing: 2}, a)
			out, now := gone(t, f, turns, half, w, b)
			if whole, v := gone(t, f, turns, spots, api.Walker{Facing: 2}, a+b); !slices.Equal(out, whole) || now != v {
				t.Errorf("%s(%s) by %d and by %d is not that by both", f.name, turns, a, b)
			}
			// What goes further back than it went stands where Back alone leads.
			whole, v := gone(t, faces()[1-i], turns, half, w, a+b)
			if only, u := gone(t, faces()[1-i], turns, spots, api.Walker{Facing: 2}, b); !slices.Equal(whole, only) || v != u {
				t.Errorf("%s(%s) by %d, and the other by %d, is not the other by %d", f.name, turns, a, a+b, b)
			}
		}
	}
}

// TestNoSpot: A1, A2: a cell that gets colour 0 again is no spot, and spots come out by Down, then by Right, each within its colours.
func TestNoSpot(t *testing.T) {
	for _, f := range faces() {
		for facing := range 4 {
			if out, w := gone(t, f, "RR", nil, api.Walker{Facing: facing}, 8); len(out) != 0 || w != (api.Walker{Facing: facing}) {
				t.Errorf("%s of RR, 8 steps: %v, %v", f.name, out, w)
			}
		}
	}
	if out, _ := gone(t, faces()[0], "RL", at(0, 0, 1), api.Walker{}, 1); len(out) != 0 {
		t.Errorf("Run from the one spot: %v", out)
	}
	if out, _ := gone(t, faces()[1], "RL", at(0, 0, 1), api.Walker{Down: -1}, 1); len(out) != 0 {
		t.Errorf("Back to the one spot: %v", out)
	}
	random := rand.New(rand.NewSource(5))
	for range 60 {
		turns := anyTurns(random, 1+random.Intn(api.MaxTurns))
		for _, f := range faces() {
			out, _ := gone(t, f, turns, anySpots(random, 30, len(turns), 50), api.Walker{}, random.Intn(3000))
			if !slices.IsSortedFunc(out, func(a, b api.Spot) int { return (a.Down-b.Down)*10000 + a.Right - b.Right }) {
				t.Errorf("%s(%s): spots do not rise", f.name, turns)
			}
			for _, s := range out {
				if s.Colour < 1 || s.Colour >= len(turns) {
					t.Errorf("%s(%s): a spot of colour %d", f.name, turns, s.Colour)
				}
			}
			if err := ant.Check(out); err != nil {
				t.Errorf("%s(%s): Check of what comes out: %v", f.name, turns, err)
			}
		}
	}
}

// TestOneLetter: A2: where a colour's next is itself no spot comes to be, and the walker goes round a square.
func TestOneLetter(t *testing.T) {
	rounds := map[string][]api.Walker{
		"R": {{}, {Right: 1, Facing: 1}, {Right: 1, Down: 1, Facing: 2}, {Down: 1, Facing: 3}},
		"L": {{}, {Right: -1, Facing: 3}, {Right: -1, Down: 1, Facing: 2}, {Down: 1, Facing: 1}},
	}
	for turns, round := range rounds {
		for _, n := range []int{0, 1, 2, 3, 4, 5, 6, 7, 8, 99998, 99999, 100000} {
			if out, w := gone(t, faces()[0], turns, nil, api.Walker{}, n); len(out) != 0 || w != round[n%4] {
				t.Errorf("Run(%s) by %d: %v, %v, want %v", turns, n, out, w, round[n%4])
			}
			if out, w := gone(t, faces()[1], turns, nil, api.Walker{}, n); len(out) != 0 || w != round[(4-n%4)%4] {
				t.Errorf("Back(%s) by %d: %v, %v, want %v", turns, n, out, w, round[(4-n%4)%4])
			}
		}
	}
}

// TestAcross: A1, A2: a walker may go across the edge, and its spots stand there; they may not come in again.
func TestAcross(t *testing.T) {
	cases := []struct {
		w    api.Walker
		want api.Walker // behind one step of RL
	}{
		{api.Walker{Right: edge, Down: 5, Facing: 0}, api.Walker{Right: edge + 1, Down: 5, Facing: 1}},
		{api.Walker{Right: 5, Down: edge, Facing: 1}, api.Walker{Right: 5, Down: edge + 1, Facing: 2}},
		{api.Walker{Right: -edge, Down: 5, Facing: 2}, api.Walker{Right: -edge - 1, Down: 5, Facing: 3}},
		{api.Walker{Right: 5, Down: -edge, Facing: 3}, api.Walker{Right: 5, Down: -edge - 1, Facing: 0}},
		{api.Walker{Right: edge, Down: edge, Facing: 1}, api.Walker{Right: edge, Down: edge + 1, Facing: 2}},
		{api.Walker{Right: -edge, Down: -edge, Facing: 3}, api.Walker{Right: -edge, Down: -edge - 1, Facing: 0}},
	}
	for _, c := range cases {
		out, w := gone(t, faces()[0], "RL", nil, c.w, 1)
		if !slices.Equal(out, at(c.w.Right, c.w.Down, 1)) || w != c.want {
			t.Errorf("Run from %v: %v, %v, want %v", c.w, out, w, c.want)
		}
		refused(t, rule("RL"), out, w, 1, api.ErrRange)
		// Two steps on it leaves a spot beyond the edge, which Check refuses.
		out, w = gone(t, faces()[0], "RL", nil, c.w, 2)
		if len(out) != 2 || !slices.Contains(out, api.Spot{Right: c.want.Right, Down: c.want.Down, Colour: 1}) {
			t.Errorf("Run from %v by 2: %v", c.w, out)
		}
		if err := ant.Check(out); err != api.ErrRange {
			t.Errorf("Check(%v): %v, want ErrRange", out, err)
		}
		// The step that led here came from beyond, where Back leaves its spot.
		out, w = gone(t, faces()[1], "RL", nil, opposite(api.Walker{Right: c.w.Right, Down: c.w.Down, Facing: c.want.Facing}), 1)
		if !slices.Equal(out, at(c.want.Right, c.want.Down, 1)) || w.Right != c.want.Right || w.Down != c.want.Down {
			t.Errorf("Back from %v: %v, %v", c.w, out, w)
		}
	}
}

// TestMoved: A2: a walk is the same wherever it is gone, and far from 0, too, to the cell.
func TestMoved(t *testing.T) {
	random := rand.New(rand.NewSource(6))
	for _, far := range [][2]int{{edge, edge}, {-edge, edge}, {edge, -edge}, {-edge, -edge}, {123456, -654321}} {
		for _, f := range faces() {
			turns := anyTurns(random, 2+random.Intn(5))
			near, w := gone(t, f, turns, nil, api.Walker{Facing: 1}, 4000)
			out, v := gone(t, f, turns, nil, api.Walker{Right: far[0], Down: far[1], Facing: 1}, 4000)
			for i := range near {
				near[i].Right += far[0]
				near[i].Down += far[1]
			}
			w.Right += far[0]
			w.Down += far[1]
			if !slices.Equal(near, out) || v != w {
				t.Errorf("%s(%s) at %v is another", f.name, turns, far)
			}
		}
	}
}

// TestTurnedAndMirrored: A2: a quarter turn of all, or right and left exchanged with the letters, leads to the same, turned or mirrored.
func TestTurnedAndMirrored(t *testing.T) {
	random := rand.New(rand.NewSource(7))
	quarter := func(p []api.Spot, w api.Walker) ([]api.Spot, api.Walker) {
		var out []api.Spot
		for _, s := range p {
			out = append(out, api.Spot{Right: -s.Down, Down: s.Right, Colour: s.Colour})
		}
		return sorted(out), api.Walker{Right: -w.Down, Down: w.Right, Facing: (w.Facing + 1) % 4}
	}
	mirror := func(p []api.Spot, w api.Walker) ([]api.Spot, api.Walker) {
		var out []api.Spot
		for _, s := range p {
			out = append(out, api.Spot{Right: -s.Right, Down: s.Down, Colour: s.Colour})
		}
		return sorted(out), api.Walker{Right: -w.Right, Down: w.Down, Facing: (4 - w.Facing) % 4}
	}
	for range 40 {
		turns := anyTurns(random, 1+random.Intn(8))
		spots := anySpots(random, 9, len(turns), 20)
		w := api.Walker{Right: 2, Down: -1, Facing: random.Intn(4)}
		n := random.Intn(2000)
		for _, f := range faces() {
			out, now := gone(t, f, turns, spots, w, n)
			aside, x := quarter(spots, w)
			got, v := gone(t, f, turns, aside, x, n)
			if want, u := quarter(out, now); !slices.Equal(got, want) || v != u {
				t.Errorf("%s(%s) by %d, turned, is another", f.name, turns, n)
			}
			glass, y := mirror(spots, w)
			got, v = gone(t, f, strings.NewReplacer("L", "R", "R", "L").Replace(turns), glass, y, n)
			if want, u := mirror(out, now); !slices.Equal(got, want) || v != u {
				t.Errorf("%s(%s) by %d, mirrored, is another", f.name, turns, n)
			}
		}
	}
}

// TestNeverAgain: A3: where Turns has both letters, nothing that was comes again. Since steps can be undone, what comes again would do so as it began.
func TestNeverAgain(t *testing.T) {
	random := rand.New(rand.NewSource(8))
	for letters := 2; letters <= 6; letters++ {
		for bits := 1; bits < 1<<letters-1; bits++ {
			turns := make([]byte, letters)
			for i := range turns {
				turns[i] = "LR"[bits>>i&1]
			}
			spots := anySpots(random, 5, letters, random.Intn(12))
			w := api.Walker{Facing: random.Intn(4)}
			now, v := spots, w
			for n := 1; n <= 400; n++ {
				now, v = gone(t, faces()[0], string(turns), now, v, 1)
				if v == w && slices.Equal(now, spots) {
					t.Fatalf("%s, %v, %v: comes again behind %d steps", turns, spots, w, n)
				}
			}
		}
	}
	// It goes farther away than anybody says.
	for _, turns := range []string{"RL", "LR"} {
		_, w := gone(t, faces()[0], turns, nil, api.Walker{}, api.MaxSteps)
		if abs(w.Right) < 1000 || abs(w.Down) < 1000 {
			t.Errorf("%s, MaxSteps: at %v", turns, w)
		}
	}
}

// TestOneTurn: A3: where all letters are the same a walker does come again, round by round as many times as there are colours.
func TestOneTurn(t *testing.T) {
	random := rand.New(rand.NewSource(9))
	for letters := 1; letters <= api.MaxTurns; letters++ {
		for _, letter := range []string{"L", "R"} {
			turns := strings.Repeat(letter, letters)
			spots := anySpots(random, 5, letters, 12)
			for _, f := range faces() {
				for round := 1; round <= letters; round++ {
					out, w := gone(t, f, turns, spots, api.Walker{Facing: 3}, 4*round)
					if w != (api.Walker{Facing: 3}) || slices.Equal(out, spots) != (round == letters) {
						t.Errorf("%s(%s) by %d rounds: %v, was %v", f.name, turns, round, out, spots)
					}
				}
			}
		}
	}
}

func abs(n int) int { return max(n, -n) }

// TestHighway: A2, A3: behind its first ten thousand steps the walker of RL goes two cells aside and two on by each 104 steps, and leaves 12 more spots; so as many are known of 10^18 steps.
func TestHighway(t *testing.T) {
	const far, known = 1000000000000000000, 115384615384614952
	for _, n := range []int{20000, 50000, 99896} {
		a, v := gone(t, faces()[0], "RL", nil, api.Walker{}, n)
		b, w := gone(t, faces()[0], "RL", nil, api.Walker{}, n+104)
		if abs(w.Right-v.Right) != 2 || abs(w.Down-v.Down) != 2 || w.Facing != v.Facing || len(b) != len(a)+12 {
			t.Errorf("by %d: %v, %d spots; 104 steps on: %v, %d spots", n, v, len(a), w, len(b))
		}
	}
	n := 99000
	for (far-n)%104 != 0 {
		n++
	}
	if a, _ := gone(t, faces()[0], "RL", nil, api.Walker{}, n); len(a)+(far-n)/104*12 != known {
		t.Errorf("by %d: %d spots", n, len(a))
	}
}

// TestFar: A2: as many steps as there may be, there and back, among many spots.
func TestFar(t *testing.T) {
	var many []api.Spot
	for down := -150; down < 150; down++ {
		for right := -150; right < 150; right++ {
			if (right*right+down)%3 != 0 {
				many = append(many, api.Spot{Right: right, Down: down, Colour: 1 + (right&3)*(down&3)})
			}
		}
	}
	many = append(many, api.Spot{Right: edge, Down: edge, Colour: 25})
	turns := "RLLRRRLRLLRLRRLLLRRLRLRLRL"
	for i, f := range faces() {
		out, w := gone(t, f, turns, many, api.Walker{Right: 3, Down: 4, Facing: 2}, api.MaxSteps)
		if back, v := gone(t, faces()[1-i], turns, out, w, api.MaxSteps); !slices.Equal(back, many) || v != (api.Walker{Right: 3, Down: 4, Facing: 2}) {
			t.Errorf("%s by MaxSteps, and back, is another", f.name)
		}
	}
}
