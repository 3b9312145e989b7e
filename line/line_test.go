package line_test

import (
	"math"
	"math/rand"
	"slices"
	"testing"

	"eden/api"
	"eden/line"
	"eden/plain"
	"eden/rules"
)

// radii has, for each number of states, the greatest radius whose table has at most MaxTable entries.
var radii = map[int]int{2: 5, 3: 3, 4: 2}

func parsed(t *testing.T, text string) api.Rule {
	t.Helper()
	r, _, err := rules.Parse(text)
	if err != nil {
		t.Fatalf("Parse(%q): %v", text, err)
	}
	return r
}

func power(base, exponent int) int {
	out := 1
	for range exponent {
		out *= base
	}
	return out
}

func anyRule(random *rand.Rand, states, radius int) api.Rule {
	return api.Rule{Kind: api.Line, States: states, Radius: radius, Table: anyWord(random, states, power(states, 2*radius+1))}
}

func anyWord(random *rand.Rand, states, cells int) []int {
	out := make([]int, cells)
	for i := range out {
		out[i] = random.Intn(states)
	}
	return out
}

// eachRule calls try with some rules of each shape that there is.
func eachRule(try func(random *rand.Rand, r api.Rule)) {
	random := rand.New(rand.NewSource(3))
	for states := 2; states <= api.MaxStates; states++ {
		for radius := 0; radius <= radii[states]; radius++ {
			for range 3 {
				try(random, anyRule(random, states, radius))
			}
		}
	}
}

// cellAt reads the word as a ring, from any place.
func cellAt(word []int, at int) int {
	return word[(at%len(word)+len(word))%len(word)]
}

// slowStep is the promise word by word: each cell's window, read anew.
func slowStep(r api.Rule, word []int) []int {
	out := make([]int, len(word))
	for i := range word {
		window := 0
		for k := -r.Radius; k <= r.Radius; k++ {
			window = window*r.States + cellAt(word, i+k)
		}
		out[i] = r.Table[window]
	}
	return out
}

func slowRun(r api.Rule, word []int, n int) []int {
	for range n {
		word = slowStep(r, word)
	}
	return word
}

func same(a, b []int) bool { return slices.Equal(a, b) }

func turned(word []int, by int) []int {
	out := make([]int, len(word))
	for i := range word {
		out[i] = cellAt(word, i+by)
	}
	return out
}

func step(t *testing.T, r api.Rule, word []int) []int {
	t.Helper()
	out, err := line.Step(r, word)
	if err != nil {
		t.Fatalf("Step(%v, %v): %v", r, word, err)
	}
	return out
}

func run(t *testing.T, r api.Rule, word []int, n int) []int {
	t.Helper()
	out, err := line.Run(r, word, n)
	if err != nil {
		t.Fatalf("Run(%v, %v, %d): %v", r, word, n, err)
	}
	return out
}

func apply(t *testing.T, r api.Rule, word []int) []int {
	t.Helper()
	out, err := line.Apply(r, word)
	if err != nil {
		t.Fatalf("Apply(%v, %v): %v", r, word, err)
	}
	return out
}

func TestExamples(t *testing.T) {
	r := parsed(t, "W110")
	if got := step(t, r, []int{0, 0, 1, 0}); !same(got, []int{0, 1, 1, 0}) {
		t.Errorf("Step: %v", got)
	}
	if got := apply(t, r, []int{0, 0, 1, 0}); !same(got, []int{1, 1}) {
		t.Errorf("Apply: %v", got)
	}
	if ahead, period, err := line.Cycle(r, []int{0, 1}); ahead != 2 || period != 1 || err != nil {
		t.Errorf("Cycle: %d, %d, %v", ahead, period, err)
	}
}

// answers calls all that take a rule and a word, and tells their errors; with one, all else has to be empty.
func answers(t *testing.T, r api.Rule, word []int) map[string]api.Errno {
	t.Helper()
	stepped, stepErr := line.Step(r, word)
	short, applyErr := line.Apply(r, word)
	ran, runErr := line.Run(r, word, 2)
	ahead, period, cycleErr := line.Cycle(r, word)
	for name, bad := range map[string]bool{
		"Step":  stepErr != nil && len(stepped) > 0,
		"Apply": applyErr != nil && len(short) > 0,
		"Run":   runErr != nil && len(ran) > 0,
		"Cycle": cycleErr != nil && (ahead != 0 || period != 0),
	} {
		if bad {
			t.Errorf("%s answers something beside its error", name)
		}
	}
	return map[string]api.Errno{
		"Check": plain.Told(line.Check(r, word)), "Step": plain.Told(stepErr), "Apply": plain.Told(applyErr),
		"Run": plain.Told(runErr), "Cycle": plain.Told(cycleErr),
	}
}

func wrongRules(t *testing.T) map[string]api.Rule {
	good := parsed(t, "W110")
	change := func(by func(r *api.Rule)) api.Rule {
		r := good
		r.Table = slices.Clone(good.Table)
		by(&r)
		return r
	}
	return map[string]api.Rule{
		"none":             {},
		"life":             parsed(t, "B3/S23"),
		"ant":              parsed(t, "T RL"),
		"no kind":          change(func(r *api.Rule) { r.Kind = 4 }),
		"least kind":       change(func(r *api.Rule) { r.Kind = math.MinInt }),
		"one state":        {Kind: api.Line, States: 1, Radius: 1, Table: []int{0}},
		"five states":      {Kind: api.Line, States: 5, Table: []int{0, 1, 2, 3, 4}},
		"most states":      change(func(r *api.Rule) { r.States = math.MaxInt }),
		"least states":     change(func(r *api.Rule) { r.States = math.MinInt }),
		"radius below":     change(func(r *api.Rule) { r.Radius = -1 }),
		"least radius":     change(func(r *api.Rule) { r.Radius = math.MinInt }),
		"most radius":      change(func(r *api.Rule) { r.Radius = math.MaxInt }),
		"another radius":   change(func(r *api.Rule) { r.Radius = 2 }),
		"too great":        {Kind: api.Line, States: 2, Radius: 6, Table: make([]int, 8192)},
		"entry missing":    change(func(r *api.Rule) { r.Table = r.Table[:7] }),
		"entry too many":   change(func(r *api.Rule) { r.Table = append(r.Table, 0) }),
		"no table":         change(func(r *api.Rule) { r.Table = nil }),
		"entry no state":   change(func(r *api.Rule) { r.Table[7] = 2 }),
		"entry below":      change(func(r *api.Rule) { r.Table[0] = -1 }),
		"born of a line":   change(func(r *api.Rule) { r.Born = 1 }),
		"stay of a line":   change(func(r *api.Rule) { r.Stay = 1 }),
		"turns of a line":  change(func(r *api.Rule) { r.Turns = "L" }),
		"life with states": {Kind: api.Life, States: 2},
	}
}

func TestErrorsOfRules(t *testing.T) {
	words := [][]int{nil, {0, 1}, {7}, make([]int, api.MaxWord+1)}
	for name, r := range wrongRules(t) {
		for _, word := range words {
			for call, told := range answers(t, r, word) {
				if told != api.ErrRange {
					t.Errorf("%s of %s, %d cells: %v", call, name, len(word), told)
				}
			}
		}
		if _, err := line.Run(r, nil, -1); plain.Told(err) != api.ErrRange {
			t.Errorf("Run of %s: %v", name, err)
		}
	}
}

func TestErrorsOfWords(t *testing.T) {
	long := make([]int, api.MaxWord+1)
	wrong := slices.Clone(long)
	wrong[0] = 9
	last := make([]int, api.MaxWord)
	last[api.MaxWord-1] = 2
	for _, c := range []struct {
		name string
		text string
		word []int
		want api.Errno
	}{
		{"none", "W110", nil, api.OK},
		{"no cells", "W110", []int{}, api.OK},
		{"as many as may be", "W110", long[:api.MaxWord], api.OK},
		{"one more", "W110", long, api.ErrFull},
		{"many more", "L 3 0 012", make([]int, 100000), api.ErrFull},
		{"one more and no state", "W110", wrong, api.ErrFull},
		{"last one no state", "W110", last, api.ErrRange},
		{"below", "W110", []int{0, -1}, api.ErrRange},
		{"two of two", "W110", []int{2}, api.ErrRange},
		{"two of three", "L 3 0 012", []int{2}, api.OK},
		{"three of three", "L 3 0 012", []int{3}, api.ErrRange},
		{"three of four", "L 4 0 0123", []int{3}, api.OK},
		{"four of four", "L 4 0 0123", []int{4}, api.ErrRange},
		{"most", "W110", []int{math.MaxInt}, api.ErrRange},
		{"least", "W110", []int{math.MinInt}, api.ErrRange},
	} {
		for call, told := range answers(t, parsed(t, c.text), c.word) {
			if told != c.want {
				t.Errorf("%s of %s: %v, want %v", call, c.name, told, c.want)
			}
		}
	}
}

func TestErrorsOfRun(t *testing.T) {
	r := parsed(t, "W110")
	for _, c := range []struct {
		word []int
		n    int
		want api.Errno
	}{
		{[]int{0, 1}, 0, api.OK},
		{[]int{0, 1}, api.MaxSteps, api.OK},
		{[]int{0, 1}, api.MaxSteps + 1, api.ErrRange},
		{[]int{0, 1}, -1, api.ErrRange},
		{nil, -1, api.ErrRange},
		{nil, math.MaxInt, api.ErrRange},
		{nil, math.MinInt, api.ErrRange},
		{make([]int, api.MaxWord+1), -1, api.ErrFull},
		{make([]int, api.MaxWord+1), 1, api.ErrFull},
	} {
		out, err := line.Run(r, c.word, c.n)
		if plain.Told(err) != c.want || err != nil && len(out) > 0 {
			t.Errorf("Run of %d cells, %d steps: %v, %v, want %v", len(c.word), c.n, out, err, c.want)
		}
	}
}

func TestStepIsTheTable(t *testing.T) {
	eachRule(func(random *rand.Rand, r api.Rule) {
		for cells := 0; cells <= 2*r.Radius+4; cells++ {
			word := anyWord(random, r.States, cells)
			if got, want := step(t, r, word), slowStep(r, word); !same(got, want) {
				t.Errorf("Step(%v, %v): %v, want %v", r, word, got, want)
			}
		}
	})
}

// A rule that takes what stands at one end of its window shows how often a ring is gone round.
func TestStepGoesRound(t *testing.T) {
	for radius := 0; radius <= radii[2]; radius++ {
		entries := power(2, 2*radius+1)
		fromLeft := api.Rule{Kind: api.Line, States: 2, Radius: radius, Table: make([]int, entries)}
		fromRight := api.Rule{Kind: api.Line, States: 2, Radius: radius, Table: make([]int, entries)}
		for i := range entries {
			fromLeft.Table[i], fromRight.Table[i] = i/(entries/2), i%2
		}
		for cells := 1; cells <= 13; cells++ {
			word := make([]int, cells)
			word[0] = 1
			if got, want := step(t, fromLeft, word), turned(word, -radius); !same(got, want) {
				t.Errorf("radius %d from the left of %d cells: %v, want %v", radius, cells, got, want)
			}
			if got, want := step(t, fromRight, word), turned(word, radius); !same(got, want) {
				t.Errorf("radius %d from the right of %d cells: %v, want %v", radius, cells, got, want)
			}
		}
	}
}

func TestStepOfATurnedWord(t *testing.T) {
	eachRule(func(random *rand.Rand, r api.Rule) {
		word := anyWord(random, r.States, 9)
		for by := -9; by <= 9; by++ {
			if got, want := step(t, r, turned(word, by)), turned(step(t, r, word), by); !same(got, want) {
				t.Errorf("%v, %v turned by %d: %v, want %v", r, word, by, got, want)
			}
		}
	})
}

func TestStepOfALongWord(t *testing.T) {
	eachRule(func(random *rand.Rand, r api.Rule) {
		word := anyWord(random, r.States, api.MaxWord)
		if !same(step(t, r, word), slowStep(r, word)) {
			t.Errorf("%v: a word of MaxWord cells is stepped to something else", r)
		}
	})
}

// Apply is what a ring's Step has where no window goes round.
func TestApply(t *testing.T) {
	eachRule(func(random *rand.Rand, r api.Rule) {
		for _, cells := range []int{0, 1, 2 * r.Radius, 2*r.Radius + 1, 2*r.Radius + 2, 40, api.MaxWord} {
			word := anyWord(random, r.States, cells)
			var want []int
			if cells > 2*r.Radius {
				want = slowStep(r, word)[r.Radius : cells-r.Radius]
			}
			if got := apply(t, r, word); !same(got, want) {
				t.Errorf("Apply(%v, %v): %v, want %v", r, word, got, want)
			}
		}
	})
}

func TestRun(t *testing.T) {
	eachRule(func(random *rand.Rand, r api.Rule) {
		for _, cells := range []int{0, 1, 2, 3, 11, 30} {
			word := anyWord(random, r.States, cells)
			for _, n := range []int{0, 1, 2, 3, 17} {
				if got, want := run(t, r, word, n), slowRun(r, word, n); !same(got, want) {
					t.Errorf("Run(%v, %v, %d): %v, want %v", r, word, n, got, want)
				}
			}
		}
	})
}

func TestRunOfMostSteps(t *testing.T) {
	random := rand.New(rand.NewSource(1))
	shift := parsed(t, "W170")
	word := anyWord(random, 2, 7)
	if got, want := run(t, shift, word, api.MaxSteps), turned(word, api.MaxSteps); !same(got, want) {
		t.Errorf("a word turned by one each step: %v, want %v", got, want)
	}
	long := anyWord(random, 2, api.MaxWord)
	if !same(run(t, shift, long, api.MaxSteps), turned(long, api.MaxSteps)) {
		t.Error("a word of MaxWord cells is turned otherwise")
	}
	if got := run(t, parsed(t, "W110"), nil, api.MaxSteps); len(got) > 0 {
		t.Errorf("of no cells come %v", got)
	}
}
