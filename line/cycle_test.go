package line_test

import (
	"math/rand"
	"slices"
	"testing"

	"eden/api"
	"eden/line"
	"eden/plain"
)

// slowCycle holds each word against all ahead of it.
func slowCycle(r api.Rule, word []int) (ahead, period int) {
	seen := [][]int{word}
	for {
		word = slowStep(r, word)
		for i, old := range seen {
			if slices.Equal(old, word) {
				return i, len(seen) - i
			}
		}
		seen = append(seen, word)
	}
}

func TestCycle(t *testing.T) {
	eachRule(func(random *rand.Rand, r api.Rule) {
		for cells := range 8 {
			word := anyWord(random, r.States, cells)
			ahead, period := slowCycle(r, word)
			gotAhead, gotPeriod, err := line.Cycle(r, word)
			if gotAhead != ahead || gotPeriod != period || err != nil {
				t.Errorf("Cycle(%v, %v): %d, %d, %v, want %d, %d", r, word, gotAhead, gotPeriod, err, ahead, period)
			}
		}
	})
}

func TestCycleOfPlainRules(t *testing.T) {
	one := make([]int, api.MaxWord)
	one[5] = 1
	for _, c := range []struct {
		name          string
		text          string
		word          []int
		ahead, period int
	}{
		{"no cells", "W110", nil, 0, 1},
		{"no cells and radius 0", "L 2 0 10", nil, 0, 1},
		{"the same", "W204", []int{0, 1, 1}, 0, 1},
		{"nothing", "W0", []int{0, 1, 1}, 1, 1},
		{"the other", "W51", []int{0, 1, 1}, 0, 2},
		{"round", "L 3 0 120", []int{0}, 0, 3},
		{"into a round", "L 4 0 1233", []int{0}, 3, 1},
		{"turned", "W170", []int{1, 0, 0, 0, 0}, 0, 5},
		{"turned to the same early", "W170", []int{1, 0, 1, 0}, 0, 2},
		{"as many cells as may be", "W170", one, 0, api.MaxWord},
		{"last cells alone unlike", "W170", []int{0, 0, 0, 0, 0, 0, 0, 0, 1}, 0, 9},
	} {
		ahead, period, err := line.Cycle(parsed(t, c.text), c.word)
		if ahead != c.ahead || period != c.period || err != nil {
			t.Errorf("%s: %d, %d, %v, want %d, %d", c.name, ahead, period, err, c.ahead, c.period)
		}
	}
}

// From one cell that is 1, of 24, rule 45 takes 44060 steps to a round of 56544; each step is one less ahead.
func TestCycleAtItsBound(t *testing.T) {
	r := parsed(t, "W45")
	word := make([]int, 24)
	word[0] = 1
	const ahead, period = 44060, 56544
	const over = ahead + period - api.MaxSteps
	for _, c := range []struct {
		steps, ahead, period int
		want                 api.Errno
	}{
		{0, 0, 0, api.ErrLong},
		{over - 1, 0, 0, api.ErrLong},
		{over, ahead - over, period, api.OK},
		{over + 1, ahead - over - 1, period, api.OK},
		{ahead, 0, period, api.OK},
		{ahead + 7, 0, period, api.OK},
	} {
		gotAhead, gotPeriod, err := line.Cycle(r, run(t, r, word, c.steps))
		if gotAhead != c.ahead || gotPeriod != c.period || plain.Told(err) != c.want {
			t.Errorf("behind %d steps: %d, %d, %v, want %d, %d, %v", c.steps, gotAhead, gotPeriod, err, c.ahead, c.period, c.want)
		}
	}
	if !same(run(t, r, word, ahead), run(t, r, run(t, r, word, ahead), period)) {
		t.Error("the word behind the steps ahead does not come again")
	}
	if same(run(t, r, word, ahead-1), run(t, r, run(t, r, word, ahead-1), period)) {
		t.Error("a word that stands earlier comes again")
	}
}

func TestCycleThatIsTooLong(t *testing.T) {
	random := rand.New(rand.NewSource(2))
	ahead, period, err := line.Cycle(parsed(t, "W30"), anyWord(random, 2, api.MaxWord))
	if ahead != 0 || period != 0 || plain.Told(err) != api.ErrLong {
		t.Errorf("%d, %d, %v, want ErrLong", ahead, period, err)
	}
}
