package sums_test

import (
	"math"
	"math/rand"
	"reflect"
	"slices"
	"testing"

	"eden/api"
	"eden/line"
	"eden/onto"
	"eden/plain"
	"eden/rules"
	"eden/sums"
)

// radii has, for each number of states, the greatest radius whose table has at most MaxTable entries.
var radii = map[int]int{2: 5, 3: 3, 4: 2}

const farthest = 1_000_000_000_000_000_000

func parsed(t *testing.T, text string) api.Rule {
	t.Helper()
	r, _, err := rules.Parse(text)
	if err != nil {
		t.Fatalf("Parse(%q): %v", text, err)
	}
	return r
}

func power(base, exponent int) int {
	out := 1
	for range exponent {
		out *= base
	}
	return out
}

// wordOf writes a number by so many digits.
func wordOf(states, cells, number int) []int {
	out := make([]int, cells)
	for i := cells - 1; i >= 0; i-- {
		out[i] = number % states
		number /= states
	}
	return out
}

func anyWord(random *rand.Rand, states, cells int) []int {
	out := make([]int, cells)
	for i := range out {
		out[i] = random.Intn(states)
	}
	return out
}

// ruleOf makes a rule by what becomes of each window.
func ruleOf(states, radius int, becomes func(window []int) int) api.Rule {
	r := api.Rule{Kind: api.Line, States: states, Radius: radius}
	for number := range power(states, 2*radius+1) {
		r.Table = append(r.Table, becomes(wordOf(states, 2*radius+1, number)))
	}
	return r
}

func sumOf(states int, numbers ...int) api.Rule {
	return ruleOf(states, len(numbers)/2, func(window []int) int {
		sum := 0
		for i, state := range window {
			sum += numbers[i] * state
		}
		return sum % states
	})
}

func elementary(number int) api.Rule {
	return ruleOf(2, 1, func(w []int) int { return number >> (4*w[0] + 2*w[1] + w[2]) & 1 })
}

// eachSum calls try with some sums of each shape that there is.
func eachSum(try func(random *rand.Rand, r api.Rule, numbers []int)) {
	random := rand.New(rand.NewSource(11))
	for states := 2; states <= api.MaxStates; states++ {
		for radius := 0; radius <= radii[states]; radius++ {
			for range 4 {
				numbers := anyWord(random, states, 2*radius+1)
				try(random, sumOf(states, numbers...), numbers)
			}
		}
	}
}

func linear(t *testing.T, r api.Rule) ([]int, bool) {
	t.Helper()
	numbers, err := sums.Linear(r)
	if told := plain.Told(err); told != api.OK && told != api.ErrNone || err != nil && len(numbers) > 0 {
		t.Fatalf("Linear(%v): %v, %v", r, numbers, err)
	}
	return numbers, err == nil
}

func jump(t *testing.T, r api.Rule, word []int, n int) []int {
	t.Helper()
	out, err := sums.Jump(r, word, n)
	if err != nil {
		t.Fatalf("Jump(%v, %v, %d): %v", r, word, n, err)
	}
	return out
}

func run(t *testing.T, r api.Rule, word []int, n int) []int {
	t.Helper()
	out, err := line.Run(r, word, n)
	if err != nil {
		t.Fatalf("Run(%v, %v, %d): %v", r, word, n, err)
	}
	return out
}

func TestExamples(t *testing.T) {
	if numbers, yes := linear(t, parsed(t, "W90")); !yes || !slices.Equal(numbers, []int{1, 0, 1}) {
		t.Errorf("Linear of W90: %v, %v", numbers, yes)
	}
	if numbers, yes := linear(t, parsed(t, "W110")); yes {
		t.Errorf("Linear of W110: %v", numbers)
	}
	if got := jump(t, parsed(t, "W90"), []int{0, 0, 0, 1, 0, 0, 0}, 8); !slices.Equal(got, []int{0, 0, 1, 0, 1, 0, 0}) {
		t.Errorf("Jump of W90: %v", got)
	}
	for text, want := range map[string]bool{"W184": true, "W110": false} {
		if yes, err := sums.Keeps(parsed(t, text), []int{0, 1}); yes != want || err != nil {
			t.Errorf("Keeps of %s: %v, %v", text, yes, err)
		}
	}
}

func TestLinearGivesTheNumbers(t *testing.T) {
	eachSum(func(_ *rand.Rand, r api.Rule, numbers []int) {
		if got, yes := linear(t, r); !yes || !slices.Equal(got, numbers) {
			t.Errorf("Linear(%v): %v, %v, want %v", r, got, yes, numbers)
		}
	})
}

// With all tables of a small shape, sums are those that some numbers make.
func TestLinearOfAllRules(t *testing.T) {
	for _, c := range []struct{ states, radius int }{{2, 0}, {3, 0}, {4, 0}, {2, 1}} {
		cells := 2*c.radius + 1
		entries := power(c.states, cells)
		made := map[int][]int{}
		for number := range power(c.states, cells) {
			numbers := wordOf(c.states, cells, number)
			made[numberOf(c.states, sumOf(c.states, numbers...).Table)] = numbers
		}
		for number := range power(c.states, entries) {
			r := api.Rule{Kind: api.Line, States: c.states, Radius: c.radius, Table: wordOf(c.states, entries, number)}
			got, yes := linear(t, r)
			if want, isSum := made[number]; yes != isSum || !slices.Equal(got, want) {
				t.Errorf("Linear(%v): %v, %v, want %v, %v", r, got, yes, want, isSum)
			}
		}
	}
}

func numberOf(states int, word []int) int {
	number := 0
	for _, state := range word {
		number = number*states + state
	}
	return number
}

// But for two states and radius 0, no rule that is a sum at all windows but one is a sum.
func TestOneWindowAloneIsNoSum(t *testing.T) {
	eachSum(func(random *rand.Rand, r api.Rule, numbers []int) {
		if len(r.Table) == 2 {
			return
		}
		for window, state := range r.Table {
			r.Table[window] = (state + 1 + random.Intn(r.States-1)) % r.States
			if got, yes := linear(t, r); yes {
				t.Errorf("Linear(%v): %v", r, got)
			}
			if got, err := sums.Jump(r, []int{1, 0, 1}, 3); plain.Told(err) != api.ErrNone || len(got) > 0 {
				t.Errorf("Jump(%v): %v, %v", r, got, err)
			}
			r.Table[window] = state
		}
	})
}

func TestJumpIsRun(t *testing.T) {
	steps := []int{0, 1, 2, 3, 4, 5, 6, 7, 8, 9, 10, 11, 12, 15, 16, 17, 26, 27, 28, 31, 63, 64, 65, 80, 81, 100, 255, 256, 1000}
	eachSum(func(random *rand.Rand, r api.Rule, _ []int) {
		for cells := 0; cells <= 2*r.Radius+5; cells++ {
			word := anyWord(random, r.States, cells)
			for _, n := range steps {
				if got, want := jump(t, r, word, n), run(t, r, word, n); !slices.Equal(got, want) {
					t.Fatalf("Jump(%v, %v, %d): %v, want %v", r, word, n, got, want)
				}
			}
		}
	})
}

func TestJumpOfLongRings(t *testing.T) {
	random := rand.New(rand.NewSource(12))
	for _, r := range []api.Rule{
		parsed(t, "W150"), sumOf(2, 1, 0, 0, 1, 1, 0, 1, 0, 0, 0, 1), sumOf(3, 2, 1, 0, 0, 2), sumOf(4, 3, 2, 1), sumOf(4, 1, 2, 3, 0, 2),
	} {
		for _, cells := range []int{100, 243, 256, 999, api.MaxWord} {
			word := anyWord(random, r.States, cells)
			for _, n := range []int{1, 255, 256, 729, 5000} {
				if !slices.Equal(jump(t, r, word, n), run(t, r, word, n)) {
					t.Errorf("Jump(%v) of %d cells, %d steps", r, cells, n)
				}
			}
		}
	}
	word := anyWord(random, 4, 9)
	r := sumOf(4, 1, 3, 2)
	if !slices.Equal(jump(t, r, word, api.MaxSteps), run(t, r, word, api.MaxSteps)) {
		t.Error("as many steps as Run goes")
	}
}

// turnedSum is the sum of a ring's turns, each times its number, modulo states.
func turnedSum(states int, numbers, ring []int) []int {
	cells := len(ring)
	out := make([]int, cells)
	for by, number := range numbers {
		for i := range out {
			out[i] = (out[i] + number*ring[(i+by)%cells]) % states
		}
	}
	return out
}

// slowJump doubles the sum itself, as a ring of numbers, as often as n has bits.
func slowJump(states int, numbers, ring []int, n int) []int {
	cells := len(ring)
	power := make([]int, cells)
	for i, number := range numbers {
		at := ((i-len(numbers)/2)%cells + cells) % cells
		power[at] = (power[at] + number) % states
	}
	for ; n > 0; n /= 2 {
		if n%2 == 1 {
			ring = turnedSum(states, power, ring)
		}
		power = product(states, power, power)
	}
	return ring
}

func product(states int, a, b []int) []int {
	out := make([]int, len(a))
	for i := range a {
		for k := range b {
			out[(i+k)%len(a)] += a[i] * b[k]
		}
	}
	for i := range out {
		out[i] %= states
	}
	return out
}

func TestJumpFar(t *testing.T) {
	eachSum(func(random *rand.Rand, r api.Rule, numbers []int) {
		for _, cells := range []int{1, 2, 3, 4, 7, 12, 40} {
			word := anyWord(random, r.States, cells)
			for _, n := range []int{api.MaxSteps + 1, 1 << 40, 1<<59 - 1, random.Intn(farthest), farthest - 1, farthest} {
				if got, want := jump(t, r, word, n), slowJump(r.States, numbers, word, n); !slices.Equal(got, want) {
					t.Fatalf("Jump(%v, %v, %d): %v, want %v", r, word, n, got, want)
				}
			}
		}
	})
}

// A ring that comes again is as far steps on what it is within its round.
func TestJumpGoesRound(t *testing.T) {
	eachSum(func(random *rand.Rand, r api.Rule, _ []int) {
		word := anyWord(random, r.States, 8)
		ahead, period, err := line.Cycle(r, word)
		if err != nil {
			t.Fatal(err)
		}
		for _, n := range []int{farthest, farthest - 1, 123_456_789_012_345_678} {
			want := run(t, r, word, ahead+(n-ahead)%period)
			if got := jump(t, r, word, n); !slices.Equal(got, want) {
				t.Errorf("Jump(%v, %v, %d): %v, want %v", r, word, n, got, want)
			}
		}
	})
}

func TestJumpsAddUp(t *testing.T) {
	random := rand.New(rand.NewSource(13))
	eachSum(func(_ *rand.Rand, r api.Rule, _ []int) {
		word := anyWord(random, r.States, api.MaxWord)
		first := random.Intn(farthest)
		rest := random.Intn(farthest - first)
		if !slices.Equal(jump(t, r, jump(t, r, word, first), rest), jump(t, r, word, first+rest)) {
			t.Errorf("Jump(%v): %d and then %d steps", r, first, rest)
		}
	})
}

func TestJumpOfPlainRules(t *testing.T) {
	long := make([]int, api.MaxWord)
	long[5] = 3
	turned := make([]int, api.MaxWord)
	turned[4] = 3
	for _, c := range []struct {
		name string
		r    api.Rule
		word []int
		n    int
		want []int
	}{
		{"no cells", parsed(t, "W90"), nil, farthest, nil},
		{"no cells, no steps", parsed(t, "W90"), []int{}, 0, nil},
		{"no steps", parsed(t, "W90"), []int{0, 1, 1}, 0, []int{0, 1, 1}},
		{"one cell", parsed(t, "W150"), []int{1}, farthest, []int{1}},
		{"one cell that goes", parsed(t, "W90"), []int{1}, farthest, []int{0}},
		{"radius 0", parsed(t, "L 3 0 021"), []int{0, 1, 2}, farthest - 1, []int{0, 2, 1}},
		{"radius 0, twice", parsed(t, "L 3 0 021"), []int{0, 1, 2}, farthest, []int{0, 1, 2}},
		{"nothing", parsed(t, "W0"), []int{1, 1}, farthest, []int{0, 0}},
		{"nothing, no steps", parsed(t, "W0"), []int{1, 1}, 0, []int{1, 1}},
		{"twice two of four", parsed(t, "L 4 0 0202"), []int{1, 2, 3}, 1, []int{2, 0, 2}},
		{"twice two of four, twice", parsed(t, "L 4 0 0202"), []int{1, 2, 3}, 2, []int{0, 0, 0}},
		{"turned", sumOf(4, 0, 0, 1), long, 1 + 7*api.MaxWord, turned},
		{"turned round", sumOf(4, 0, 0, 1), long, farthest, long},
	} {
		if got := jump(t, c.r, c.word, c.n); !slices.Equal(got, c.want) {
			t.Errorf("%s: %v, want %v", c.name, got, c.want)
		}
	}
}

// S2: what the numbers of a sum tell of it, held against what chapter 4 finds.
func TestNumbersTellOntoAndOne(t *testing.T) {
	for _, c := range []struct{ states, radius int }{{2, 0}, {2, 1}, {2, 2}, {3, 0}, {3, 1}, {4, 0}, {4, 1}} {
		cells := 2*c.radius + 1
		prime := map[int]int{2: 2, 3: 3, 4: 2}[c.states]
		for number := range power(c.states, cells) {
			r := sumOf(c.states, wordOf(c.states, cells, number)...)
			numbers, _ := linear(t, r)
			left := 0
			for _, number := range numbers {
				if number%prime != 0 {
					left++
				}
			}
			if yes, _, err := onto.Onto(r); yes != (left > 0) || err != nil {
				t.Errorf("Onto of the sum %v of %d states: %v, %v", numbers, c.states, yes, err)
			}
			if yes, _, _, err := onto.One(r); yes != (left == 1) || err != nil {
				t.Errorf("One of the sum %v of %d states: %v, %v", numbers, c.states, yes, err)
			}
		}
	}
}

func wrongRules(t *testing.T) map[string]api.Rule {
	return map[string]api.Rule{
		"none":           {},
		"life":           parsed(t, "B3/S23"),
		"ant":            parsed(t, "T RL"),
		"no kind":        {Kind: 4, States: 2, Table: []int{0, 1}},
		"one state":      {Kind: api.Line, States: 1, Table: []int{0}},
		"five states":    {Kind: api.Line, States: 5, Table: []int{0, 1, 2, 3, 4}},
		"radius below":   {Kind: api.Line, States: 2, Radius: -1, Table: []int{0, 1}},
		"least radius":   {Kind: api.Line, States: 2, Radius: math.MinInt, Table: []int{0, 1}},
		"most radius":    {Kind: api.Line, States: 2, Radius: math.MaxInt, Table: []int{0, 1}},
		"too great":      {Kind: api.Line, States: 2, Radius: 6, Table: make([]int, 8192)},
		"entry missing":  {Kind: api.Line, States: 2, Radius: 1, Table: make([]int, 7)},
		"entry too many": {Kind: api.Line, States: 2, Radius: 1, Table: make([]int, 9)},
		"no table":       {Kind: api.Line, States: 2},
		"entry no state": {Kind: api.Line, States: 2, Table: []int{0, 2}},
		"entry below":    {Kind: api.Line, States: 2, Table: []int{0, -1}},
		"turns too":      {Kind: api.Line, States: 2, Table: []int{0, 1}, Turns: "L"},
	}
}

// What is wrong with a rule is told ahead of all else.
func TestErrorsOfRules(t *testing.T) {
	for name, r := range wrongRules(t) {
		if numbers, err := sums.Linear(r); plain.Told(err) != api.ErrRange || len(numbers) > 0 {
			t.Errorf("Linear of %s: %v, %v", name, numbers, err)
		}
		for _, word := range [][]int{nil, {0, 1}, {7}, make([]int, api.MaxWord+1)} {
			for _, n := range []int{-1, 0, 1} {
				if out, err := sums.Jump(r, word, n); plain.Told(err) != api.ErrRange || len(out) > 0 {
					t.Errorf("Jump of %s, %d cells, %d steps: %v, %v", name, len(word), n, out, err)
				}
			}
		}
		for _, weights := range [][]int{nil, {0}, {0, 1}, {0, 1, 2, 3, 4}, {1001, 0}} {
			if yes, err := sums.Keeps(r, weights); plain.Told(err) != api.ErrRange || yes {
				t.Errorf("Keeps of %s, %v: %v, %v", name, weights, yes, err)
			}
		}
	}
}

func TestErrorsOfJump(t *testing.T) {
	long := make([]int, api.MaxWord+1)
	wrong := slices.Clone(long)
	wrong[0] = 9
	for _, c := range []struct {
		name string
		text string
		word []int
		n    int
		want api.Errno
	}{
		{"least n", "W90", []int{0, 1}, 0, api.OK},
		{"greatest n", "W90", []int{0, 1}, farthest, api.OK},
		{"n below", "W90", []int{0, 1}, -1, api.ErrRange},
		{"n beyond", "W90", []int{0, 1}, farthest + 1, api.ErrRange},
		{"n far below", "W90", nil, math.MinInt, api.ErrRange},
		{"n far beyond", "W90", nil, math.MaxInt, api.ErrRange},
		{"no sum", "W110", []int{0, 1}, 1, api.ErrNone},
		{"no sum, no steps", "W110", []int{0, 1}, 0, api.ErrNone},
		{"no sum, no cells", "W110", nil, 1, api.ErrNone},
		{"no sum, n below", "W110", []int{0, 1}, -1, api.ErrNone},
		{"no sum, n beyond", "W110", []int{0, 1}, farthest + 1, api.ErrNone},
		{"as many cells as may be", "W90", long[:api.MaxWord], 1, api.OK},
		{"a cell more", "W90", long, 1, api.ErrFull},
		{"a cell more, no sum", "W110", long, 1, api.ErrFull},
		{"a cell more and n below", "W90", long, -1, api.ErrFull},
		{"a cell more and one no state", "W90", wrong, 1, api.ErrFull},
		{"no state", "W90", []int{0, 2}, 1, api.ErrRange},
		{"no state, no sum", "W110", []int{0, 2}, 1, api.ErrRange},
		{"below 0, no sum", "W110", []int{0, -1}, 1, api.ErrRange},
		{"three of four", "L 4 0 0123", []int{3}, 1, api.OK},
		{"four of four", "L 4 0 0123", []int{4}, 1, api.ErrRange},
	} {
		out, err := sums.Jump(parsed(t, c.text), c.word, c.n)
		if plain.Told(err) != c.want || err != nil && len(out) > 0 {
			t.Errorf("%s: %v, %v, want %v", c.name, out, err, c.want)
		}
	}
}

// Nothing that is handed in is written into, neither up to its length nor behind it, and what comes out is nobody else's.
func TestWhatIsHandedInStays(t *testing.T) {
	eachSum(func(_ *rand.Rand, r api.Rule, numbers []int) {
		table := append(slices.Clone(r.Table), 77, 78)
		word := []int{1, 0, 1, 79}
		weights := append(make([]int, r.States), 80)
		given := r
		given.Table = table[:len(r.Table)]
		got, _ := linear(t, given)
		for _, n := range []int{0, 5} {
			out := jump(t, given, word[:3], n)
			again := slices.Clone(out)
			fill(out)
			if !slices.Equal(jump(t, given, word[:3], n), again) {
				t.Fatalf("%v: what came out was kept", r)
			}
		}
		fill(got)
		if got, _ := linear(t, given); !slices.Equal(got, numbers) {
			t.Fatalf("%v: the numbers were kept", r)
		}
		if yes, err := sums.Keeps(given, weights[:r.States]); !yes || err != nil {
			t.Fatalf("Keeps(%v) without weight: %v, %v", r, yes, err)
		}
		if !slices.Equal(table, append(slices.Clone(r.Table), 77, 78)) || !slices.Equal(word, []int{1, 0, 1, 79}) ||
			!reflect.DeepEqual(weights, append(make([]int, r.States), 80)) {
			t.Fatalf("%v: something was written", r)
		}
	})
}

// fill writes over a list and all the memory behind it.
func fill(list []int) {
	list = list[:cap(list)]
	for i := range list {
		list[i] = 9
	}
}
