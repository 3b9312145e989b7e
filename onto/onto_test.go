package onto_test

import (
	"math"
	"math/rand"
	"reflect"
	"slices"
	"strconv"
	"testing"

	"eden/api"
	"eden/line"
	"eden/onto"
	"eden/plain"
	"eden/rules"
)

// radii has, for each number of states, the greatest radius of which there are at most MaxPairs words of twice the radius.
var radii = map[int]int{2: 2, 3: 1, 4: 1}

func parsed(t *testing.T, text string) api.Rule {
	t.Helper()
	r, _, err := rules.Parse(text)
	if err != nil {
		t.Fatalf("Parse(%q): %v", text, err)
	}
	return r
}

func power(base, exponent int) int {
	out := 1
	for range exponent {
		out *= base
	}
	return out
}

// ruleOf makes a rule of a function of its window.
func ruleOf(states, radius int, becomes func(window []int) int) api.Rule {
	r := api.Rule{Kind: api.Line, States: states, Radius: radius}
	for i := range power(states, 2*radius+1) {
		r.Table = append(r.Table, becomes(wordOf(i, states, 2*radius+1)))
	}
	return r
}

func anyRule(random *rand.Rand, states, radius int) api.Rule {
	return ruleOf(states, radius, func([]int) int { return random.Intn(states) })
}

// latinRule is a rule of which a window's outermost cell on one side, the others being what they are, makes every state; so it is onto.
func latinRule(random *rand.Rand, states, radius int) api.Rule {
	r := api.Rule{Kind: api.Line, States: states, Radius: radius}
	for range power(states, 2*radius) {
		r.Table = append(r.Table, random.Perm(states)...)
	}
	if random.Intn(2) == 0 {
		r, _ = rules.Mirror(r)
	}
	return r
}

func anyWord(random *rand.Rand, states, cells int) []int {
	out := make([]int, cells)
	for i := range out {
		out[i] = random.Intn(states)
	}
	return out
}

// wordOf spells a number; words of as many cells come in the order of their numbers.
func wordOf(number, states, cells int) []int {
	out := make([]int, cells)
	for i := cells - 1; i >= 0; i-- {
		out[i] = number % states
		number /= states
	}
	return out
}

func numberOf(states int, word []int) int {
	number := 0
	for _, state := range word {
		number = number*states + state
	}
	return number
}

func elementary(number int) api.Rule {
	r, _, _ := rules.Parse("W" + strconv.Itoa(number))
	return r
}

// someRules has all rules of two states and radius 1, and of each shape that there is some of any kind, some that are onto, and some that nearly are.
func someRules(t *testing.T) []api.Rule {
	t.Helper()
	random := rand.New(rand.NewSource(6))
	var out []api.Rule
	for number := range 256 {
		out = append(out, elementary(number))
	}
	for states := 2; states <= api.MaxStates; states++ {
		for radius := 0; radius <= radii[states]; radius++ {
			for range 12 {
				near := latinRule(random, states, radius)
				near.Table[random.Intn(len(near.Table))] = random.Intn(states)
				out = append(out, anyRule(random, states, radius), latinRule(random, states, radius), near)
			}
		}
	}
	return append(out, undoneRules(t)...)
}

// few bounds how many words or rings of one length are gone through.
const few = 5000

// slowOrphan goes through all short words; nil, if none of them is an orphan.
func slowOrphan(t *testing.T, r api.Rule) []int {
	t.Helper()
	for cells := 1; power(r.States, cells+2*r.Radius) <= few; cells++ {
		for number, count := range slowParents(t, r, cells) {
			if count == 0 {
				return wordOf(number, r.States, cells)
			}
		}
	}
	return nil
}

// slowParents counts the parents of all words of so many cells.
func slowParents(t *testing.T, r api.Rule, cells int) []int {
	t.Helper()
	counts := make([]int, power(r.States, cells))
	longer := cells + 2*r.Radius
	for number := range power(r.States, longer) {
		word, err := line.Apply(r, wordOf(number, r.States, longer))
		if err != nil {
			t.Fatalf("Apply(%v, ..): %v", r, err)
		}
		counts[numberOf(r.States, word)]++
	}
	return counts
}

func isOnto(t *testing.T, r api.Rule) (bool, []int) {
	t.Helper()
	yes, orphan, err := onto.Onto(r)
	if err != nil || yes != (len(orphan) == 0) {
		t.Fatalf("Onto(%v): %v, %v, %v", r, yes, orphan, err)
	}
	return yes, orphan
}

func parents(t *testing.T, r api.Rule, word []int) int {
	t.Helper()
	count, err := onto.Parents(r, word)
	if err != nil {
		t.Fatalf("Parents(%v, %v): %v", r, word, err)
	}
	return count
}

func TestExamples(t *testing.T) {
	if yes, orphan := isOnto(t, parsed(t, "W110")); yes || !slices.Equal(orphan, []int{0, 1, 0, 1, 0}) {
		t.Errorf("Onto of W110: %v, %v", yes, orphan)
	}
	if yes, _ := isOnto(t, parsed(t, "W90")); !yes {
		t.Error("Onto of W90: no")
	}
	if yes, _, _ := tellsRings(t, parsed(t, "W90")); yes {
		t.Error("One of W90: yes")
	}
	if yes, _, _ := tellsRings(t, parsed(t, "W170")); !yes {
		t.Error("One of W170: no")
	}
	if got, err := onto.Inverse(parsed(t, "W170")); err != nil || !reflect.DeepEqual(got, parsed(t, "W240")) {
		t.Errorf("Inverse of W170: %v, %v", got, err)
	}
}

// answers calls all, and tells their errors; with one, all else has to be empty.
func answers(t *testing.T, r api.Rule, word []int) map[string]api.Errno {
	t.Helper()
	yes, orphan, ontoErr := onto.Onto(r)
	count, parentsErr := onto.Parents(r, word)
	pre, a, b, preErr := onto.Pre(r)
	one, c, d, oneErr := onto.One(r)
	back, backErr := onto.Inverse(r)
	for name, bad := range map[string]bool{
		"Onto":    ontoErr != nil && (yes || len(orphan) > 0),
		"Parents": parentsErr != nil && count != 0,
		"Pre":     preErr != nil && (pre || len(a) > 0 || len(b) > 0),
		"One":     oneErr != nil && (one || len(c) > 0 || len(d) > 0),
		"Inverse": backErr != nil && !reflect.DeepEqual(back, api.Rule{}),
	} {
		if bad {
			t.Errorf("%s of %v answers something beside its error", name, r)
		}
	}
	return map[string]api.Errno{
		"Onto": plain.Told(ontoErr), "Parents": plain.Told(parentsErr), "Pre": plain.Told(preErr),
		"One": plain.Told(oneErr), "Inverse": plain.Told(backErr),
	}
}

func TestErrorsOfRules(t *testing.T) {
	good := parsed(t, "W110")
	change := func(by func(r *api.Rule)) api.Rule {
		r := good
		r.Table = slices.Clone(good.Table)
		by(&r)
		return r
	}
	wrong := map[string]api.Rule{
		"none":            {},
		"life":            parsed(t, "B3/S23"),
		"ant":             parsed(t, "T RL"),
		"no kind":         change(func(r *api.Rule) { r.Kind = math.MinInt }),
		"one state":       {Kind: api.Line, States: 1, Radius: 1, Table: []int{0}},
		"five states":     {Kind: api.Line, States: 5, Table: []int{0, 1, 2, 3, 4}},
		"no states":       change(func(r *api.Rule) { r.States = 0 }),
		"most states":     change(func(r *api.Rule) { r.States = math.MaxInt }),
		"least states":    change(func(r *api.Rule) { r.States = math.MinInt }),
		"radius below":    change(func(r *api.Rule) { r.Radius = -1 }),
		"least radius":    change(func(r *api.Rule) { r.Radius = math.MinInt }),
		"most radius":     change(func(r *api.Rule) { r.Radius = math.MaxInt }),
		"too great":       {Kind: api.Line, States: 2, Radius: 6, Table: make([]int, 8192)},
		"entry missing":   change(func(r *api.Rule) { r.Table = r.Table[:7] }),
		"entry too many":  change(func(r *api.Rule) { r.Table = append(r.Table, 0) }),
		"no table":        change(func(r *api.Rule) { r.Table = nil }),
		"entry no state":  change(func(r *api.Rule) { r.Table[7] = 2 }),
		"entry below":     change(func(r *api.Rule) { r.Table[0] = -1 }),
		"born of a line":  change(func(r *api.Rule) { r.Born = 1 }),
		"turns of a line": change(func(r *api.Rule) { r.Turns = "L" }),
		"wide and wrong":  {Kind: api.Line, States: 2, Radius: 3, Table: append(make([]int, 127), 2)},
	}
	for name, r := range wrong {
		for _, word := range [][]int{nil, {0, 1}, {7}, make([]int, api.MaxWord+1)} {
			for call, told := range answers(t, r, word) {
				if told != api.ErrRange {
					t.Errorf("%s of %s, %d cells: %v", call, name, len(word), told)
				}
			}
		}
	}
}

func TestErrorsOfPairs(t *testing.T) {
	keep := func(window []int) int { return window[len(window)/2] }
	for _, c := range []struct {
		states, radius int
		want           api.Errno
	}{
		{2, 0, api.OK}, {2, 1, api.OK}, {2, 2, api.OK}, {2, 3, api.ErrFull}, {2, 4, api.ErrFull}, {2, 5, api.ErrFull},
		{3, 0, api.OK}, {3, 1, api.OK}, {3, 2, api.ErrFull}, {3, 3, api.ErrFull},
		{4, 0, api.OK}, {4, 1, api.OK}, {4, 2, api.ErrFull},
	} {
		if power(c.states, 2*c.radius) > api.MaxPairs != (c.want == api.ErrFull) {
			t.Fatalf("%d states, radius %d: the case is wrong", c.states, c.radius)
		}
		for call, told := range answers(t, ruleOf(c.states, c.radius, keep), []int{0, 1}) {
			if told != c.want {
				t.Errorf("%s, %d states, radius %d: %v, want %v", call, c.states, c.radius, told, c.want)
			}
		}
	}
}

func TestErrorsOfWords(t *testing.T) {
	long := make([]int, api.MaxWord+1)
	wrong := slices.Clone(long)
	wrong[3] = 9
	narrow := parsed(t, "W170")
	wide := ruleOf(2, 3, func(window []int) int { return window[0] })
	for _, c := range []struct {
		name string
		r    api.Rule
		word []int
		want api.Errno
	}{
		{"none", narrow, nil, api.OK},
		{"no cells", narrow, []int{}, api.OK},
		{"as many as may be", narrow, long[:api.MaxWord], api.OK},
		{"one more", narrow, long, api.ErrFull},
		{"one more and no state", narrow, wrong, api.ErrFull},
		{"no state", narrow, []int{0, 2}, api.ErrRange},
		{"below", narrow, []int{-1}, api.ErrRange},
		{"most", narrow, []int{math.MaxInt}, api.ErrRange},
		{"least", narrow, []int{math.MinInt}, api.ErrRange},
		{"two of three", parsed(t, "L 3 0 012"), []int{2}, api.OK},
		{"three of three", parsed(t, "L 3 0 012"), []int{3}, api.ErrRange},
		{"four of four", parsed(t, "L 4 0 0123"), []int{4}, api.ErrRange},
		{"too wide and no state", wide, []int{0, 2}, api.ErrRange},
		{"too wide and one more", wide, long, api.ErrFull},
		{"too wide", wide, []int{0, 1}, api.ErrFull},
	} {
		count, err := onto.Parents(c.r, c.word)
		if plain.Told(err) != c.want || err != nil && count != 0 {
			t.Errorf("%s: %d, %v, want %v", c.name, count, err, c.want)
		}
	}
}

func TestOntoGivesTheFirstOfTheShortest(t *testing.T) {
	short, long := 0, 0
	for _, r := range someRules(t) {
		yes, orphan := isOnto(t, r)
		want := slowOrphan(t, r)
		if want != nil && !slices.Equal(orphan, want) {
			t.Errorf("Onto(%v): %v, want %v", r, orphan, want)
		}
		if want != nil {
			short++
			continue
		}
		if yes {
			continue
		}
		long++
		if parents(t, r, orphan) != 0 || parents(t, r, orphan[1:]) == 0 || parents(t, r, orphan[:len(orphan)-1]) == 0 {
			t.Errorf("Onto(%v): %v is no orphan, or one of its parts is one", r, orphan)
		}
	}
	if short < 100 || long < 10 {
		t.Errorf("%d short orphans and %d long ones: too few to tell", short, long)
	}
}

func TestOntoOfPlainRules(t *testing.T) {
	for _, c := range []struct {
		name   string
		text   string
		orphan []int
	}{
		{"all 0 of two", "L 2 0 00", []int{1}},
		{"all 1 of two", "L 2 0 11", []int{0}},
		{"all 0 of three", "L 3 0 000", []int{1}},
		{"all 1 of four", "L 4 0 1111", []int{0}},
		{"each state once", "L 4 0 0132", nil},
		{"one state twice", "L 4 0 0122", []int{3}},
		{"the first of two of one cell", "L 4 0 0111", []int{2}},
		{"one more of three", "L 3 0 120", nil},
		{"all 0", "W0", []int{1}},
		{"all three", "W128", []int{1, 0, 1}},
		{"the first of two of three cells", "W10", []int{1, 0, 1}}, // the other is 1 1 1: a 1 comes of a 0 to the left and a 1 to the right
		{"radius 2", "L 2 2 01001011000011110000111100001111", []int{0, 0, 0, 0, 0, 0, 1, 1}},
	} {
		if _, orphan := isOnto(t, parsed(t, c.text)); !slices.Equal(orphan, c.orphan) {
			t.Errorf("%s: %v, want %v", c.name, orphan, c.orphan)
		}
	}
}

// Of the rules of two states and radius 1 these are onto.
func TestOntoOfTwoStatesAndRadius1(t *testing.T) {
	onTo := []int{15, 30, 45, 51, 60, 75, 85, 86, 89, 90, 101, 102, 105, 106, 120, 135, 149, 150, 153, 154, 165, 166, 169, 170, 180, 195, 204, 210, 225, 240}
	for number := range 256 {
		if yes, _ := isOnto(t, elementary(number)); yes != slices.Contains(onTo, number) {
			t.Errorf("Onto of W%d: %v", number, yes)
		}
	}
}

func TestParents(t *testing.T) {
	for _, r := range someRules(t) {
		for cells := 0; power(r.States, cells+2*r.Radius) <= few/10; cells++ {
			for number, want := range slowParents(t, r, cells) {
				word := wordOf(number, r.States, cells)
				if got := parents(t, r, word); got != want {
					t.Fatalf("Parents(%v, %v): %d, want %d", r, word, got, want)
				}
			}
		}
	}
}

func TestParentsOfNoCells(t *testing.T) {
	for _, c := range []struct {
		text string
		want int
	}{
		{"L 2 0 00", 1}, {"L 3 0 012", 1}, {"L 4 0 3210", 1}, {"W0", 4}, {"W110", 4},
		{"L 3 1 000000000000000000000000000", 9}, {"L 2 2 00000000000000000000000000000000", 16},
	} {
		for _, word := range [][]int{nil, {}} {
			if got := parents(t, parsed(t, c.text), word); got != c.want {
				t.Errorf("%s: %d, want %d", c.text, got, c.want)
			}
		}
	}
}

// counting has words with any number of parents from 11 on. All that 0s come of is words of 0 and 1, twice as many with each cell, and the word of 2s. 1 1 1 comes, behind 0 or 1, of 3 3 0 alone, and behind 2s of 3 2 2 and 3 3 0, so that one word more ends in a 0.
func counting() api.Rule {
	return ruleOf(4, 1, func(window []int) int {
		switch window[0]*100 + window[1]*10 + window[2] {
		case 0, 1, 10, 11, 100, 101, 110, 111, 300, 301, 222:
			return 0
		case 3, 13, 103, 113, 303, 33, 133, 330, 223, 232, 233, 322:
			return 1
		}
		return 2
	})
}

// countingWord has that many parents: one is the word of 2s, and of the others 10 are there behind the first 0.
func countingWord(parents int) []int {
	others := parents - 1
	var back [][]int
	for others > 10 {
		if others%2 == 0 && others >= 20 {
			others /= 2
			back = append(back, []int{0})
		} else {
			others--
			back = append(back, []int{1, 1, 1})
		}
	}
	slices.Reverse(back)
	return slices.Concat([]int{0}, slices.Concat(back...))
}

func TestParentsAtTheBound(t *testing.T) {
	const most = 1_000_000_000_000_000_000
	zeros := make([]int, api.MaxWord)
	for _, c := range []struct {
		name string
		r    api.Rule
		word []int
		want int
		told api.Errno
	}{
		{"11", counting(), countingWord(11), 11, api.OK},
		{"12345", counting(), countingWord(12345), 12345, api.OK},
		{"1 below 10^18", counting(), countingWord(most - 1), most - 1, api.OK},
		{"10^18", counting(), countingWord(most), most, api.OK},
		{"1 above 10^18", counting(), countingWord(most + 1), 0, api.ErrFull},
		{"most of all", counting(), countingWord(math.MaxInt), 0, api.ErrFull},
		{"2^59", parsed(t, "L 2 0 00"), zeros[:59], 1 << 59, api.OK},
		{"2^60", parsed(t, "L 2 0 00"), zeros[:60], 0, api.ErrFull},
		{"2^64", parsed(t, "L 2 0 00"), zeros[:64], 0, api.ErrFull},
		{"2^1000", parsed(t, "L 2 0 00"), zeros, 0, api.ErrFull},
		{"2^59, radius 1", parsed(t, "W0"), zeros[:57], 1 << 59, api.OK},
		{"2^60, radius 1", parsed(t, "W0"), zeros[:58], 0, api.ErrFull},
		{"2^64, radius 2", ruleOf(2, 2, func([]int) int { return 0 }), zeros[:60], 0, api.ErrFull},
		{"3^37", parsed(t, "L 3 0 000"), zeros[:37], power(3, 37), api.OK},
		{"3^38", parsed(t, "L 3 0 000"), zeros[:38], 0, api.ErrFull},
		{"4^29", ruleOf(4, 1, func([]int) int { return 0 }), zeros[:27], 1 << 58, api.OK},
		{"4^30", ruleOf(4, 1, func([]int) int { return 0 }), zeros[:28], 0, api.ErrFull},
		{"as many as there are", parsed(t, "L 3 0 120"), zeros, 1, api.OK},
		{"too many, and then none", parsed(t, "L 2 0 00"), append(make([]int, 200), 1), 0, api.OK},
	} {
		got, err := onto.Parents(c.r, c.word)
		if got != c.want || plain.Told(err) != c.told {
			t.Errorf("%s: %d, %v, want %d, %v", c.name, got, err, c.want, c.told)
		}
	}
}

// Of 0s come words of 0 and 1, which are very many, and a word of 2s; a 1 comes of 2 2 3 alone.
func TestParentsThatComeToFew(t *testing.T) {
	r := ruleOf(4, 1, func(window []int) int {
		switch {
		case slices.Max(window) <= 1, slices.Min(window) == 2 && slices.Max(window) == 2:
			return 0
		case slices.Equal(window, []int{2, 2, 3}):
			return 1
		}
		return 3
	})
	zeros := make([]int, 900)
	if count, err := onto.Parents(r, zeros); count != 0 || plain.Told(err) != api.ErrFull {
		t.Errorf("of 0s: %d, %v", count, err)
	}
	if got := parents(t, r, append(zeros, 1)); got != 1 {
		t.Errorf("with a 1 behind them: %d", got)
	}
}
