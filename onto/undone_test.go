package onto_test

import (
	"math/rand"
	"reflect"
	"slices"
	"testing"

	"eden/api"
	"eden/line"
	"eden/onto"
	"eden/plain"
	"eden/rules"
)

// turning takes a cell as two bits. The low bits go one cell to the right; the high ones do so, too, or stay, and are turned by the low bit of the cell to the right. To undo that, one has to look 3 cells far, or 2, if the high ones stay.
func turning(stay bool) api.Rule {
	return ruleOf(4, 1, func(window []int) int {
		left, middle, right := window[0], window[1], window[2]
		high := left / 2
		if stay {
			high = middle / 2
		}
		return (high^right%2)*2 + left%2
	})
}

// undoneRules has rules that tell rings apart, of each shape that there is.
func undoneRules(t *testing.T) []api.Rule {
	t.Helper()
	out := []api.Rule{turning(true), turning(false)}
	for _, text := range []string{
		"L 2 0 10", "L 3 0 120", "L 4 0 1302",
		"L 2 2 00000000000000001111111111111111",
		"L 2 2 00001111000011110000111101001011",
		"L 2 2 00110110001100110011001100110011",
		"L 2 2 00000000111111110011000011001111",
		"L 3 1 000000000111111111222222222",
		"L 3 1 012012012012012012012012102",
		"L 3 1 012012012012012012012102102",
		"L 3 1 012012102012012102012012102",
		"L 4 1 0101010132323232010101013232323201010101323232320101010132323232",
	} {
		r := parsed(t, text)
		m, err := rules.Mirror(r)
		if err != nil {
			t.Fatalf("Mirror(%v): %v", r, err)
		}
		out = append(out, r, m)
	}
	return out
}

func step(t *testing.T, r api.Rule, word []int) []int {
	t.Helper()
	out, err := line.Step(r, word)
	if err != nil {
		t.Fatalf("Step(%v, %v): %v", r, word, err)
	}
	return out
}

func apply(t *testing.T, r api.Rule, word []int) []int {
	t.Helper()
	out, err := line.Apply(r, word)
	if err != nil {
		t.Fatalf("Apply(%v, %v): %v", r, word, err)
	}
	return out
}

func tellsWords(t *testing.T, r api.Rule) (bool, []int, []int) {
	t.Helper()
	yes, a, b, err := onto.Pre(r)
	if err != nil || yes != (len(a) == 0) || yes != (len(b) == 0) {
		t.Fatalf("Pre(%v): %v, %v, %v, %v", r, yes, a, b, err)
	}
	return yes, a, b
}

func tellsRings(t *testing.T, r api.Rule) (bool, []int, []int) {
	t.Helper()
	yes, a, b, err := onto.One(r)
	if err != nil || yes != (len(a) == 0) || yes != (len(b) == 0) {
		t.Fatalf("One(%v): %v, %v, %v, %v", r, yes, a, b, err)
	}
	return yes, a, b
}

// areUnlike tells whether two words may be shown as unlike ones of one length.
func areUnlike(a, b []int) bool {
	return len(a) == len(b) && len(a) <= api.MaxWord && !slices.Equal(a, b)
}

// meet tells whether two words of so many cells have the same key.
func meet(r api.Rule, cells int, key func(word []int) int) bool {
	seen := map[int]int{}
	for number := range power(r.States, cells) {
		k := key(wordOf(number, r.States, cells))
		if seen[k]++; seen[k] > 1 {
			return true
		}
	}
	return false
}

func TestPre(t *testing.T) {
	for _, r := range someRules(t) {
		yes, a, b := tellsWords(t, r)
		outer := 2 * r.Radius
		if !yes {
			if !areUnlike(a, b) || len(a) < outer || !slices.Equal(apply(t, r, a), apply(t, r, b)) ||
				!slices.Equal(a[:outer], b[:outer]) || !slices.Equal(a[len(a)-outer:], b[len(b)-outer:]) {
				t.Errorf("Pre(%v): %v and %v do not show it", r, a, b)
			}
			continue
		}
		for cells := 2*outer + 1; power(r.States, cells) <= few; cells++ {
			if meet(r, cells, func(word []int) int {
				return numberOf(r.States, slices.Concat(word[:outer], word[cells-outer:], apply(t, r, word)))
			}) {
				t.Errorf("Pre(%v): yes, but two words of %d cells become the same", r, cells)
			}
		}
	}
}

func TestPreOfPlainRules(t *testing.T) {
	for _, c := range []struct {
		text string
		want bool
	}{
		{"L 2 0 01", true}, {"L 2 0 00", false}, {"L 3 0 011", false}, {"L 3 0 201", true}, {"L 4 0 0120", false},
		{"W0", false}, {"W90", true}, {"W30", true}, {"W110", false}, {"W204", true}, {"W232", false},
	} {
		if yes, _, _ := tellsWords(t, parsed(t, c.text)); yes != c.want {
			t.Errorf("Pre of %s: %v", c.text, yes)
		}
	}
}

func TestOne(t *testing.T) {
	for _, r := range someRules(t) {
		yes, a, b := tellsRings(t, r)
		if !yes {
			if !areUnlike(a, b) || !slices.Equal(step(t, r, a), step(t, r, b)) {
				t.Errorf("One(%v): %v and %v do not show it", r, a, b)
			}
			continue
		}
		for cells := 1; power(r.States, cells) <= few; cells++ {
			if meet(r, cells, func(word []int) int { return numberOf(r.States, step(t, r, word)) }) {
				t.Errorf("One(%v): yes, but two rings of %d cells become the same", r, cells)
			}
		}
	}
}

// Of the rules of two states and radius 1 these tell rings apart.
func TestOneOfTwoStatesAndRadius1(t *testing.T) {
	apart := []int{15, 51, 85, 170, 204, 240}
	for number := range 256 {
		if yes, _, _ := tellsRings(t, elementary(number)); yes != slices.Contains(apart, number) {
			t.Errorf("One of W%d: %v", number, yes)
		}
	}
}

func TestOneOfUndoneRules(t *testing.T) {
	for _, r := range undoneRules(t) {
		if yes, a, b := tellsRings(t, r); !yes {
			t.Errorf("One(%v): no, %v and %v", r, a, b)
		}
	}
}

// isWidened tells whether a rule looks at no outermost cell.
func isWidened(r api.Rule) bool {
	if r.Radius == 0 {
		return false
	}
	inner := len(r.Table) / r.States
	for window, state := range r.Table {
		if state != r.Table[window%inner/r.States*r.States] {
			return false
		}
	}
	return true
}

// undoes tells whether a rule changes nothing behind and ahead of another, by what they are together, if that is no rule with too great a table, and by long rings.
func undoes(t *testing.T, back, r api.Rule) bool {
	t.Helper()
	keep := ruleOf(r.States, 0, func(window []int) int { return window[0] })
	same, tooWide := line.Widen(keep, back.Radius+r.Radius)
	if tooWide == nil {
		behind, _ := line.Compose(r, back)
		ahead, _ := line.Compose(back, r)
		if !reflect.DeepEqual(behind, same) || !reflect.DeepEqual(ahead, same) {
			return false
		}
	}
	random := rand.New(rand.NewSource(7))
	for _, cells := range []int{1, 2, 3, 4, 5, 30, api.MaxWord, api.MaxWord, api.MaxWord} {
		ring := anyWord(random, r.States, cells)
		if !slices.Equal(step(t, back, step(t, r, ring)), ring) || !slices.Equal(step(t, r, step(t, back, ring)), ring) {
			return false
		}
	}
	return true
}

func TestInverse(t *testing.T) {
	for _, r := range someRules(t) {
		back, err := onto.Inverse(r)
		if yes, _, _ := tellsRings(t, r); !yes {
			if plain.Told(err) != api.ErrNone || !reflect.DeepEqual(back, api.Rule{}) {
				t.Errorf("Inverse(%v): %v, %v, want ErrNone", r, back, err)
			}
			continue
		}
		if plain.Told(err) == api.ErrFull {
			continue
		}
		if err != nil || rules.Check(back) != nil || back.States != r.States || !undoes(t, back, r) {
			t.Errorf("Inverse(%v): %v, %v does not undo it", r, back, err)
			continue
		}
		if isWidened(back) {
			t.Errorf("Inverse(%v): %v has not the least radius", r, back)
		}
	}
}

func TestInverseOfPlainRules(t *testing.T) {
	for _, c := range []struct{ text, want string }{
		{"L 2 0 01", "L 2 0 01"}, {"L 2 0 10", "L 2 0 10"}, {"L 3 0 120", "L 3 0 201"}, {"L 4 0 1302", "L 4 0 2031"},
		{"W170", "W240"}, {"W240", "W170"}, {"W204", "L 2 0 01"}, {"W51", "L 2 0 10"}, {"W15", "W85"}, {"W85", "W15"},
		{"L 2 2 00001111000011110000111100001111", "L 2 0 01"},
		{"L 2 2 00110011001100110011001100110011", "W240"},
		{"L 2 2 00000000000000001111111111111111", "L 2 2 01010101010101010101010101010101"},
		{"L 2 2 00001111000011110000111101001011", "L 2 2 00001111000011110000111101001011"},
		{"L 3 1 111222000111222000111222000", "L 3 0 201"},
	} {
		back, err := onto.Inverse(parsed(t, c.text))
		if err != nil || !reflect.DeepEqual(back, parsed(t, c.want)) {
			t.Errorf("Inverse of %s: %v, %v, want %s", c.text, back, err, c.want)
		}
	}
}

// The greatest tables that there are have 2187 entries of three states, radius 3, and 1024 of four, radius 2.
func TestInverseAtItsBound(t *testing.T) {
	for _, c := range []struct {
		name   string
		r      api.Rule
		radius int
		want   api.Errno
	}{
		{"two states", parsed(t, "L 2 2 00110110001100110011001100110011"), 4, api.OK},
		{"three states", parsed(t, "L 3 1 012012012012012012012012102"), 3, api.OK},
		{"three states, wider", parsed(t, "L 3 1 012012012012012012012102102"), 0, api.ErrFull},
		{"four states", turning(true), 2, api.OK},
		{"four states, wider", turning(false), 0, api.ErrFull},
	} {
		back, err := onto.Inverse(c.r)
		if back.Radius != c.radius || plain.Told(err) != c.want {
			t.Errorf("%s: radius %d, %v, want %d, %v", c.name, back.Radius, err, c.radius, c.want)
		}
		if err != nil && !reflect.DeepEqual(back, api.Rule{}) {
			t.Errorf("%s: %v beside an error", c.name, back)
		}
	}
}

// One that is not undone by a table of MaxTable entries is undone all the same: each of its rings comes again.
func TestRingsOfUndoneRulesComeAgain(t *testing.T) {
	random := rand.New(rand.NewSource(8))
	for _, r := range undoneRules(t) {
		for cells := 1; cells <= 6; cells++ {
			ahead, _, err := line.Cycle(r, anyWord(random, r.States, cells))
			if ahead != 0 || err != nil {
				t.Errorf("%v: %d cells come again behind %d steps, %v", r, cells, ahead, err)
			}
		}
	}
}

func TestGardenOfEden(t *testing.T) {
	random := rand.New(rand.NewSource(9))
	for _, r := range someRules(t) {
		yes, orphan := isOnto(t, r)
		pre, _, _ := tellsWords(t, r)
		one, _, _ := tellsRings(t, r)
		if yes != pre {
			t.Errorf("%v: Onto says %v, Pre %v", r, yes, pre)
		}
		if one && !yes {
			t.Errorf("%v: One says yes, Onto gives %v", r, orphan)
		}
		if !yes {
			if got := parents(t, r, orphan); got != 0 {
				t.Errorf("%v: the orphan %v has %d parents", r, orphan, got)
			}
			continue
		}
		for _, cells := range []int{0, 1, 2, 7, 40, api.MaxWord} {
			if got, want := parents(t, r, anyWord(random, r.States, cells)), power(r.States, 2*r.Radius); got != want {
				t.Errorf("%v: a word of %d cells has %d parents, want %d", r, cells, got, want)
			}
		}
	}
}

// Nothing that is handed in is written into, neither up to its length nor behind it, and the same is answered again.
func TestWhatIsHandedInStays(t *testing.T) {
	for _, r := range someRules(t) {
		table := append(slices.Clone(r.Table), 77, 78)
		word := []int{1, 0, 1, 79}
		given := r
		given.Table = table[:len(r.Table)]
		first := answers(t, given, word[:3])
		if !slices.Equal(table, append(slices.Clone(r.Table), 77, 78)) || !slices.Equal(word, []int{1, 0, 1, 79}) {
			t.Fatalf("%v: something was written", r)
		}
		if again := answers(t, r, word[:3]); !reflect.DeepEqual(first, again) {
			t.Errorf("%v: %v, and then %v", r, first, again)
		}
	}
}

// fill writes over a list and all the memory behind it.
func fill(list []int) {
	list = list[:cap(list)]
	for i := range list {
		list[i] = 9
	}
}

func TestWhatComesOutIsFresh(t *testing.T) {
	for _, r := range someRules(t) {
		kept := slices.Clone(r.Table)
		_, a, b := tellsWords(t, r)
		was := slices.Clone(b)
		fill(a)
		_, c, d := tellsRings(t, r)
		wasRing := slices.Clone(d)
		fill(c)
		if !slices.Equal(b, was) || !slices.Equal(d, wasRing) {
			t.Fatalf("%v: two lists share memory", r)
		}
		_, orphan := isOnto(t, r)
		back, err := onto.Inverse(r)
		wasBack := slices.Clone(back.Table)
		fill(orphan)
		fill(back.Table)
		again, secondErr := onto.Inverse(r)
		if !slices.Equal(again.Table, wasBack) || plain.Told(err) != plain.Told(secondErr) || !slices.Equal(r.Table, kept) {
			t.Fatalf("%v: what came out was kept", r)
		}
	}
}
