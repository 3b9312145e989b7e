package sums_test

import (
	"math"
	"math/rand"
	"slices"
	"testing"

	"eden/api"
	"eden/line"
	"eden/plain"
	"eden/sums"
)

func keeps(t *testing.T, r api.Rule, weights ...int) bool {
	t.Helper()
	yes, err := sums.Keeps(r, weights)
	if err != nil {
		t.Fatalf("Keeps(%v, %v): %v", r, weights, err)
	}
	return yes
}

func weighed(word, weights []int) int {
	sum := 0
	for _, state := range word {
		sum += weights[state]
	}
	return sum
}

// weighsAllRings is the promise word by word: all rings are weighed, of as many cells as there are words of twice the radius. A longer ring goes through one of these twice, and is two rings.
func weighsAllRings(t *testing.T, r api.Rule, weights []int) bool {
	t.Helper()
	for cells := 1; cells <= power(r.States, 2*r.Radius); cells++ {
		for number := range power(r.States, cells) {
			ring := wordOf(r.States, cells, number)
			stepped, err := line.Step(r, ring)
			if err != nil {
				t.Fatal(err)
			}
			if weighed(ring, weights) != weighed(stepped, weights) {
				return false
			}
		}
	}
	return true
}

const never = math.MinInt

// slowKeeps asks the same of rules with more rings: the most that a ring grows by, from each word of twice the radius, cell by cell.
func slowKeeps(r api.Rule, weights []int) bool {
	words := power(r.States, 2*r.Radius)
	for _, sign := range []int{1, -1} {
		for start := range words {
			most := slices.Repeat([]int{never}, words)
			most[start] = 0
			for range words {
				most = grown(r, weights, most, sign)
				if most[start] > 0 {
					return false
				}
			}
		}
	}
	return true
}

func grown(r api.Rule, weights, most []int, sign int) []int {
	out := slices.Repeat([]int{never}, len(most))
	for word, was := range most {
		if was == never {
			continue
		}
		for state := range r.States {
			window := word*r.States + state
			middle := window / power(r.States, r.Radius) % r.States
			to := window % len(most)
			out[to] = max(out[to], was+sign*(weights[r.Table[window]]-weights[middle]))
		}
	}
	return out
}

// keepingRules has rules that keep something: turns, traffic of two, three and four states, and exchanges.
func keepingRules() []api.Rule {
	traffic := func(states, most int) api.Rule {
		return ruleOf(states, 1, func(w []int) int {
			return w[1] + min(w[0], most-min(most, w[1])) - min(w[1], most-min(most, w[2]))
		})
	}
	return []api.Rule{
		elementary(184), elementary(226), elementary(170), elementary(204), elementary(240), elementary(51), elementary(255),
		traffic(3, 2), traffic(4, 3), traffic(2, 1),
		sumOf(2, 0, 0, 0, 0, 1), sumOf(2, 0, 1, 0, 0, 0), sumOf(3, 0, 0, 1), sumOf(3, 0, 2, 0), sumOf(3, 2), sumOf(4, 3), sumOf(4, 0, 3, 0),
		ruleOf(3, 0, func(w []int) int { return []int{1, 0, 2}[w[0]] }),
		ruleOf(4, 0, func(w []int) int { return []int{2, 3, 0, 0}[w[0]] }),
		// Cars that look two places ahead.
		ruleOf(2, 2, func(w []int) int {
			goes := func(a, b, c int) int { return a * (1 - b) * (1 - c) }
			return w[2] + goes(w[1], w[2], w[3]) - goes(w[2], w[3], w[4])
		}),
	}
}

func TestKeepsOfKeepingRules(t *testing.T) {
	for _, r := range keepingRules() {
		for _, weights := range [][]int{{0, 1, 2, 3}, {5, 4, 3, 2}, {1, 1, 2, 2}, {0, 0, 1, 1}, {1, 0, 1, 0}, {0, 1, 0, 0}, {0, 1, 1, 0}, {-1000, 1000, 0, 7}, {3, 3, 3, 3}} {
			want := slowKeeps(r, weights[:r.States])
			if got := keeps(t, r, weights[:r.States]...); got != want {
				t.Errorf("Keeps(%v, %v): %v, want %v", r, weights[:r.States], got, want)
			}
		}
	}
}

// A rule that keeps something, and does otherwise at one window alone.
func TestKeepsButForOneWindow(t *testing.T) {
	random := rand.New(rand.NewSource(14))
	for _, r := range keepingRules() {
		for _, weights := range [][]int{{0, 1, 2, 3}, {0, 1, 1, 1}, {2, 0, 2, 1}} {
			for window, state := range r.Table {
				r.Table[window] = (state + 1 + random.Intn(r.States-1)) % r.States
				want := slowKeeps(r, weights[:r.States])
				if got := keeps(t, r, weights[:r.States]...); got != want {
					t.Errorf("Keeps(%v, %v): %v, want %v", r, weights[:r.States], got, want)
				}
				r.Table[window] = state
			}
		}
	}
}

func TestKeepsOfAllRules(t *testing.T) {
	for _, c := range []struct {
		states, radius int
		weights        []int
	}{
		{2, 0, []int{0, 1}}, {3, 0, []int{0, 1, 2}}, {3, 0, []int{1, 2, 1}}, {3, 0, []int{5, 5, -5}}, {4, 0, []int{0, 1, 1, 2}}, {4, 0, []int{3, 2, 1, 0}},
		{2, 1, []int{0, 1}}, {2, 1, []int{1, 0}}, {2, 1, []int{-1000, 1000}}, {2, 1, []int{4, 4}}, {2, 1, []int{0, 0}},
	} {
		entries := power(c.states, 2*c.radius+1)
		for number := range power(c.states, entries) {
			r := api.Rule{Kind: api.Line, States: c.states, Radius: c.radius, Table: wordOf(c.states, entries, number)}
			if got, want := keeps(t, r, c.weights...), weighsAllRings(t, r, c.weights); got != want {
				t.Errorf("Keeps(%v, %v): %v, want %v", r, c.weights, got, want)
			}
		}
	}
}

// Rules of three states, of which all rings of up to 9 cells are weighed.
func TestKeepsWeighsRings(t *testing.T) {
	for _, r := range keepingRules() {
		if r.States != 3 || r.Radius != 1 {
			continue
		}
		for _, weights := range [][]int{{0, 1, 2}, {2, 1, 0}, {0, 1, 1}, {7, 7, 7}} {
			if got, want := keeps(t, r, weights...), weighsAllRings(t, r, weights); got != want {
				t.Errorf("Keeps(%v, %v): %v, want %v", r, weights, got, want)
			}
		}
	}
}

func TestKeepsOfTwoStatesAndRadius1(t *testing.T) {
	kept := []int{170, 184, 204, 226, 240}
	for number := range 256 {
		for _, weights := range [][]int{{0, 1}, {1, 0}, {-7, 9}, {-1000, 1000}} {
			if got := keeps(t, elementary(number), weights...); got != slices.Contains(kept, number) {
				t.Errorf("Keeps of W%d, %v: %v", number, weights, got)
			}
		}
		if !keeps(t, elementary(number), 3, 3) {
			t.Errorf("Keeps of W%d, 3 3: no", number)
		}
	}
}

// Of the rules of two states that look at four cells 22 keep how many are 1 (Boccara and Fuks).
func TestKeepsOfFourCells(t *testing.T) {
	count := 0
	for number := range 1 << 16 {
		r := api.Rule{Kind: api.Line, States: 2, Radius: 2, Table: wordOf(2, 16, number)}
		r.Table = append(r.Table, r.Table...)
		if keeps(t, r, 0, 1) {
			count++
		}
	}
	if count != 22 {
		t.Errorf("%d rules keep", count)
	}
}

// The greatest tables: turns keep whatever is weighed, and one window of them that does otherwise keeps nothing.
func TestKeepsOfGreatTables(t *testing.T) {
	random := rand.New(rand.NewSource(15))
	for states, radius := range radii {
		for cell := range 2*radius + 1 {
			numbers := make([]int, 2*radius+1)
			numbers[cell] = 1
			r := sumOf(states, numbers...)
			weights := []int{-1000, 3, 1000, 4}[:states]
			if !keeps(t, r, weights...) {
				t.Errorf("%d states: the turn by %d does not keep", states, cell-radius)
			}
			window := random.Intn(len(r.Table))
			r.Table[window] = (r.Table[window] + 1) % states
			if keeps(t, r, weights...) {
				t.Errorf("%d states: the turn by %d keeps, otherwise at window %d", states, cell-radius, window)
			}
		}
	}
}

func TestErrorsOfKeeps(t *testing.T) {
	for _, c := range []struct {
		name    string
		text    string
		weights []int
		want    api.Errno
	}{
		{"none", "W204", nil, api.ErrShape},
		{"empty", "W204", []int{}, api.ErrShape},
		{"too few", "W204", []int{0}, api.ErrShape},
		{"too many", "W204", []int{0, 1, 0}, api.ErrShape},
		{"too many of four", "L 4 0 0123", []int{0, 1, 2, 3, 4}, api.ErrShape},
		{"too few of four", "L 4 0 0123", []int{0, 1, 2}, api.ErrShape},
		{"too few, and out of range", "W204", []int{1001}, api.ErrShape},
		{"too many, and out of range", "W204", []int{0, 1, -1001}, api.ErrShape},
		{"least", "W204", []int{-1000, 0}, api.OK},
		{"greatest", "W204", []int{0, 1000}, api.OK},
		{"below", "W204", []int{-1001, 0}, api.ErrRange},
		{"beyond", "W204", []int{0, 1001}, api.ErrRange},
		{"the last of four beyond", "L 4 0 0123", []int{0, 1, 2, 1001}, api.ErrRange},
		{"far below", "W204", []int{0, math.MinInt}, api.ErrRange},
		{"far beyond", "W204", []int{math.MaxInt, 0}, api.ErrRange},
		{"beyond, and alike", "W110", []int{1001, 1001}, api.ErrRange},
	} {
		yes, err := sums.Keeps(parsed(t, c.text), c.weights)
		if plain.Told(err) != c.want || yes != (err == nil) {
			t.Errorf("%s: %v, %v, want %v", c.name, yes, err, c.want)
		}
	}
}
