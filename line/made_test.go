package line_test

import (
	"math"
	"math/rand"
	"reflect"
	"slices"
	"testing"

	"eden/api"
	"eden/line"
	"eden/plain"
	"eden/rules"
)

func compose(t *testing.T, a, b api.Rule) api.Rule {
	t.Helper()
	out, err := line.Compose(a, b)
	if err != nil {
		t.Fatalf("Compose(%v, %v): %v", a, b, err)
	}
	return out
}

func widen(t *testing.T, r api.Rule, radius int) api.Rule {
	t.Helper()
	out, err := line.Widen(r, radius)
	if err != nil {
		t.Fatalf("Widen(%v, %d): %v", r, radius, err)
	}
	return out
}

// isMade tells whether a rule of a line has that shape, and nothing else in it.
func isMade(r api.Rule, states, radius int) bool {
	want := api.Rule{Kind: api.Line, States: states, Radius: radius, Table: r.Table}
	return reflect.DeepEqual(r, want) && rules.Check(r) == nil && len(r.Table) == power(states, 2*radius+1)
}

// eachPair calls try with rules of all radii that are at most that together.
func eachPair(try func(random *rand.Rand, a, b api.Rule)) {
	random := rand.New(rand.NewSource(4))
	for states := 2; states <= api.MaxStates; states++ {
		for i := 0; i <= radii[states]; i++ {
			for k := 0; i+k <= radii[states]; k++ {
				try(random, anyRule(random, states, i), anyRule(random, states, k))
			}
		}
	}
}

func TestCompose(t *testing.T) {
	eachPair(func(random *rand.Rand, a, b api.Rule) {
		both := compose(t, a, b)
		if !isMade(both, a.States, a.Radius+b.Radius) {
			t.Fatalf("Compose(%v, %v) is %v", a, b, both)
		}
		for _, cells := range []int{0, 1, 2, 3, 5, 14, 200} {
			word := anyWord(random, a.States, cells)
			if got, want := step(t, both, word), slowStep(b, slowStep(a, word)); !same(got, want) {
				t.Errorf("%v behind %v, of %v: %v, want %v", b, a, word, got, want)
			}
			if got, want := apply(t, both, word), apply(t, b, apply(t, a, word)); !same(got, want) {
				t.Errorf("%v applied behind %v, of %v: %v, want %v", b, a, word, got, want)
			}
		}
	})
}

func TestComposeOfPlainRules(t *testing.T) {
	left, right := parsed(t, "W170"), parsed(t, "W240")
	if got, want := compose(t, left, right), widen(t, parsed(t, "W204"), 2); !reflect.DeepEqual(got, want) {
		t.Errorf("there and back: %v, want %v", got, want)
	}
	next, zero := parsed(t, "L 3 0 120"), parsed(t, "L 3 0 000")
	if got := compose(t, next, zero); !same(got.Table, []int{0, 0, 0}) {
		t.Errorf("all 0 behind one more: %v", got)
	}
	if got := compose(t, zero, next); !same(got.Table, []int{1, 1, 1}) {
		t.Errorf("one more behind all 0: %v", got)
	}
}

func TestErrorsOfCompose(t *testing.T) {
	random := rand.New(rand.NewSource(5))
	of := func(states, radius int) api.Rule { return anyRule(random, states, radius) }
	for _, c := range []struct {
		a, b api.Rule
		want api.Errno
	}{
		{of(2, 0), of(3, 0), api.ErrShape},
		{of(3, 1), of(2, 1), api.ErrShape},
		{of(2, 5), of(3, 3), api.ErrShape},
		{of(4, 2), of(2, 5), api.ErrShape},
		{of(2, 5), of(2, 0), api.OK},
		{of(2, 0), of(2, 5), api.OK},
		{of(2, 3), of(2, 2), api.OK},
		{of(2, 3), of(2, 3), api.ErrFull},
		{of(2, 5), of(2, 1), api.ErrFull},
		{of(2, 1), of(2, 5), api.ErrFull},
		{of(2, 5), of(2, 5), api.ErrFull},
		{of(3, 2), of(3, 1), api.OK},
		{of(3, 2), of(3, 2), api.ErrFull},
		{of(3, 3), of(3, 3), api.ErrFull},
		{of(4, 1), of(4, 1), api.OK},
		{of(4, 2), of(4, 1), api.ErrFull},
		{of(4, 1), of(4, 2), api.ErrFull},
	} {
		got, err := line.Compose(c.a, c.b)
		if plain.Told(err) != c.want || err != nil && !reflect.DeepEqual(got, api.Rule{}) {
			t.Errorf("%d states, radius %d, and %d, %d: %v, %v, want %v", c.a.States, c.a.Radius, c.b.States, c.b.Radius, got, err, c.want)
		}
	}
	for name, r := range wrongRules(t) {
		for _, other := range []api.Rule{of(2, 1), of(3, 1), of(2, 5), r} {
			_, first := line.Compose(r, other)
			_, second := line.Compose(other, r)
			if plain.Told(first) != api.ErrRange || plain.Told(second) != api.ErrRange {
				t.Errorf("%s: %v, %v, want ErrRange", name, first, second)
			}
		}
	}
}

func TestWiden(t *testing.T) {
	eachRule(func(random *rand.Rand, r api.Rule) {
		for radius := r.Radius; radius <= radii[r.States]; radius++ {
			wide := widen(t, r, radius)
			if !isMade(wide, r.States, radius) {
				t.Fatalf("Widen(%v, %d) is %v", r, radius, wide)
			}
			if radius == r.Radius && !same(wide.Table, r.Table) {
				t.Errorf("Widen(%v) by none is %v", r, wide)
			}
			for _, cells := range []int{0, 1, 2, 3, 13, 200} {
				word := anyWord(random, r.States, cells)
				if got, want := step(t, wide, word), slowStep(r, word); !same(got, want) {
					t.Errorf("Widen(%v, %d), of %v: %v, want %v", r, radius, word, got, want)
				}
			}
		}
	})
}

func TestWidenOfPlainRules(t *testing.T) {
	if got := widen(t, parsed(t, "L 2 0 10"), 1); !reflect.DeepEqual(got, parsed(t, "W51")) {
		t.Errorf("the other state, of radius 1: %v", got)
	}
	if got := widen(t, parsed(t, "L 2 0 01"), 1); !reflect.DeepEqual(got, parsed(t, "W204")) {
		t.Errorf("the same state, of radius 1: %v", got)
	}
}

func TestErrorsOfWiden(t *testing.T) {
	eachRule(func(_ *rand.Rand, r api.Rule) {
		most := radii[r.States]
		for radius, want := range map[int]api.Errno{
			math.MinInt: api.ErrRange, -1: api.ErrRange, r.Radius - 1: api.ErrRange,
			r.Radius: api.OK, most: api.OK,
			most + 1: api.ErrFull, 31: api.ErrFull, 32: api.ErrFull, 64: api.ErrFull,
			math.MaxInt / 2: api.ErrFull, math.MaxInt - 1: api.ErrFull, math.MaxInt: api.ErrFull,
		} {
			got, err := line.Widen(r, radius)
			if plain.Told(err) != want || err != nil && !reflect.DeepEqual(got, api.Rule{}) {
				t.Errorf("%d states, radius %d to %d: %v, want %v", r.States, r.Radius, radius, err, want)
			}
		}
	})
	for name, r := range wrongRules(t) {
		for _, radius := range []int{math.MinInt, 0, 1, 5, 1000, math.MaxInt} {
			if got, err := line.Widen(r, radius); plain.Told(err) != api.ErrRange || !reflect.DeepEqual(got, api.Rule{}) {
				t.Errorf("%s to %d: %v, %v, want ErrRange", name, radius, got, err)
			}
		}
	}
}

// Tables and words with more memory behind them than their length: none of it may change, nor come out.
func TestMemoryIsTheCallers(t *testing.T) {
	table := append([]int{0, 1, 1, 1, 0, 1, 1, 0}, 7, 7, 7)
	cells := append([]int{0, 1, 1, 0, 1}, 9, 9, 9)
	oldTable, oldCells := slices.Clone(table), slices.Clone(cells)
	r := api.Rule{Kind: api.Line, States: 2, Radius: 1, Table: table[:8]}
	word := cells[:5]
	var out [][]int
	for range 2 {
		out = append(out, step(t, r, word), run(t, r, word, 0), run(t, r, word, 3), apply(t, r, word))
		out = append(out, widen(t, r, 1).Table, widen(t, r, 2).Table, compose(t, r, r).Table)
		if _, _, err := line.Cycle(r, word); err != nil {
			t.Fatal(err)
		}
	}
	same0 := parsed(t, "L 2 0 01")
	out = append(out, compose(t, r, same0).Table, compose(t, same0, r).Table, apply(t, same0, word))
	old := make([][]int, len(out))
	for i := range out {
		old[i] = slices.Clone(out[i])
	}
	for i := range out {
		for k := range out[i] {
			out[i][k] = 100 + i
		}
		for _, extra := range out[i][:cap(out[i])][len(out[i]):] {
			if extra == 7 || extra == 9 {
				t.Errorf("answer %d has memory that was handed in", i)
			}
		}
		for k := i + 1; k < len(out); k++ {
			if !same(out[k], old[k]) {
				t.Fatalf("answers %d and %d share memory", i, k)
			}
		}
	}
	if !same(table, oldTable) || !same(cells, oldCells) {
		t.Error("what was handed in is written into")
	}
}
