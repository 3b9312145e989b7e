package chips_test

import (
	"math/rand"
	"slices"
	"testing"

	"eden/api"
	"eden/chips"
	"eden/plain"
	"eden/sand"
)

// distances of all places from one, by edges.
func distances(g api.Graph, at int) []int {
	out := slices.Repeat([]int{g.Places}, g.Places)
	out[at] = 0
	for range g.Places {
		for _, e := range g.Edges {
			out[e.A] = min(out[e.A], out[e.B]+1)
			out[e.B] = min(out[e.B], out[e.A]+1)
		}
	}
	return out
}

// madeSets keeps what setsOf has made, as it is asked often.
var madeSets = map[[2]int][][]int{}

// setsOf are all sets of places without one, as scripts.
func setsOf(g api.Graph, at int) [][]int {
	key := [2]int{g.Places, at}
	if madeSets[key] == nil {
		madeSets[key] = slices.DeleteFunc(boxed(g.Places, 0, 1), func(set []int) bool { return set[at] == 1 || sumOf(set) == 0 })
	}
	return madeSets[key]
}

// canGive tells whether all of a set can give a chip over each edge that leads out of it, none of them being in debt then.
func canGive(g api.Graph, d, set []int) bool {
	after := given(g, d, set)
	for place, in := range set {
		if in == 1 && after[place] < 0 {
			return false
		}
	}
	return true
}

// slowly reduces as the books do: the farthest places are brought out of debt first, by what is nearer; then sets give as long as one can.
func slowly(g api.Graph, d []int, at int) []int {
	far := distances(g, at)
	for layer := slices.Max(far); layer > 0; layer-- {
		nearer := make([]int, g.Places)
		for place := range nearer {
			if far[place] < layer {
				nearer[place] = 1
			}
		}
		for place := 0; place < g.Places; place++ {
			for far[place] == layer && d[place] < 0 {
				d = given(g, d, nearer)
			}
		}
	}
	sets := setsOf(g, at)
	for again := true; again; {
		again = false
		for _, set := range sets {
			for canGive(g, d, set) {
				d = given(g, d, set)
				again = true
			}
		}
	}
	return d
}

// isReduced asks what D2 says of Reduced, word by word.
func isReduced(t *testing.T, g api.Graph, d []int, at int) []int {
	t.Helper()
	out, err := chips.Reduced(g, d, at)
	if err != nil || len(out) != g.Places || sumOf(out) != sumOf(d) {
		t.Fatalf("Reduced(%v, %v, %d): %v, %v", g, d, at, out, err)
	}
	for place, n := range out {
		if place != at && n < 0 {
			t.Errorf("Reduced(%v, %v, %d): %v has a debt at %d", g, d, at, out, place)
		}
	}
	for _, set := range setsOf(g, at) {
		if canGive(g, out, set) {
			t.Errorf("Reduced(%v, %v, %d): of %v the set %v can give", g, d, at, out, set)
		}
	}
	return out
}

// TestReduced: D2: known ones.
func TestReduced(t *testing.T) {
	cases := []struct {
		g    api.Graph
		d    []int
		at   int
		want []int
	}{
		{full(3, 1), []int{0, 2, -1}, 0, []int{1, 0, 0}},
		{full(3, 1), []int{0, 2, -1}, 1, []int{1, 0, 0}},
		{full(3, 1), []int{0, 2, -1}, 2, []int{1, 0, 0}},
		{full(3, 1), []int{1, -1, 0}, 0, []int{-1, 0, 1}},
		{path(2, 1), []int{5, 6, 7}, 1, []int{0, 18, 0}}, // on a tree all comes to one place
		{path(2, 1), []int{5, 6, -70}, 0, []int{-59, 0, 0}},
		{path(9, 1), []int{1000, 0, 0, 0, 0, 0, 0, 0, 0, -1000}, 0, make([]int, 10)},
		{path(9, 1), []int{0, 0, 0, 0, 0, 0, 0, 0, 0, -1000}, 0, []int{-1000, 0, 0, 0, 0, 0, 0, 0, 0, 0}},
		{path(9, 2), []int{0, 0, 0, 0, 0, 0, 0, 0, 0, -999}, 0, []int{-1000, 0, 0, 0, 0, 0, 0, 0, 0, 1}},
		{graph(2, 0, 1, 1, 0, 1, 1), []int{0, 5}, 0, []int{4, 1}}, // two edges between the same places
		{graph(2, 0, 1, 1, 0, 1, 1), []int{0, -5}, 0, []int{-6, 1}},
		{graph(2, 0, 1, 1, 1, 0, 1), []int{0, 5}, 1, []int{0, 5}},
		{graph(2, 0, 1, 100), []int{-1, 0}, 1, []int{99, -100}},
		{graph(2, 0, 1, 100), []int{100, 0}, 1, []int{0, 100}},
		{graph(2, 0, 1, 100), []int{99, 0}, 1, []int{99, 0}},
		{api.Graph{Places: 1}, []int{-3}, 0, []int{-3}},
		{api.Graph{Places: 1}, []int{1000}, 0, []int{1000}},
	}
	for _, c := range cases {
		if out := isReduced(t, c.g, c.d, c.at); !slices.Equal(out, c.want) {
			t.Errorf("Reduced(%v, %v, %d): %v, want %v", c.g, c.d, c.at, out, c.want)
		}
	}
}

// TestReducedSmall: D2: on small graphs, at each place, against the slow way; what is reduced stays as it is.
func TestReducedSmall(t *testing.T) {
	for _, g := range slices.Concat(smallGraphs(1, 1), smallGraphs(2, 4), smallGraphs(3, 2), smallGraphs(4, 1)) {
		for _, d := range boxed(g.Places, -2, 2) {
			for at := range g.Places {
				out := isReduced(t, g, d, at)
				if want := slowly(g, d, at); !slices.Equal(out, want) {
					t.Errorf("Reduced(%v, %v, %d): %v, want %v", g, d, at, out, want)
				}
				if again, err := chips.Reduced(g, out, at); err != nil || !slices.Equal(again, out) {
					t.Errorf("Reduced(%v, %v, %d): %v, %v, but it is reduced", g, out, at, again, err)
				}
			}
		}
	}
}

// TestReducedAny: D2: on greater graphs, at each place: what is asked of it, that it stays as it is, and that fires do not change it.
func TestReducedAny(t *testing.T) {
	random := rand.New(rand.NewSource(3))
	for range 150 {
		g := anyGraph(random, 1+random.Intn(10), 31, 1+random.Intn(100))
		d := anyDivisor(random, g.Places, 1+random.Intn(1000))
		fired := slices.Clone(d)
		for range 5 {
			if next, err := chips.Fire(g, fired, random.Intn(g.Places), random.Intn(3)-1); err == nil && slices.Max(next) <= 1000 && slices.Min(next) >= -1000 {
				fired = next
			}
		}
		for at := range g.Places {
			out := isReduced(t, g, d, at)
			if other, err := chips.Reduced(g, fired, at); err != nil || !slices.Equal(other, out) {
				t.Errorf("Reduced(%v, %v, %d): %v, %v, want %v, as of %v", g, fired, at, other, err, out, d)
			}
			if slices.Max(out) > 1000 || slices.Min(out) < -1000 {
				continue
			}
			if again, err := chips.Reduced(g, out, at); err != nil || !slices.Equal(again, out) {
				t.Errorf("Reduced(%v, %v, %d): %v, %v, but it is reduced", g, out, at, again, err)
			}
			if same, err := chips.Same(g, d, out); err != nil || !same {
				t.Errorf("Same(%v, %v, reduced %v): %v, %v", g, d, out, same, err)
			}
		}
	}
}

// TestReducedMiddling: D2: on graphs of five to seven places against the slow way, with debts far from the place.
func TestReducedMiddling(t *testing.T) {
	random := rand.New(rand.NewSource(4))
	for range 300 {
		g := anyGraph(random, 5+random.Intn(3), 6, 3)
		d := anyDivisor(random, g.Places, 1+random.Intn(20))
		at := random.Intn(g.Places)
		far := distances(g, at)
		d[slices.Index(far, slices.Max(far))] = -20 - random.Intn(20)
		if out, want := isReduced(t, g, d, at), slowly(g, d, at); !slices.Equal(out, want) {
			t.Errorf("Reduced(%v, %v, %d): %v, want %v", g, d, at, out, want)
		}
	}
}

// TestReducedThick: D2: where edges are many beside one that is alone, debts are paid one chip at a time.
func TestReducedThick(t *testing.T) {
	thick := path(9, 1)
	for len(thick.Edges) < api.MaxEdges {
		thick.Edges = append(thick.Edges, api.Edge{A: 8, B: 9, Times: 100})
	}
	bell := path(9, 1) // and at both ends
	for i := 0; len(bell.Edges) < api.MaxEdges; i++ {
		bell.Edges = append(bell.Edges, api.Edge{A: i % 2 * 8, B: i%2*8 + 1, Times: 100})
	}
	most := slices.Repeat([]int{1000}, 10)
	least := slices.Repeat([]int{-1000}, 10)
	for _, g := range []api.Graph{thick, bell, ring(10, 100), full(9, 100)} {
		for at := range g.Places {
			isReduced(t, g, most[:g.Places], at)
			isReduced(t, g, least[:g.Places], at)
			mixed := slices.Clone(least[:g.Places])
			for place := range mixed {
				if place%2 == 0 {
					mixed[place] = 999
				}
			}
			isReduced(t, g, mixed, at)
		}
	}
	// Between the last two places are 3101 edges: neither a debt of one nor 3100 chips get over them.
	if out, err := chips.Reduced(thick, []int{0, 0, 0, 0, 0, 0, 0, 0, 1, -1}, 0); err != nil || !slices.Equal(out, []int{-3100, 0, 0, 0, 0, 0, 0, 0, 0, 3100}) {
		t.Errorf("Reduced: %v, %v", out, err)
	}
}

// TestSame: D2: known ones, of unlike degrees, too.
func TestSame(t *testing.T) {
	cases := []struct {
		g    api.Graph
		a, b []int
		want bool
	}{
		{full(3, 1), []int{0, 2, -1}, []int{1, 0, 0}, true},
		{full(3, 1), []int{0, 2, -1}, []int{0, 1, 0}, false},
		{full(3, 1), []int{0, 2, -1}, []int{0, 0, 1}, false},
		{full(3, 1), []int{3, 0, 0}, []int{0, 3, 0}, true},
		{full(3, 1), []int{3, 0, 0}, []int{1, 1, 1}, true},
		{full(3, 1), []int{1, 0, 0}, []int{2, 0, 0}, false},
		{full(3, 1), []int{0, 0, 0}, []int{1, 1, 1}, false},
		{path(4, 1), []int{9, 0, 0, 0, 0}, []int{0, 0, 1000, 0, -991}, true},
		{path(4, 1), []int{9, 0, 0, 0, 0}, []int{0, 0, 1000, 0, -992}, false},
		{path(4, 2), []int{9, 0, 0, 0, 0}, []int{0, 0, 1000, 0, -991}, false},
		{path(4, 2), []int{8, 0, 0, 0, 0}, []int{0, 0, 1000, 0, -992}, true},
		{graph(2, 0, 1, 1, 0, 1, 1), []int{0, 0}, []int{1, -1}, false},
		{graph(2, 0, 1, 1, 0, 1, 1), []int{0, 0}, []int{2, -2}, true},
		{graph(2, 0, 1, 1, 1, 0, 1), []int{1000, -1000}, []int{-1000, 1000}, true},
		{graph(2, 0, 1, 3), []int{1000, -1000}, []int{-1000, 1000}, false},
		{api.Graph{Places: 1}, []int{4}, []int{4}, true},
		{api.Graph{Places: 1}, []int{4}, []int{5}, false},
	}
	for _, c := range cases {
		for _, pair := range [][2][]int{{c.a, c.b}, {c.b, c.a}} {
			if same, err := chips.Same(c.g, pair[0], pair[1]); err != nil || same != c.want {
				t.Errorf("Same(%v, %v, %v): %v, %v, want %v", c.g, pair[0], pair[1], same, err, c.want)
			}
		}
	}
}

// TestSameSmall: D1, D2: on small graphs just what scripts of fires lead to is the same.
func TestSameSmall(t *testing.T) {
	for _, g := range slices.Concat(smallGraphs(1, 1), smallGraphs(2, 4), smallGraphs(3, 2)) {
		for _, d := range boxed(g.Places, -1, 2) {
			led := map[[3]int]bool{}
			for _, script := range boxed(g.Places-1, -9, 9) { // of place 0 it may be 0, as all giving once changes nothing
				var key [3]int
				copy(key[:], given(g, d, append([]int{0}, script...)))
				led[key] = true
			}
			for _, other := range boxed(g.Places, -1, 2) {
				var key [3]int
				copy(key[:], other)
				if same, err := chips.Same(g, d, other); err != nil || same != led[key] {
					t.Errorf("Same(%v, %v, %v): %v, %v, want %v", g, d, other, same, err, led[key])
				}
			}
		}
	}
}

// TestSameAny: D2: what fires make of a divisor is the same; with a chip moved it is not, unless what is reduced is one.
func TestSameAny(t *testing.T) {
	random := rand.New(rand.NewSource(5))
	yes, no := 0, 0
	for range 2000 {
		g := anyGraph(random, 2+random.Intn(9), 31, 1+random.Intn(20))
		a := anyDivisor(random, g.Places, 400)
		b := given(g, a, anyDivisor(random, g.Places, 1))
		if random.Intn(2) == 0 {
			b[random.Intn(g.Places)]++
			b[random.Intn(g.Places)]--
		}
		if slices.Max(b) > 1000 || slices.Min(b) < -1000 {
			refusedSame(t, g, a, b, api.ErrRange)
			continue
		}
		at := random.Intn(g.Places)
		r, _ := chips.Reduced(g, a, at)
		s, _ := chips.Reduced(g, b, at)
		same, err := chips.Same(g, a, b)
		if err != nil || same != slices.Equal(r, s) {
			t.Errorf("Same(%v, %v, %v): %v, %v, but reduced at %d %v and %v", g, a, b, same, err, at, r, s)
		}
		if same {
			yes++
		} else {
			no++
		}
		b[random.Intn(g.Places)] += 1 - 2*random.Intn(2)
		if same, err := chips.Same(g, a, b); plain.Told(err) == api.OK && same {
			t.Errorf("Same(%v, %v, %v), but their degrees are unlike", g, a, b)
		}
	}
	if yes < 300 || no < 300 {
		t.Errorf("%d are the same, %d are not", yes, no)
	}
}

// TestSameAsSand: what recurs, with debts in the sink, is as many divisors of degree 0 as there are trees, no two of them the same; and each divisor of degree 0 is the same as one of them.
func TestSameAsSand(t *testing.T) {
	for _, g := range slices.Concat(smallGraphs(2, 5), smallGraphs(3, 3), smallGraphs(4, 1), []api.Graph{ring(5, 1)}) {
		trees, _ := sand.Trees(g)
		for sink := range g.Places {
			recur := recurrent(g, sink)
			if len(recur) != trees {
				t.Errorf("%v: %d recur with sink %d, %d trees", g, len(recur), sink, trees)
			}
			for i, a := range recur {
				for j, b := range recur {
					if same, err := chips.Same(g, a, b); err != nil || same != (i == j) {
						t.Errorf("Same(%v, %v, %v): %v, %v", g, a, b, same, err)
					}
				}
			}
			d := make([]int, g.Places)
			d[0], d[g.Places-1] = 7, -7
			if count := sameAs(g, d, recur); count != 1 {
				t.Errorf("%v: %v is the same as %d that recur with sink %d", g, d, count, sink)
			}
		}
	}
}

// recurrent are all chips that burn whole, the debts of which the sink has.
func recurrent(g api.Graph, sink int) [][]int {
	most := 0
	for place := range g.Places {
		most = max(most, degreeOf(g, place))
	}
	var out [][]int
	for _, c := range boxed(g.Places, 0, most-1) {
		if _, all, err := sand.Burn(g, sink, c); err == nil && all {
			c[sink] = -sumOf(c)
			out = append(out, c)
		}
	}
	return out
}

func sameAs(g api.Graph, d []int, list [][]int) int {
	count := 0
	for _, other := range list {
		if same, err := chips.Same(g, d, other); err == nil && same {
			count++
		}
	}
	return count
}
