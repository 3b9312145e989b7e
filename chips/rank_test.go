package chips_test

import (
	"math/rand"
	"slices"
	"testing"

	"eden/api"
	"eden/chips"
	"eden/plain"
)

// ofDegree are all effective divisors of a degree, by their numbers from the left.
func ofDegree(places, degree int) [][]int {
	if degree < 0 {
		return nil
	}
	return slices.DeleteFunc(boxed(places, 0, degree), func(d []int) bool { return sumOf(d) != degree })
}

// without takes one divisor away from the other.
func without(d, e []int) []int {
	out := slices.Clone(d)
	for place, n := range e {
		out[place] -= n
	}
	return out
}

// slowRank goes by the words of D3, what is reduced slowly telling whether something effective is the same: at the place itself it has the most that it can have without debts elsewhere.
func slowRank(g api.Graph, d []int) (int, []int) {
	for k := 0; ; k++ {
		for _, e := range ofDegree(g.Places, k) {
			if slowly(g, without(d, e), 0)[0] < 0 {
				return k - 1, e
			}
		}
	}
}

func rank(t *testing.T, g api.Graph, d []int) (int, []int) {
	t.Helper()
	n, lost, err := chips.Rank(g, d)
	if err != nil || n < -1 || len(lost) != g.Places || sumOf(lost) != n+1 || slices.Min(lost) < 0 {
		t.Fatalf("Rank(%v, %v): %d, %v, %v", g, d, n, lost, err)
	}
	return n, lost
}

func genus(t *testing.T, g api.Graph) int {
	t.Helper()
	n, err := chips.Genus(g)
	if err != nil {
		t.Fatalf("Genus(%v): %v", g, err)
	}
	return n
}

func canonical(t *testing.T, g api.Graph) []int {
	t.Helper()
	d, err := chips.Canonical(g)
	if err != nil || len(d) != g.Places {
		t.Fatalf("Canonical(%v): %v, %v", g, d, err)
	}
	return d
}

// TestRank: D3: known ones.
func TestRank(t *testing.T) {
	one := api.Graph{Places: 1}
	two := graph(2, 0, 1, 1, 1, 0, 1) // two edges between the same places
	cases := []struct {
		g    api.Graph
		d    []int
		rank int
		lost []int
	}{
		{full(3, 1), []int{1, 0, 0}, 0, []int{0, 0, 1}},
		{full(3, 1), []int{0, 1, 0}, 0, []int{0, 0, 1}},
		{full(3, 1), []int{0, 0, 1}, 0, []int{0, 1, 0}}, // what is there itself can be taken
		{full(3, 1), []int{1, -1, 0}, -1, []int{0, 0, 0}},
		{full(3, 1), []int{0, 0, 0}, 0, []int{0, 0, 1}},
		{full(3, 1), []int{1, 1, 1}, 2, []int{0, 1, 2}}, // that is the same as 0 0 3
		{full(3, 1), []int{0, 2, -1}, 0, []int{0, 0, 1}},
		{full(3, 1), []int{-1, 0, 0}, -1, []int{0, 0, 0}},
		{full(3, 1), []int{-1000, -1000, -1000}, -1, []int{0, 0, 0}},
		{full(3, 1), []int{1000, -1000, -1}, -1, []int{0, 0, 0}},
		{path(3, 1), []int{0, 0, 0, 0}, 0, []int{0, 0, 0, 1}},
		{path(3, 1), []int{5, -3, 7, -1}, 8, []int{0, 0, 0, 9}},
		{path(3, 1), []int{5, -3, 7, -10}, -1, []int{0, 0, 0, 0}},
		{path(5, 1), []int{1000, -1000, 1000, -1000, 12, 0}, 12, []int{0, 0, 0, 0, 0, 13}},
		{two, []int{1, 1}, 1, []int{0, 2}},
		{two, []int{0, 2}, 1, []int{1, 1}},
		{two, []int{1, 0}, 0, []int{0, 1}},
		{two, []int{1, -1}, -1, []int{0, 0}},
		{one, []int{-1}, -1, []int{0}},
		{one, []int{-1000}, -1, []int{0}},
		{one, []int{0}, 0, []int{1}},
		{one, []int{12}, 12, []int{13}},
	}
	for _, c := range cases {
		if n, lost := rank(t, c.g, c.d); n != c.rank || !slices.Equal(lost, c.lost) {
			t.Errorf("Rank(%v, %v): %d, %v, want %d, %v", c.g, c.d, n, lost, c.rank, c.lost)
		}
	}
}

// TestRankSmall: D3: on small graphs against the words of the document.
func TestRankSmall(t *testing.T) {
	for _, g := range slices.Concat(smallGraphs(1, 1), smallGraphs(2, 4), smallGraphs(3, 2), smallGraphs(4, 1)) {
		for _, d := range boxed(g.Places, -1, 2) {
			want, first := slowRank(g, d)
			if n, lost := rank(t, g, d); n != want || !slices.Equal(lost, first) {
				t.Errorf("Rank(%v, %v): %d, %v, want %d, %v", g, d, n, lost, want, first)
			}
		}
	}
}

// TestRankAny: D3: on graphs of five and six places likewise; and of what fires make of a divisor it is the same.
func TestRankAny(t *testing.T) {
	random := rand.New(rand.NewSource(6))
	seen := map[int]int{}
	for range 120 {
		g := anyGraph(random, 5+random.Intn(2), 4, 2)
		d := anyDivisor(random, g.Places, 2)
		if degree := random.Intn(8); sumOf(d) < degree {
			d[random.Intn(g.Places)] += degree - sumOf(d)
		}
		if sumOf(d) > 6 {
			continue
		}
		want, first := slowRank(g, d)
		n, lost := rank(t, g, d)
		if n != want || !slices.Equal(lost, first) {
			t.Errorf("Rank(%v, %v): %d, %v, want %d, %v", g, d, n, lost, want, first)
		}
		seen[n]++
		fired := given(g, d, anyDivisor(random, g.Places, 20))
		if k, again := rank(t, g, fired); k != n || !slices.Equal(again, lost) {
			t.Errorf("Rank(%v, %v): %d, %v, want %d, %v as of %v", g, fired, k, again, n, lost, d)
		}
	}
	if len(seen) < 4 {
		t.Errorf("ranks %v", seen)
	}
}

// TestRankThick: D3: with as many edges as there may be numbers grow great, but what fires make of a divisor still has its rank.
func TestRankThick(t *testing.T) {
	g := full(6, 100)
	for i := 0; len(g.Edges) < api.MaxEdges; i++ {
		g.Edges = append(g.Edges, g.Edges[i%15])
	}
	random := rand.New(rand.NewSource(7))
	count := 0
	for _, set := range boxed(6, 0, 1) {
		d := make([]int, 6)
		for range 12 {
			d[random.Intn(6)]++
		}
		n, lost := rank(t, g, d)
		if n != slices.Min(d) { // so many edges that nothing but the chips themselves can be taken
			t.Errorf("Rank(%v, %v): %d, %v", g, d, n, lost)
		}
		fired := given(g, d, set)
		if slices.Max(fired) > 1000 || slices.Min(fired) < -1000 {
			continue
		}
		count++
		if k, again := rank(t, g, fired); k != n || !slices.Equal(again, lost) {
			t.Errorf("Rank(%v, %v): %d, %v, want %d, %v as of %v", g, fired, k, again, n, lost, d)
		}
		fired[0]++
		fired[1]--
		if k, again := rank(t, g, fired); k != max(-1, slices.Min(without(d, []int{-1, 1, 0, 0, 0, 0}))) {
			t.Errorf("Rank(%v, %v): %d, %v", g, fired, k, again)
		}
	}
	if count < 3 {
		t.Errorf("only %d sets can be fired", count)
	}
}

// TestRankFull: D3: six places and a degree of MaxDegree are taken, one more of either is ErrFull, told behind what is wrong with the divisor.
func TestRankFull(t *testing.T) {
	asked := func(g api.Graph, d []int, want api.Errno) {
		t.Helper()
		n, lost, err := chips.Rank(g, d)
		if plain.Told(err) != want || want != api.OK && (n != 0 || len(lost) != 0) {
			t.Errorf("Rank(%v, %v): %d, %v, %v, want %v", g, d, n, lost, err, want)
		}
	}
	for places := 1; places <= api.MaxPlaces; places++ {
		of := func(first int) []int {
			d := make([]int, places)
			d[places-1] = first
			return d
		}
		fits := api.ErrFull
		if places <= 6 {
			fits = api.OK
		}
		for _, g := range []api.Graph{path(places-1, 1), path(places-1, 100)} {
			for _, degree := range []int{-1000, -13, -12, -1, 0, 1, 11, 12} {
				asked(g, of(degree), fits)
			}
			for _, degree := range []int{13, 14, 1000} {
				asked(g, of(degree), api.ErrFull)
			}
			for _, n := range []int{-1001, 1001} {
				asked(g, of(n), api.ErrRange)
			}
			asked(g, append(of(13), 0), api.ErrShape)
			asked(g, append(of(1001), 0), api.ErrShape)
			asked(g, of(13)[1:], api.ErrShape)
		}
	}
	asked(path(1, 1), []int{1000, 1000}, api.ErrFull)
	asked(path(1, 1), []int{1000, -987}, api.ErrFull)
	asked(path(1, 1), []int{1000, -988}, api.OK)
	asked(path(6, 1), []int{1000, 1000, 0, 0, 0, 0, -1001}, api.ErrRange)
	asked(graph(7, 0, 1, 1), make([]int, 7), api.ErrShape)
	asked(graph(7, 0, 1, 0), make([]int, 7), api.ErrRange)
}

// TestGenus: D4.
func TestGenus(t *testing.T) {
	random := rand.New(rand.NewSource(8))
	for places := 1; places <= api.MaxPlaces; places++ {
		for range 20 {
			if tree := anyGraph(random, places, 0, 1); genus(t, tree) != 0 {
				t.Errorf("Genus(%v): %d", tree, genus(t, tree))
			}
		}
		if places > 1 {
			if n := genus(t, ring(places, 1)); n != 1 {
				t.Errorf("Genus of a ring of %d: %d", places, n)
			}
			if n := genus(t, ring(places, 100)); n != 99*places+1 {
				t.Errorf("Genus of a ring of %d with Times 100: %d", places, n)
			}
		}
	}
	for _, c := range []struct {
		g    api.Graph
		want int
	}{
		{graph(2, 0, 1, 7), 6},
		{graph(2, 0, 1, 1, 1, 0, 1), 1},
		{graph(2, 0, 1, 3, 1, 0, 4), 6},
		{full(4, 1), 3},
		{full(9, 1), 28},
		{full(9, 100), 3592},
	} {
		if n := genus(t, c.g); n != c.want {
			t.Errorf("Genus(%v): %d, want %d", c.g, n, c.want)
		}
	}
}

// TestCanonical: D4: its degree is twice the genus, less 2, and its rank the genus, less 1.
func TestCanonical(t *testing.T) {
	for _, c := range []struct {
		g    api.Graph
		want []int
	}{
		{api.Graph{Places: 1}, []int{-2}},
		{path(1, 1), []int{-1, -1}},
		{path(2, 1), []int{-1, 0, -1}},
		{ring(4, 1), []int{0, 0, 0, 0}},
		{full(4, 1), []int{1, 1, 1, 1}},
		{graph(3, 0, 1, 3, 1, 0, 4, 1, 2, 100), []int{5, 105, 98}},
	} {
		if d := canonical(t, c.g); !slices.Equal(d, c.want) {
			t.Errorf("Canonical(%v): %v, want %v", c.g, d, c.want)
		}
	}
	random := rand.New(rand.NewSource(9))
	for range 300 {
		g := anyGraph(random, 1+random.Intn(10), 20, 1+random.Intn(100))
		d := canonical(t, g)
		for place, n := range d {
			if n != degreeOf(g, place)-2 {
				t.Errorf("Canonical(%v): %v", g, d)
			}
		}
		if sumOf(d) != 2*genus(t, g)-2 {
			t.Errorf("Canonical(%v): %v, but Genus %d", g, d, genus(t, g))
		}
	}
	for _, g := range slices.Concat(smallGraphs(2, 7), smallGraphs(3, 2), smallGraphs(4, 1), []api.Graph{ring(6, 1), path(5, 1)}) {
		if n, lost := rank(t, g, canonical(t, g)); n != genus(t, g)-1 {
			t.Errorf("Rank of Canonical of %v: %d, %v, Genus %d", g, n, lost, genus(t, g))
		}
	}
}

// TestRiemannRoch: D4: the theorem of Riemann and Roch, on small graphs.
func TestRiemannRoch(t *testing.T) {
	for _, g := range slices.Concat(smallGraphs(1, 1), smallGraphs(2, 6), smallGraphs(3, 2), smallGraphs(4, 1)) {
		for _, d := range boxed(g.Places, -2, 3) {
			roch(t, g, d)
		}
	}
	random := rand.New(rand.NewSource(10))
	count := 0
	for range 400 {
		g := anyGraph(random, 1+random.Intn(6), 6, 2)
		for range 5 {
			d := anyDivisor(random, g.Places, 1+random.Intn(30))
			d[0] -= sumOf(d) - random.Intn(2*genus(t, g)+2)
			if roch(t, g, d) {
				count++
			}
		}
	}
	if count < 500 {
		t.Errorf("asked of %d only", count)
	}
}

// roch asks it of one divisor, and tells whether both ranks could be told.
func roch(t *testing.T, g api.Graph, d []int) bool {
	t.Helper()
	other := without(canonical(t, g), d)
	if sumOf(d) > api.MaxDegree || sumOf(other) > api.MaxDegree {
		return false
	}
	a, _ := rank(t, g, d)
	b, _ := rank(t, g, other)
	if a-b != sumOf(d)-genus(t, g)+1 {
		t.Errorf("%v, Genus %d: Rank of %v is %d, of %v %d", g, genus(t, g), d, a, other, b)
	}
	return true
}
