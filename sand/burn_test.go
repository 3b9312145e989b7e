package sand_test

import (
	"math/big"
	"math/rand"
	"slices"
	"testing"

	"eden/api"
	"eden/plain"
	"eden/sand"
)

// burnt is the order in which places burn, edge by edge.
func burnt(g api.Graph, sink int, chips []int) []int {
	burning := []int{sink}
	for again := true; again; {
		again = false
		for place := range g.Places {
			if slices.Contains(burning, place) {
				continue
			}
			edges := 0
			for _, e := range g.Edges {
				if e.A == place && !slices.Contains(burning, e.B) || e.B == place && !slices.Contains(burning, e.A) {
					edges += e.Times
				}
			}
			if chips[place] >= edges {
				burning = append(burning, place)
				again = true
				break
			}
		}
	}
	return burning[1:]
}

// stableChips are all that are stable.
func stableChips(g api.Graph, sink int) [][]int {
	out := [][]int{make([]int, g.Places)}
	for place := range g.Places {
		if place == sink {
			continue
		}
		for _, chips := range slices.Clone(out) {
			for n := 1; n < degreeOf(g, place); n++ {
				more := slices.Clone(chips)
				more[place] = n
				out = append(out, more)
			}
		}
	}
	return out
}

// mostStable is one chip fewer than the degree everywhere.
func mostStable(g api.Graph, sink int) []int {
	out := make([]int, g.Places)
	for place := range out {
		if place != sink {
			out[place] = degreeOf(g, place) - 1
		}
	}
	return out
}

// cameAgain are the chips that adding one by one, and settling, always can lead to again: those that it leads to from the most that are stable, as those can be come to from all.
func cameAgain(g api.Graph, sink int) [][]int {
	out := [][]int{mostStable(g, sink)}
	known := map[string]bool{key(out[0]): true}
	for i := 0; i < len(out); i++ {
		for place := range g.Places {
			if place == sink {
				continue
			}
			more := slices.Clone(out[i])
			more[place]++
			next, _ := slowly(g, sink, more, func(can []int) int { return can[0] })
			if !known[key(next.Chips)] {
				known[key(next.Chips)] = true
				out = append(out, next.Chips)
			}
		}
	}
	return out
}

func key(chips []int) string {
	out := make([]byte, len(chips))
	for i, n := range chips {
		out[i] = byte(n)
	}
	return string(out)
}

// smallGraphs are all connected ones of as many places with up to so many Times between each two.
func smallGraphs(places, times int) []api.Graph {
	pairs := full(places, 1).Edges
	var out []api.Graph
	numbers := make([]int, len(pairs))
	for {
		g := api.Graph{Places: places}
		for i, e := range pairs {
			if numbers[i] > 0 {
				g.Edges = append(g.Edges, api.Edge{A: e.B, B: e.A, Times: numbers[i]})
			}
		}
		if len(reach(g, 0)) == places {
			out = append(out, g)
		}
		i := 0
		for ; i < len(pairs) && numbers[i] == times; i++ {
			numbers[i] = 0
		}
		if i == len(pairs) {
			return out
		}
		numbers[i]++
	}
}

// chosenTrees counts by trying: as many single edges as there are places but one, that reach all.
func chosenTrees(g api.Graph) int {
	var single []api.Edge
	for _, e := range g.Edges {
		for range e.Times {
			single = append(single, api.Edge{A: e.A, B: e.B, Times: 1})
		}
	}
	count := 0
	var choose func(from int, chosen []api.Edge)
	choose = func(from int, chosen []api.Edge) {
		if len(chosen) == g.Places-1 {
			if len(reach(api.Graph{Places: g.Places, Edges: chosen}, 0)) == g.Places {
				count++
			}
			return
		}
		for i := from; i < len(single); i++ {
			choose(i+1, append(slices.Clone(chosen), single[i]))
		}
	}
	choose(0, nil)
	return count
}

// partedTrees counts trees without one edge, and those with it: its ends are one place there.
func partedTrees(g api.Graph) *big.Int {
	if len(reach(g, 0)) < g.Places {
		return new(big.Int)
	}
	if g.Places == 1 {
		return big.NewInt(1)
	}
	first := g.Edges[0]
	low, high := min(first.A, first.B), max(first.A, first.B)
	times := 0
	without := api.Graph{Places: g.Places}
	joined := api.Graph{Places: g.Places - 1}
	for _, e := range g.Edges {
		if min(e.A, e.B) == low && max(e.A, e.B) == high {
			times += e.Times
			continue
		}
		without.Edges = append(without.Edges, e)
		for _, end := range []*int{&e.A, &e.B} {
			if *end == high {
				*end = low
			} else if *end > high {
				*end--
			}
		}
		joined.Edges = append(joined.Edges, e)
	}
	count := partedTrees(joined)
	count.Mul(count, big.NewInt(int64(times)))
	return count.Add(count, partedTrees(without))
}

// TestRecurrent: S4, S5: on all small graphs, whichever place is the sink: chips burn whole just where they come again, there are as many of them as trees, and Identity is the one that changes none.
func TestRecurrent(t *testing.T) {
	graphs := slices.Concat(smallGraphs(1, 1), smallGraphs(2, 6), smallGraphs(3, 3), smallGraphs(4, 1), smallGraphs(4, 2)[:300:300], []api.Graph{ring(5, 1), full(5, 1), path(5, 2)})
	for _, g := range graphs {
		trees := chosenTrees(g)
		if n, err := sand.Trees(g); err != nil || n != trees {
			t.Errorf("Trees(%v): %d, %v, want %d", g, n, err, trees)
		}
		for sink := range g.Places {
			again := cameAgain(g, sink)
			if len(again) != trees {
				t.Errorf("%v, %d: %d recur, %d trees", g, sink, len(again), trees)
			}
			burnsWhole(t, g, sink, again)
			changesNothing(t, g, sink, again)
		}
	}
}

// burnsWhole asks Burn of all chips that are stable; those of the list alone burn whole.
func burnsWhole(t *testing.T, g api.Graph, sink int, again [][]int) {
	t.Helper()
	known := map[string]bool{}
	for _, chips := range again {
		known[key(chips)] = true
	}
	for _, chips := range stableChips(g, sink) {
		want := burnt(g, sink, chips)
		order, all, err := sand.Burn(g, sink, chips)
		if err != nil || !slices.Equal(order, want) || all != known[key(chips)] || all != (len(want) == g.Places-1) {
			t.Errorf("Burn(%v, %d, %v): %v, %v, %v, want %v, %v", g, sink, chips, order, all, err, want, known[key(chips)])
		}
	}
}

// added is what two chips come to.
func added(t *testing.T, g api.Graph, sink int, a, b []int) []int {
	t.Helper()
	sum := slices.Clone(a)
	for place, n := range b {
		sum[place] += n
	}
	return settled(t, g, sink, sum).Chips
}

// changesNothing asks that Identity is in the list, changes none of it, and is the only one of the kind.
func changesNothing(t *testing.T, g api.Graph, sink int, again [][]int) {
	t.Helper()
	identity, err := sand.Identity(g, sink)
	if err != nil {
		t.Fatalf("Identity(%v, %d): %v", g, sink, err)
	}
	count := 0
	for _, a := range again {
		if slices.Equal(a, identity) {
			count++
		}
		if sum := added(t, g, sink, a, identity); !slices.Equal(sum, a) {
			t.Errorf("%v, %d: Identity %v and %v come to %v", g, sink, identity, a, sum)
		}
		// What changes Identity is not it.
		if changes := !slices.Equal(added(t, g, sink, identity, a), identity); changes == slices.Equal(a, identity) {
			t.Errorf("%v, %d: Identity %v, but %v is one, too", g, sink, identity, a)
		}
	}
	if count != 1 {
		t.Errorf("%v, %d: Identity %v is %d times among those that recur", g, sink, identity, count)
	}
}

// TestBurn: S4: the order in which places burn: of several the least number is next, even where a greater one could burn sooner.
func TestBurn(t *testing.T) {
	cases := []struct {
		g     api.Graph
		sink  int
		chips []int
		order []int
		all   bool
	}{
		{full(3, 1), 0, []int{0, 1, 1}, []int{1, 2}, true},
		{full(3, 1), 0, []int{0, 0, 1}, []int{2, 1}, true},
		{full(3, 1), 0, []int{0, 1, 0}, []int{1, 2}, true},
		{full(3, 1), 0, []int{0, 0, 0}, nil, false},
		{full(3, 1), 1, []int{1, 0, 0}, []int{0, 2}, true},
		{full(3, 1), 2, []int{0, 1, 0}, []int{1, 0}, true},
		{path(4, 1), 4, []int{0, 1, 1, 1, 0}, []int{3, 2, 1, 0}, true},
		{path(4, 1), 4, []int{0, 1, 0, 1, 0}, []int{3}, false},
		{path(4, 1), 2, []int{0, 1, 0, 1, 0}, []int{1, 0, 3, 4}, true}, // 3 could, too, when 1 does and when 0 does
		{path(4, 1), 2, []int{0, 0, 0, 1, 0}, []int{3, 4}, false},
		{path(4, 1), 2, []int{0, 1, 0, 0, 0}, []int{1, 0}, false},
		{path(2, 3), 0, []int{0, 3, 0}, []int{1, 2}, true},
		{path(2, 3), 0, []int{0, 2, 2}, nil, false},
		{graph(2, 0, 1, 2, 1, 0, 3), 0, []int{0, 0}, []int{1}, true},
		{graph(4, 0, 3, 1, 3, 1, 1, 1, 2, 1, 2, 3, 1), 0, []int{0, 1, 0, 2}, []int{3, 1, 2}, true},
		{graph(4, 0, 3, 1, 3, 1, 1, 1, 2, 1, 2, 3, 1), 0, []int{0, 0, 1, 2}, []int{3, 2, 1}, true},
		{graph(4, 0, 3, 1, 3, 1, 1, 1, 2, 1, 2, 3, 1), 0, []int{0, 0, 0, 2}, []int{3}, false},
	}
	for _, c := range cases {
		order, all, err := sand.Burn(c.g, c.sink, c.chips)
		if err != nil || all != c.all || !slices.Equal(order, c.order) {
			t.Errorf("Burn(%v, %d, %v): %v, %v, %v, want %v, %v", c.g, c.sink, c.chips, order, all, err, c.order, c.all)
		}
	}
}

// TestBurnAny: S4: on greater graphs against burning edge by edge, and, where chips are not stable, ErrState.
func TestBurnAny(t *testing.T) {
	random := rand.New(rand.NewSource(8))
	yes, no := 0, 0
	for range 3000 {
		g := anyGraph(random, 1+random.Intn(10), 31, 1+random.Intn(100))
		sink := random.Intn(g.Places)
		chips := mostStable(g, sink)
		for place := range chips {
			if random.Intn(2) == 0 {
				chips[place] = random.Intn(chips[place] + 1)
			}
		}
		order, all, err := sand.Burn(g, sink, chips)
		if want := burnt(g, sink, chips); err != nil || !slices.Equal(order, want) || all != (len(want) == g.Places-1) {
			t.Errorf("Burn(%v, %d, %v): %v, %v, %v, want %v", g, sink, chips, order, all, err, want)
		}
		if all {
			yes++
		} else {
			no++
		}
		place := random.Intn(g.Places)
		if place == sink {
			continue
		}
		chips[place] = degreeOf(g, place) + random.Intn(100)
		if order, all, err := sand.Burn(g, sink, chips); plain.Told(err) != api.ErrState || all || len(order) != 0 {
			t.Errorf("Burn(%v, %d, %v): %v, %v, %v, want ErrState", g, sink, chips, order, all, err)
		}
	}
	if yes < 100 || no < 100 {
		t.Errorf("%d burn whole, %d do not", yes, no)
	}
}

// TestBurnTopples: S4: chips recur just where, with what the sink would give, they come to themselves, each place having toppled once.
func TestBurnTopples(t *testing.T) {
	random := rand.New(rand.NewSource(9))
	for range 1000 {
		g := anyGraph(random, 2+random.Intn(9), 31, 1+random.Intn(20))
		sink := random.Intn(g.Places)
		chips := settled(t, g, sink, anyChips(random, g.Places, sink, 2*degreeOf(g, sink)+50)).Chips
		more := slices.Clone(chips)
		for _, e := range g.Edges {
			if e.A == sink {
				more[e.B] += e.Times
			}
			if e.B == sink {
				more[e.A] += e.Times
			}
		}
		p := settled(t, g, sink, more)
		_, all, err := sand.Burn(g, sink, chips)
		if ones := len(chips) - 1; err != nil || all != slices.Equal(p.Chips, chips) || all != (ones == sumOf(p.Topples)) {
			t.Errorf("Burn(%v, %d, %v): %v, %v, but settled %v", g, sink, chips, all, err, p)
		}
	}
}

func sumOf(numbers []int) int {
	sum := 0
	for _, n := range numbers {
		sum += n
	}
	return sum
}

// TestIdentity: S5: on greater graphs: it recurs, is itself twice over, and changes nothing that recurs.
func TestIdentity(t *testing.T) {
	random := rand.New(rand.NewSource(10))
	graphs := []api.Graph{path(9, 100), full(9, 100), ring(10, 1), ring(10, 100), with(path(9, 100), 3, api.Edge{A: 9, B: 0, Times: 1})}
	for range 100 {
		graphs = append(graphs, anyGraph(random, 1+random.Intn(10), 31, 100))
	}
	for _, g := range graphs {
		for sink := range g.Places {
			identity, err := sand.Identity(g, sink)
			if err != nil || len(identity) != g.Places || identity[sink] != 0 {
				t.Fatalf("Identity(%v, %d): %v, %v", g, sink, identity, err)
			}
			if _, all, err := sand.Burn(g, sink, identity); err != nil || !all {
				t.Errorf("Burn(%v, %d, Identity %v): %v, %v", g, sink, identity, all, err)
			}
			if twice := added(t, g, sink, identity, identity); !slices.Equal(twice, identity) {
				t.Errorf("%v, %d: Identity %v, twice %v", g, sink, identity, twice)
			}
			for range 3 {
				a := added(t, g, sink, mostStable(g, sink), anyChips(random, g.Places, sink, 5000))
				if sum := added(t, g, sink, a, identity); !slices.Equal(sum, a) {
					t.Errorf("%v, %d: Identity %v and %v come to %v", g, sink, identity, a, sum)
				}
			}
		}
	}
}

// TestKnownTrees: S4: counts that are known.
func TestKnownTrees(t *testing.T) {
	power := func(base, times int) int {
		out := 1
		for range times {
			out *= base
		}
		return out
	}
	counted := func(g api.Graph, want int) {
		t.Helper()
		if n, err := sand.Trees(g); err != nil || n != want {
			t.Errorf("Trees(%v): %d, %v, want %d", g, n, err, want)
		}
	}
	counted(api.Graph{Places: 1}, 1)
	for places := 2; places <= api.MaxPlaces; places++ {
		counted(path(places-1, 1), 1)
		counted(path(places-1, 100), power(100, places-1))
		counted(ring(places, 1), places) // of two places it is an edge there and one back
		counted(ring(places, 7), places*power(7, places-1))
	}
	for places := 2; places <= 9; places++ {
		counted(full(places, 1), power(places, places-2))
	}
	counted(full(9, 26), power(9, 7)*power(26, 8))
	// All edges between ten places are 45; without five that meet nowhere they are just MaxEdges.
	refused(t, full(10, 1), api.ErrFull)
	counted(withoutPairs(1), 32768000)
	var sides api.Graph // each of five places with each of five others
	sides.Places = 10
	for a := range 5 {
		for b := 5; b < 10; b++ {
			sides.Edges = append(sides.Edges, api.Edge{A: a, B: b, Times: 1})
		}
	}
	counted(sides, power(5, 8))
}

// withoutPairs has an edge between each two of ten places but between 0 and 1, 2 and 3, and so on.
func withoutPairs(times int) api.Graph {
	g := full(10, times)
	g.Edges = slices.DeleteFunc(g.Edges, func(e api.Edge) bool { return e.A/2 == e.B/2 })
	return g
}

// product is a path on which the Times from each place to the next are as many, in parts where they are above 100.
func product(times ...int) api.Graph {
	g := api.Graph{Places: len(times) + 1}
	for i, n := range times {
		g.Edges = append(g.Edges, thick(i, i+1, n)...)
	}
	return g
}

func thick(a, b, times int) []api.Edge {
	var out []api.Edge
	for ; times > 100; times -= 100 {
		out = append(out, api.Edge{A: a, B: b, Times: 100})
	}
	return append(out, api.Edge{A: a, B: b, Times: times})
}

// justBeyond has 10^18 + 8 trees: three triangles with 26209, 32779 and 166667 of them, and a path of 4, 97 and 18.
func justBeyond() api.Graph {
	g := api.Graph{Places: 10}
	for i, sides := range [][3]int{{31, 99, 178}, {51, 94, 193}, {91, 275, 387}} {
		a, b, c := 2*i, 2*i+1, 2*i+2
		g.Edges = slices.Concat(g.Edges, thick(a, b, sides[0]), thick(b, c, sides[1]), thick(c, a, sides[2]))
	}
	return api.Graph{Places: 10, Edges: slices.Concat(g.Edges, thick(6, 7, 4), thick(7, 8, 97), thick(8, 9, 18))}
}

// TestTooManyTrees: S4: 10^18 is told, more is ErrFull, even where it would go round an int.
func TestTooManyTrees(t *testing.T) {
	if n, err := sand.Trees(path(9, 100)); err != nil || n != 1000000000000000000 {
		t.Errorf("Trees of 10^18: %d, %v", n, err)
	}
	for _, g := range []api.Graph{
		justBeyond(),
		product(100, 100, 100, 100, 101, 100, 100, 100, 100),
		product(151, 70, 73, 82, 85, 106, 109, 121, 133),
		product(128, 128, 128, 128, 128, 128, 128, 128, 128), // 2^63
		product(256, 256, 256, 256, 256, 256, 256, 256),      // 2^64
		product(256, 256, 256, 256, 256, 256, 256, 256, 3),
		product(500, 500, 500, 500, 400, 400, 400, 400, 400),
		full(9, 27), ring(10, 100), full(9, 100), withoutPairs(100),
	} {
		if err := sand.Check(g); err != nil {
			t.Fatalf("Check(%v): %v", g, err)
		}
		if n, err := sand.Trees(g); plain.Told(err) != api.ErrFull || n != 0 {
			t.Errorf("Trees(%v): %d, %v, want ErrFull", g, n, err)
		}
	}
}

// TestTrees: S4: against trees counted without an edge and with it.
func TestTrees(t *testing.T) {
	random := rand.New(rand.NewSource(11))
	most := big.NewInt(1000000000000000000)
	told, many := 0, 0
	for round := range 400 {
		g := anyGraph(random, 1+round%7, 12, []int{1, 3, 100, 100}[random.Intn(4)])
		if round%10 == 0 { // about as many as may be told
			g = anyGraph(random, 10, 4, 120-round/10)
			for i := range g.Edges {
				g.Edges[i].Times = min(100, g.Edges[i].Times+70)
			}
		}
		want := partedTrees(g)
		n, err := sand.Trees(g)
		if want.Cmp(most) > 0 {
			many++
			if plain.Told(err) != api.ErrFull || n != 0 {
				t.Errorf("Trees(%v): %d, %v, want ErrFull", g, n, err)
			}
			continue
		}
		told++
		if err != nil || big.NewInt(int64(n)).Cmp(want) != 0 {
			t.Errorf("Trees(%v): %d, %v, want %v", g, n, err, want)
		}
	}
	if told < 100 || many < 10 {
		t.Errorf("%d counts told, %d too great", told, many)
	}
	if want := partedTrees(justBeyond()); want.Cmp(big.NewInt(1000000000000000008)) != 0 {
		t.Errorf("justBeyond has %v trees", want)
	}
}
