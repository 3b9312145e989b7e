package rotor_test

import (
	"math"
	"math/rand"
	"slices"
	"testing"

	"eden/api"
	"eden/plain"
	"eden/rotor"
	"eden/sand"
)

// gone is what chips came to that went one by one.
type gone struct {
	signs, chips, went, order []int
}

// start has nothing gone yet.
func start(g api.Graph, signs, chips []int) gone {
	return gone{signs: slices.Clone(signs), chips: slices.Clone(chips), went: make([]int, g.Places)}
}

// step has a chip go from a place, as W2 says it.
func (s *gone) step(g api.Graph, sink, place int) {
	ways := waysOf(g, place)
	s.signs[place] = (s.signs[place] + 1) % len(ways)
	s.chips[place]--
	s.chips[ways[s.signs[place]]]++
	s.chips[sink] = 0
	s.went[place]++
	s.order = append(s.order, place)
}

// slowly has chips go one at a time, each time from a place that choose takes out of those that have one.
func slowly(g api.Graph, sink int, signs, chips []int, choose func(can []int) int) gone {
	out := start(g, signs, chips)
	for {
		var can []int
		for place, n := range out.chips {
			if n > 0 {
				can = append(can, place)
			}
		}
		if len(can) == 0 {
			return out
		}
		out.step(g, sink, choose(can))
	}
}

// routed asks Route, and that what came to a place by way of all signs, with what was there, is what went from it.
func routed(t *testing.T, g api.Graph, sink int, signs, chips []int) (behind, went []int) {
	t.Helper()
	behind, went, err := rotor.Route(g, sink, signs, chips)
	if err != nil || len(behind) != g.Places || len(went) != g.Places {
		t.Fatalf("Route(%v, %d, %v, %v): %v, %v, %v", g, sink, signs, chips, behind, went, err)
	}
	come, lost := slices.Clone(chips), 0
	for place := range g.Places {
		if place == sink {
			continue
		}
		ways := waysOf(g, place)
		for i := range min(went[place], len(ways)) { // the ways behind the first sign, each so often as it comes
			to := ways[(signs[place]+1+i)%len(ways)]
			come[to] += (went[place] - i + len(ways) - 1) / len(ways)
		}
		if behind[place] != (signs[place]+went[place])%len(ways) {
			t.Errorf("Route(%v, %d, %v, %v): %v, %v: the sign of %d", g, sink, signs, chips, behind, went, place)
		}
	}
	come[sink], lost = 0, come[sink]
	if !slices.Equal(come, went) || behind[sink] != 0 || lost != sumOf(chips) {
		t.Errorf("Route(%v, %d, %v, %v): %v, %v; come %v, lost %d", g, sink, signs, chips, behind, went, come, lost)
	}
	return behind, went
}

func sumOf(numbers []int) int {
	sum := 0
	for _, n := range numbers {
		sum += n
	}
	return sum
}

// smallGraphs are all connected ones of as many places with up to so many Times between each two.
func smallGraphs(places, times int) []api.Graph {
	pairs := full(places, 1).Edges
	var out []api.Graph
	for _, numbers := range boxed(slices.Repeat([]int{times + 1}, len(pairs))) {
		g := api.Graph{Places: places}
		for i, e := range pairs {
			if numbers[i] > 0 {
				g.Edges = append(g.Edges, api.Edge{A: e.B, B: e.A, Times: numbers[i]})
			}
		}
		if sand.Check(g) == nil {
			out = append(out, g)
		}
	}
	return out
}

// boxed are all lists of numbers from 0, each below its bound.
func boxed(bounds []int) [][]int {
	out := [][]int{{}}
	for _, bound := range bounds {
		var longer [][]int
		for _, list := range out {
			for n := range bound {
				longer = append(longer, append(slices.Clone(list), n))
			}
		}
		out = longer
	}
	return out
}

// allSigns are all that there are.
func allSigns(g api.Graph, sink int) [][]int {
	bounds := make([]int, g.Places)
	for place := range bounds {
		bounds[place] = len(waysOf(g, place))
	}
	bounds[sink] = 1
	return boxed(bounds)
}

// ends tells whether signs lead to the sink: those that lead there at once, those that lead to these, and so on, are all.
func ends(g api.Graph, sink int, signs []int) bool {
	led := []int{sink}
	for i := 0; i < len(led); i++ {
		for place := range g.Places {
			if place != sink && !slices.Contains(led, place) && waysOf(g, place)[signs[place]] == led[i] {
				led = append(led, place)
			}
		}
	}
	return len(led) == g.Places
}

// TestWays: W1, W2: ways stand in the order of the edges, whichever end the place is, each Times over; the sign is turned ahead of going.
func TestWays(t *testing.T) {
	fork := graph(4, 0, 1, 1, 2, 0, 1, 0, 3, 1)   // of 0: 1 2 3
	back := graph(4, 3, 0, 1, 0, 2, 1, 1, 0, 1)   // of 0: 3 2 1
	many := graph(4, 0, 2, 2, 3, 0, 3, 0, 1, 1)   // of 0: 2 2 3 3 3 1
	parted := graph(3, 0, 1, 1, 2, 0, 1, 1, 0, 2) // of 0: 1 2 1 1
	double := graph(3, 0, 1, 2, 1, 0, 1, 0, 2, 1) // of 0: 1 1 1 2
	far := graph(4, 2, 3, 5, 0, 1, 1, 1, 2, 1)    // of 2: 3 3 3 3 3 1
	cases := []struct {
		g     api.Graph
		sink  int
		place int
		goes  []int // where chips go to from there, one by one, the sign being 0 at first
	}{
		{fork, 1, 0, []int{2, 3, 1, 2, 3, 1}},
		{back, 1, 0, []int{2, 1, 3, 2, 1, 3}},
		{many, 1, 0, []int{2, 3, 3, 3, 1, 2, 2, 3}},
		{parted, 2, 0, []int{2, 1, 1, 1, 2, 1}},
		{double, 2, 0, []int{1, 1, 2, 1, 1, 1, 2}},
		{far, 0, 2, []int{3, 3, 3, 3, 1, 3, 3}},
		{far, 0, 3, []int{2, 2, 2, 2, 2, 2}},
		{graph(2, 0, 1, 1), 1, 0, []int{1, 1, 1}},
	}
	for _, c := range cases {
		chips := make([]int, c.g.Places)
		chips[c.place] = len(c.goes)
		signs := make([]int, c.g.Places)
		want := slices.Clone(chips)
		for i := range len(c.goes) + 1 {
			s, left, err := rotor.Walk(c.g, c.sink, signs, chips, slices.Repeat([]int{c.place}, i))
			if err != nil || !slices.Equal(left, want) || s[c.place] != i%len(waysOf(c.g, c.place)) {
				t.Errorf("Walk(%v, %d, %v, %v, %d times %d): %v, %v, %v, want %v", c.g, c.sink, signs, chips, i, c.place, s, left, err, want)
			}
			if i < len(c.goes) {
				want[c.place]--
				want[c.goes[i]]++
				want[c.sink] = 0
			}
		}
	}
}

// TestRouteKnown: W2: what can be reckoned by hand.
func TestRouteKnown(t *testing.T) {
	cases := []struct {
		g                        api.Graph
		sink                     int
		signs, chips, then, went []int
	}{
		{graph(2, 0, 1, 2), 0, []int{0, 0}, []int{0, 3}, []int{0, 1}, []int{0, 3}},
		{graph(2, 0, 1, 2), 0, []int{0, 1}, []int{0, 1}, []int{0, 0}, []int{0, 1}}, // behind the last way comes the first
		{graph(2, 0, 1, 2), 1, []int{1, 0}, []int{4, 0}, []int{1, 0}, []int{4, 0}},
		{graph(2, 0, 1, 1), 0, []int{0, 0}, []int{0, 1000}, []int{0, 0}, []int{0, 1000}},
		{full(3, 1), 0, []int{0, 1, 1}, []int{0, 2, 0}, []int{0, 1, 0}, []int{0, 2, 1}},
		{full(3, 1), 0, []int{0, 0, 0}, []int{0, 1, 0}, []int{0, 0, 1}, []int{0, 2, 1}}, // there, back, and to the sink
		{path(2, 1), 0, []int{0, 0, 0}, []int{0, 1, 0}, []int{0, 0, 0}, []int{0, 2, 1}},
		{path(2, 1), 0, []int{0, 1, 0}, []int{0, 1, 0}, []int{0, 0, 0}, []int{0, 1, 0}},
		{path(2, 1), 1, []int{0, 0, 0}, []int{7, 0, 5}, []int{0, 0, 0}, []int{7, 0, 5}},
		{path(3, 1), 0, []int{0, 0, 0, 0}, []int{0, 0, 0, 1}, []int{0, 0, 0, 0}, []int{0, 2, 4, 3}},
		{full(3, 1), 2, []int{1, 1, 0}, []int{0, 0, 0}, []int{1, 1, 0}, []int{0, 0, 0}},
	}
	for _, c := range cases {
		if then, went := routed(t, c.g, c.sink, c.signs, c.chips); !slices.Equal(then, c.then) || !slices.Equal(went, c.went) {
			t.Errorf("Route(%v, %d, %v, %v): %v, %v, want %v, %v", c.g, c.sink, c.signs, c.chips, then, went, c.then, c.went)
		}
	}
}

// TestAnyOrder: W2, W3: signs and counts come out whatever order chips go in; and Walk by each such order comes to the same signs, with no chip left.
func TestAnyOrder(t *testing.T) {
	random := rand.New(rand.NewSource(4))
	turn := 0
	orders := []func([]int) int{
		func(can []int) int { return can[0] },
		func(can []int) int { return can[len(can)-1] },
		func(can []int) int { return can[len(can)/2] },
		func(can []int) int { return can[random.Intn(len(can))] },
		func(can []int) int { turn++; return can[turn%len(can)] },
	}
	for round := range 300 {
		g := anyGraph(random, 1+random.Intn(6), 6, 1+random.Intn(4))
		sink := random.Intn(g.Places)
		signs, chips := anySigns(random, g, sink), anyChips(random, g.Places, sink, 1+round%12)
		then, went := routed(t, g, sink, signs, chips)
		for i, choose := range orders {
			want := slowly(g, sink, signs, chips, choose)
			if !slices.Equal(then, want.signs) || !slices.Equal(went, want.went) {
				t.Errorf("Route(%v, %d, %v, %v): %v, %v; by order %d: %v, %v", g, sink, signs, chips, then, went, i, want.signs, want.went)
			}
			s, c, err := rotor.Walk(g, sink, signs, chips, want.order)
			if err != nil || !slices.Equal(s, then) || !slices.Equal(c, make([]int, g.Places)) {
				t.Errorf("Walk(%v, %d, %v, %v, %v): %v, %v, %v, want %v", g, sink, signs, chips, want.order, s, c, err, then)
			}
		}
	}
}

// TestWalk: W2, W3: an order that can be gone, to each of its beginnings, with Route going on from there; at its end no chip can go.
func TestWalk(t *testing.T) {
	random := rand.New(rand.NewSource(5))
	for range 150 {
		g := anyGraph(random, 2+random.Intn(4), 5, 3)
		sink := random.Intn(g.Places)
		signs, chips := anySigns(random, g, sink), anyChips(random, g.Places, sink, 6)
		then, went := routed(t, g, sink, signs, chips)
		order := slowly(g, sink, signs, chips, func(can []int) int { return can[random.Intn(len(can))] }).order
		now := start(g, signs, chips)
		for i := range len(order) + 1 {
			s, c, err := rotor.Walk(g, sink, signs, chips, order[:i])
			if err != nil || !slices.Equal(s, now.signs) || !slices.Equal(c, now.chips) {
				t.Fatalf("Walk(%v, %d, %v, %v, %v): %v, %v, %v, want %v, %v", g, sink, signs, chips, order[:i], s, c, err, now.signs, now.chips)
			}
			rest, more := routed(t, g, sink, s, c)
			for place := range more {
				more[place] += now.went[place]
			}
			if !slices.Equal(rest, then) || !slices.Equal(more, went) {
				t.Errorf("%v, %d, %v, %v: Route behind %v: %v, %v, want %v, %v", g, sink, signs, chips, order[:i], rest, more, then, went)
			}
			if i < len(order) {
				now.step(g, sink, order[i])
			}
		}
		for place := range g.Places {
			want := api.ErrState
			if place == sink {
				want = api.ErrRange
			}
			notWalked(t, g, sink, signs, chips, append(slices.Clone(order), place), want)
		}
	}
}

// TestWalkMany: W2: Walk takes more chips than Route, and a place may come to have more than 10000.
func TestWalkMany(t *testing.T) {
	g := path(2, 1)
	s, c, err := rotor.Walk(g, 0, []int{0, 0, 0}, []int{0, 10000, 10000}, slices.Repeat([]int{2}, 10000))
	if err != nil || !slices.Equal(s, []int{0, 0, 0}) || !slices.Equal(c, []int{0, 20000, 0}) {
		t.Errorf("all from 2: %v, %v, %v", s, c, err)
	}
	s, c, err = rotor.Walk(g, 0, []int{0, 0, 0}, []int{0, 10000, 10000}, slices.Repeat([]int{1}, 9999))
	if err != nil || !slices.Equal(s, []int{0, 1, 0}) || !slices.Equal(c, []int{0, 1, 15000}) {
		t.Errorf("all but one from 1: %v, %v, %v", s, c, err)
	}
}

// TestWalkFaults: W2: of an order the first fault is told, whatever stands behind it.
func TestWalkFaults(t *testing.T) {
	g, signs, chips := full(3, 1), []int{0, 0, 0}, []int{1, 0, 0} // from 0 the chip goes to 2, and from there to 1, which is the sink
	cases := []struct {
		order []int
		want  api.Errno
	}{
		{nil, api.OK}, {[]int{}, api.OK}, {[]int{0}, api.OK}, {[]int{0, 2}, api.OK},
		{[]int{2}, api.ErrState}, {[]int{0, 0}, api.ErrState}, {[]int{0, 2, 2}, api.ErrState}, {[]int{0, 2, 0}, api.ErrState}, {[]int{2, 0}, api.ErrState},
		{[]int{1}, api.ErrRange}, {[]int{-1}, api.ErrRange}, {[]int{3}, api.ErrRange},
		{[]int{math.MinInt}, api.ErrRange}, {[]int{math.MaxInt}, api.ErrRange}, {[]int{1 << 32}, api.ErrRange},
		{[]int{0, 1}, api.ErrRange}, {[]int{0, -1}, api.ErrRange}, {[]int{0, 2, 3}, api.ErrRange}, {[]int{0, 2, 1}, api.ErrRange},
		{[]int{2, 1}, api.ErrState}, {[]int{2, -1}, api.ErrState}, {[]int{2, 3, 3}, api.ErrState}, {[]int{0, 0, 1}, api.ErrState},
		{[]int{1, 2}, api.ErrRange}, {[]int{-1, 2}, api.ErrRange}, {[]int{3, 2}, api.ErrRange}, {[]int{0, 1, 2, 2}, api.ErrRange},
	}
	for _, c := range cases {
		s, left, err := rotor.Walk(g, 1, signs, chips, c.order)
		if plain.Told(err) != c.want || err != nil && len(s)+len(left) != 0 || err == nil && (len(s) != 3 || len(left) != 3) {
			t.Errorf("Walk by %v: %v, %v, %v, want %v", c.order, s, left, err, c.want)
		}
	}
	// What is wrong with signs and chips is told ahead of what is wrong with an order.
	notWalked(t, g, 1, []int{0, 0}, chips, []int{-1}, api.ErrShape)
	notWalked(t, g, 1, []int{0, 0, 2}, chips, []int{2}, api.ErrRange)
	notWalked(t, g, 1, signs, []int{1, 0}, []int{-1}, api.ErrShape)
	notWalked(t, g, 1, signs, []int{1, 0, 10001}, []int{0, 0}, api.ErrRange)
}

// TestTree: W3: signs that lead to the sink, and signs that lead round.
func TestTree(t *testing.T) {
	cases := []struct {
		g     api.Graph
		sink  int
		signs []int
		want  bool
	}{
		{full(3, 1), 0, []int{0, 0, 0}, true},
		{full(3, 1), 0, []int{0, 1, 0}, true},
		{full(3, 1), 0, []int{0, 0, 1}, true},
		{full(3, 1), 0, []int{0, 1, 1}, false}, // 1 and 2 lead to each other
		{full(3, 1), 2, []int{0, 0, 0}, false},
		{graph(2, 0, 1, 3), 1, []int{2, 0}, true},
		{path(9, 1), 0, []int{0, 0, 0, 0, 0, 0, 0, 0, 0, 0}, true},
		{path(9, 1), 0, []int{0, 0, 0, 0, 0, 0, 0, 0, 1, 0}, false},
		{path(9, 1), 0, []int{0, 1, 0, 0, 0, 0, 0, 0, 0, 0}, false},
		{path(9, 1), 9, []int{0, 1, 1, 1, 1, 1, 1, 1, 1, 0}, true},
		{path(9, 1), 4, []int{0, 1, 1, 1, 0, 0, 0, 0, 0, 0}, true},
		{ring(4, 1), 0, []int{0, 1, 1, 1}, true},                                    // 1 to 2, 2 to 3, 3 to 0
		{ring(4, 1), 0, []int{0, 1, 1, 0}, false},                                   // 3 back to 2
		{graph(4, 0, 1, 1, 1, 2, 1, 2, 3, 1, 3, 1, 1), 0, []int{0, 1, 1, 1}, false}, // 1 to 2 to 3 to 1
		{graph(4, 0, 1, 1, 1, 2, 1, 2, 3, 1, 3, 1, 1), 0, []int{0, 0, 1, 1}, true},
	}
	for _, c := range cases {
		if yes, err := rotor.Tree(c.g, c.sink, c.signs); err != nil || yes != c.want {
			t.Errorf("Tree(%v, %d, %v): %v, %v, want %v", c.g, c.sink, c.signs, yes, err, c.want)
		}
	}
	random := rand.New(rand.NewSource(6))
	counts := map[bool]int{}
	for range 3000 {
		g := anyGraph(random, 1+random.Intn(10), random.Intn(30), 1+random.Intn(9))
		sink := random.Intn(g.Places)
		signs := anySigns(random, g, sink)
		want := ends(g, sink, signs)
		counts[want]++
		if yes, err := rotor.Tree(g, sink, signs); err != nil || yes != want {
			t.Errorf("Tree(%v, %d, %v): %v, %v, want %v", g, sink, signs, yes, err, want)
		}
	}
	if counts[true] < 100 || counts[false] < 100 {
		t.Errorf("trees or not: %v", counts)
	}
}

// TestTrees: W3: on all small graphs, whichever place is the sink: there are as many signs that lead there as Trees, they do behind Route, too, and no two unlike ones come to the same by chips on one place alone.
func TestTrees(t *testing.T) {
	graphs := slices.Concat([]api.Graph{{Places: 1}}, smallGraphs(2, 5), smallGraphs(3, 3), smallGraphs(4, 1), []api.Graph{ring(5, 1), path(4, 2), full(4, 2)})
	for _, g := range graphs {
		count, err := sand.Trees(g)
		if err != nil {
			t.Fatalf("Trees(%v): %v", g, err)
		}
		for sink := range g.Places {
			var trees [][]int
			for _, signs := range allSigns(g, sink) {
				yes, err := rotor.Tree(g, sink, signs)
				if err != nil || yes != ends(g, sink, signs) {
					t.Errorf("Tree(%v, %d, %v): %v, %v", g, sink, signs, yes, err)
				}
				if yes {
					trees = append(trees, signs)
				}
			}
			if len(trees) != count {
				t.Errorf("%v, %d: %d signs lead there, %d trees", g, sink, len(trees), count)
			}
			exchanged(t, g, sink, trees)
		}
	}
}

// exchanged asks that chips on one place alone make of all trees all trees.
func exchanged(t *testing.T, g api.Graph, sink int, trees [][]int) {
	t.Helper()
	for place := range g.Places {
		if place == sink {
			continue
		}
		for _, n := range []int{1, 2, 3, 7} {
			chips := make([]int, g.Places)
			chips[place] = n
			var behind [][]int
			for _, signs := range trees {
				then, _ := routed(t, g, sink, signs, chips)
				behind = append(behind, then)
			}
			slices.SortFunc(behind, slices.Compare[[]int])
			if !slices.EqualFunc(behind, trees, slices.Equal[[]int]) {
				t.Errorf("%v, %d: %d chips on %d make of %v: %v", g, sink, n, place, trees, behind)
			}
		}
	}
}

// TestTreesStay: W3: on greater graphs, too, trees are some behind Route, with chips anywhere, and unlike ones stay unlike.
func TestTreesStay(t *testing.T) {
	random := rand.New(rand.NewSource(7))
	for range 500 {
		g := anyGraph(random, 2+random.Intn(9), 20, 1+random.Intn(5))
		sink := random.Intn(g.Places)
		a, b := anyTree(random, g, sink), anyTree(random, g, sink)
		if yes, err := rotor.Tree(g, sink, a); err != nil || !yes {
			t.Errorf("Tree(%v, %d, %v): %v, %v", g, sink, a, yes, err)
		}
		chips := anyChips(random, g.Places, sink, 30)
		then, _ := routed(t, g, sink, a, chips)
		if yes, err := rotor.Tree(g, sink, then); err != nil || !yes {
			t.Errorf("Tree(%v, %d, %v), behind %v with chips %v: %v, %v", g, sink, then, a, chips, yes, err)
		}
		alone := make([]int, g.Places)
		alone[(sink+1+random.Intn(g.Places-1))%g.Places] = 1 + random.Intn(100)
		fromA, _ := routed(t, g, sink, a, alone)
		fromB, _ := routed(t, g, sink, b, alone)
		if slices.Equal(a, b) != slices.Equal(fromA, fromB) {
			t.Errorf("%v, %d, %v: of %v and %v come %v and %v", g, sink, alone, a, b, fromA, fromB)
		}
	}
}

// anyTree joins places to those that lead to the sink already.
func anyTree(random *rand.Rand, g api.Graph, sink int) []int {
	signs, led := make([]int, g.Places), []int{sink}
	for len(led) < g.Places {
		place := random.Intn(g.Places)
		ways := waysOf(g, place)
		sign := random.Intn(len(ways))
		if !slices.Contains(led, place) && slices.Contains(led, ways[sign]) {
			signs[place] = sign
			led = append(led, place)
		}
	}
	return signs
}

// TestSand: sand and signs are one: a place that topples turns its sign once round, so chips and what they settle to come to the same signs, and Identity changes no tree.
func TestSand(t *testing.T) {
	random := rand.New(rand.NewSource(8))
	for range 300 {
		g := anyGraph(random, 1+random.Intn(10), 20, 1+random.Intn(4))
		sink := random.Intn(g.Places)
		signs, chips := anySigns(random, g, sink), anyChips(random, g.Places, sink, 100)
		p, err := sand.Settle(g, sink, chips)
		if err != nil {
			t.Fatalf("Settle(%v, %d, %v): %v", g, sink, chips, err)
		}
		a, went := routed(t, g, sink, signs, chips)
		b, less := routed(t, g, sink, signs, p.Chips)
		for place := range less {
			less[place] += p.Topples[place] * len(waysOf(g, place))
		}
		if !slices.Equal(a, b) || !slices.Equal(went, less) {
			t.Errorf("%v, %d, %v, %v: %v, %v; settled first: %v, %v", g, sink, signs, chips, a, went, b, less)
		}
		identity, err := sand.Identity(g, sink)
		if err != nil || sumOf(identity) > 1000 {
			t.Fatalf("Identity(%v, %d): %v, %v", g, sink, identity, err)
		}
		tree := anyTree(random, g, sink)
		if then, _ := routed(t, g, sink, tree, identity); !slices.Equal(then, tree) {
			t.Errorf("%v, %d: Identity %v makes of %v: %v", g, sink, identity, tree, then)
		}
	}
}

// TestFar: W2, P1: the most chips, where they hardly find the sink: some 51000 times a chip goes till it is lost.
func TestFar(t *testing.T) {
	far := path(9, 1)
	far.Edges[8].Times = 100
	for len(far.Edges) < api.MaxEdges {
		far.Edges = append(far.Edges, api.Edge{A: 8, B: 9, Times: 100})
	}
	chips := make([]int, 10)
	chips[9] = 1000
	for _, signs := range [][]int{make([]int, 10), {0, 1, 1, 1, 1, 1, 1, 1, 1, 0}, {0, 1, 1, 1, 1, 1, 1, 1, 3200, 3199}} {
		if _, went := routed(t, far, 0, signs, chips); sumOf(went) < 50000000 {
			t.Errorf("Route of %v: went %v", signs, went)
		}
	}
}
