package rotor_test

import (
	"math"
	"math/rand"
	"slices"
	"testing"

	"eden/api"
	"eden/plain"
	"eden/rotor"
	"eden/sand"
)

// graph takes the numbers of its edges by threes.
func graph(places int, numbers ...int) api.Graph {
	g := api.Graph{Places: places}
	for i := 0; i+2 < len(numbers); i += 3 {
		g.Edges = append(g.Edges, api.Edge{A: numbers[i], B: numbers[i+1], Times: numbers[i+2]})
	}
	return g
}

// path has as many edges, one behind the other.
func path(edges, times int) api.Graph {
	g := api.Graph{Places: edges + 1}
	for i := range edges {
		g.Edges = append(g.Edges, api.Edge{A: i, B: i + 1, Times: times})
	}
	return g
}

func ring(places, times int) api.Graph {
	g := path(places-1, times)
	g.Edges = append(g.Edges, api.Edge{A: places - 1, B: 0, Times: times})
	return g
}

// full has an edge between each two places.
func full(places, times int) api.Graph {
	g := api.Graph{Places: places}
	for b := range places {
		for a := range b {
			g.Edges = append(g.Edges, api.Edge{A: a, B: b, Times: times})
		}
	}
	return g
}

// anyGraph is a connected one of as many places, with up to as many edges more than it needs.
func anyGraph(random *rand.Rand, places, more, times int) api.Graph {
	g := api.Graph{Places: places}
	number := random.Perm(places)
	join := func(a, b int) {
		if random.Intn(2) == 0 {
			a, b = b, a
		}
		g.Edges = append(g.Edges, api.Edge{A: number[a], B: number[b], Times: 1 + random.Intn(times)})
	}
	for b := 1; b < places; b++ {
		join(random.Intn(b), b)
	}
	for range random.Intn(more + 1) {
		if a, b := random.Intn(places), random.Intn(places); a != b {
			join(a, b)
		}
	}
	random.Shuffle(len(g.Edges), func(i, j int) { g.Edges[i], g.Edges[j] = g.Edges[j], g.Edges[i] })
	return g
}

// waysOf a place, as W1 says it: edge by edge, so many times the other end.
func waysOf(g api.Graph, place int) []int {
	var out []int
	for _, e := range g.Edges {
		switch place {
		case e.A:
			out = append(out, slices.Repeat([]int{e.B}, e.Times)...)
		case e.B:
			out = append(out, slices.Repeat([]int{e.A}, e.Times)...)
		}
	}
	return out
}

// anySigns are ways' numbers, of the sink 0.
func anySigns(random *rand.Rand, g api.Graph, sink int) []int {
	out := make([]int, g.Places)
	for place := range out {
		if place != sink {
			out[place] = random.Intn(len(waysOf(g, place)))
		}
	}
	return out
}

// anyChips are from 0 to most, of the sink 0.
func anyChips(random *rand.Rand, places, sink, most int) []int {
	out := make([]int, places)
	for place := range out {
		out[place] = random.Intn(most + 1)
	}
	out[sink] = 0
	return out
}

// beyond are numbers outside of low to high, those beside them among them.
func beyond(low, high int) []int {
	return []int{math.MinInt, math.MinInt + 1, -1 << 32, low - 2, low - 1, high + 1, high + 2, 1 << 32, math.MaxInt}
}

// notRouted asks that Route tells an error, and answers nothing beside it.
func notRouted(t *testing.T, g api.Graph, sink int, signs, chips []int, want api.Errno) {
	t.Helper()
	if s, w, err := rotor.Route(g, sink, signs, chips); plain.Told(err) != want || len(s) != 0 || len(w) != 0 {
		t.Errorf("Route(%v, %d, %v, %v): %v, %v, %v, want %v", g, sink, signs, chips, s, w, err, want)
	}
}

// notWalked asks the same of Walk.
func notWalked(t *testing.T, g api.Graph, sink int, signs, chips, order []int, want api.Errno) {
	t.Helper()
	if s, c, err := rotor.Walk(g, sink, signs, chips, order); plain.Told(err) != want || len(s) != 0 || len(c) != 0 {
		t.Errorf("Walk(%v, %d, %v, %v, %v): %v, %v, %v, want %v", g, sink, signs, chips, order, s, c, err, want)
	}
}

// refusedChips asks that both calls that take chips tell an error, whatever the order is.
func refusedChips(t *testing.T, g api.Graph, sink int, signs, chips []int, want api.Errno) {
	t.Helper()
	notRouted(t, g, sink, signs, chips, want)
	for _, order := range [][]int{nil, {0}, {-1}, {1, 1}, {math.MaxInt}} {
		notWalked(t, g, sink, signs, chips, order, want)
	}
}

// refusedSigns asks that each call tells an error, whatever the chips are.
func refusedSigns(t *testing.T, g api.Graph, sink int, signs []int, want api.Errno) {
	t.Helper()
	if yes, err := rotor.Tree(g, sink, signs); plain.Told(err) != want || yes {
		t.Errorf("Tree(%v, %d, %v): %v, %v, want %v", g, sink, signs, yes, err, want)
	}
	for _, chips := range [][]int{nil, {0}, {-1}, {0, 0}, {1, 1, 1}, {0, 10001, 0}, {10000, 10000}, make([]int, 10), make([]int, 11)} {
		refusedChips(t, g, sink, signs, chips, want)
	}
}

// refusedSink asks the same, whatever the signs are, too.
func refusedSink(t *testing.T, g api.Graph, sink int, want api.Errno) {
	t.Helper()
	for _, signs := range [][]int{nil, {0}, {-1}, {0, 0}, {0, 9999}, {0, 0, 0}, make([]int, 10), make([]int, 11)} {
		refusedSigns(t, g, sink, signs, want)
	}
}

// refused asks that each call tells of a graph what Check says, whatever else is wrong.
func refused(t *testing.T, g api.Graph, want api.Errno) {
	t.Helper()
	if err := sand.Check(g); plain.Told(err) != want {
		t.Errorf("Check(%v): %v, want %v", g, err, want)
	}
	for _, sink := range []int{0, g.Places - 1, -1, g.Places, math.MaxInt} {
		refusedSink(t, g, sink, want)
	}
}

// takenSigns asks that each call takes the signs, and that without chips nothing comes of them.
func takenSigns(t *testing.T, g api.Graph, sink int, signs []int) {
	t.Helper()
	none := make([]int, g.Places)
	if s, w, err := rotor.Route(g, sink, signs, none); err != nil || !slices.Equal(s, signs) || !slices.Equal(w, none) {
		t.Errorf("Route(%v, %d, %v, no chips): %v, %v, %v", g, sink, signs, s, w, err)
	}
	takenChips(t, g, sink, signs, none)
	if _, err := rotor.Tree(g, sink, signs); err != nil {
		t.Errorf("Tree(%v, %d, %v): %v", g, sink, signs, err)
	}
}

// takenChips asks that Walk takes the chips, and that by an empty order nothing comes of them.
func takenChips(t *testing.T, g api.Graph, sink int, signs, chips []int) {
	t.Helper()
	for _, order := range [][]int{nil, {}} {
		if s, c, err := rotor.Walk(g, sink, signs, chips, order); err != nil || !slices.Equal(s, signs) || !slices.Equal(c, chips) {
			t.Errorf("Walk(%v, %d, %v, %v, none): %v, %v, %v", g, sink, signs, chips, s, c, err)
		}
	}
}

// TestExample: the document's table.
func TestExample(t *testing.T) {
	s, w, err := rotor.Route(graph(2, 0, 1, 2), 0, []int{0, 0}, []int{0, 3})
	if err != nil || !slices.Equal(s, []int{0, 1}) || !slices.Equal(w, []int{0, 3}) {
		t.Errorf("Route: %v, %v, %v", s, w, err)
	}
}

// TestGraphs: W1: what Check says comes ahead of all else.
func TestGraphs(t *testing.T) {
	for _, places := range append(beyond(1, api.MaxPlaces), 0) {
		refused(t, api.Graph{Places: places}, api.ErrRange)
		refused(t, api.Graph{Places: places, Edges: make([]api.Edge, 41)}, api.ErrRange)
	}
	refused(t, path(10, 1), api.ErrRange)
	refused(t, full(10, 1), api.ErrFull) // 45 edges
	refused(t, api.Graph{Places: 2, Edges: make([]api.Edge, 41)}, api.ErrFull)
	for _, n := range beyond(0, 2) {
		refused(t, graph(3, 0, 1, 1, 1, 2, 1, n, 0, 1), api.ErrRange)
		refused(t, graph(3, 0, n, 1, 0, 1, 1, 1, 2, 1), api.ErrRange)
	}
	refused(t, graph(3, 0, 1, 1, 1, 1, 1, 1, 2, 1), api.ErrRange)
	for _, times := range append(beyond(1, 100), 0) {
		refused(t, graph(3, 0, 1, 1, 1, 2, times), api.ErrRange)
	}
	refused(t, graph(4, 0, 1, 1, 0, 1, 0), api.ErrRange)
	for _, g := range []api.Graph{{Places: 2}, {Places: 10}, graph(3, 0, 1, 1), graph(4, 0, 1, 1, 2, 3, 1)} {
		refused(t, g, api.ErrShape)
	}
}

// TestSinks: W1: there is such a sink; that is told ahead of what is wrong with signs, chips and orders.
func TestSinks(t *testing.T) {
	for places := 1; places <= api.MaxPlaces; places++ {
		g := path(places-1, 2)
		for _, sink := range beyond(0, places-1) {
			refusedSink(t, g, sink, api.ErrRange)
		}
		for sink := range places {
			takenSigns(t, g, sink, make([]int, places))
		}
	}
}

// TestHowManySigns: W1: a sign for each place, told ahead of the signs themselves.
func TestHowManySigns(t *testing.T) {
	for places := 1; places <= api.MaxPlaces; places++ {
		g := path(places-1, 3)
		for sink := range places {
			for _, count := range []int{0, places - 1, places + 1, places + 2, 100} {
				if count == places {
					continue
				}
				for _, sign := range []int{0, 1, -1, 6, math.MaxInt} {
					refusedSigns(t, g, sink, slices.Repeat([]int{sign}, count), api.ErrShape)
				}
			}
			takenSigns(t, g, sink, make([]int, places+5)[:places])
		}
	}
	refusedSigns(t, full(3, 1), 0, nil, api.ErrShape)
}

// TestSigns: W1: each is a way's number, from 0 on; of the sink it is 0.
func TestSigns(t *testing.T) {
	random := rand.New(rand.NewSource(1))
	graphs := []api.Graph{graph(2, 0, 1, 1), graph(2, 0, 1, 100), graph(2, 0, 1, 2, 1, 0, 3), full(3, 1), path(4, 2), ring(5, 100)}
	for range 20 {
		graphs = append(graphs, anyGraph(random, 2+random.Intn(9), 31, 1+random.Intn(5)))
	}
	for _, g := range graphs {
		for _, sink := range []int{0, g.Places / 2, g.Places - 1} {
			for place := range g.Places {
				signs := anySigns(random, g, sink)
				last := len(waysOf(g, place)) - 1
				may, no := []int{0, last / 2, last}, beyond(0, last)
				if place == sink {
					may, no = []int{0}, append(beyond(0, 0), last+1)
				}
				for _, signs[place] = range may {
					takenSigns(t, g, sink, signs)
				}
				for _, signs[place] = range no {
					refusedSigns(t, g, sink, signs, api.ErrRange)
				}
			}
		}
	}
}

// TestChips: W1: of chips S2's errors, behind those of signs: as many, from 0 to 10000, of the sink 0.
func TestChips(t *testing.T) {
	for places := 1; places <= api.MaxPlaces; places++ {
		g, signs := path(places-1, 2), make([]int, places)
		for sink := range places {
			for _, count := range []int{0, places - 1, places + 1, places + 2, 100} {
				if count == places {
					continue
				}
				for _, n := range []int{0, 1, -1, 10000, 10001} {
					refusedChips(t, g, sink, signs, slices.Repeat([]int{n}, count), api.ErrShape)
				}
			}
			for place := range places {
				chips := make([]int, places)
				may, no := []int{0, 1, 9999, 10000}, beyond(0, 10000)
				if place == sink {
					may, no = []int{0}, append(beyond(0, 0), 10000)
				}
				for _, chips[place] = range may {
					takenChips(t, g, sink, signs, chips)
				}
				for _, chips[place] = range no {
					refusedChips(t, g, sink, signs, chips, api.ErrRange)
				}
			}
		}
	}
	// A number that is none is told ahead of chips that are too many together, and behind signs that are wrong.
	g := full(3, 1)
	refusedChips(t, g, 1, []int{0, 0, 0}, []int{10000, 0, -1}, api.ErrRange)
	refusedChips(t, g, 1, []int{0, 0, 0}, []int{10000, 1, 10000}, api.ErrRange)
	refusedChips(t, g, 1, []int{0, 0, 2}, []int{10000, 0}, api.ErrRange)
	refusedChips(t, g, 1, []int{0, 0}, []int{-1, 0, 0}, api.ErrShape)
}

// TestTogether: W2: Route takes 1000 chips together and not 1001, on however many places; Walk takes them all.
func TestTogether(t *testing.T) {
	random := rand.New(rand.NewSource(2))
	for _, g := range []api.Graph{graph(2, 0, 1, 3), full(3, 1), path(3, 1), ring(5, 2), anyGraph(random, 10, 31, 5)} {
		for sink := range g.Places {
			signs := anySigns(random, g, sink)
			chips := make([]int, g.Places)
			for range 1000 {
				chips[(sink+1+random.Intn(g.Places-1))%g.Places]++
			}
			routed(t, g, sink, signs, chips)
			place := (sink + 1) % g.Places
			for _, more := range []int{1, 2, 1000, 8000} {
				chips[place] += more
				notRouted(t, g, sink, signs, chips, api.ErrFull)
				takenChips(t, g, sink, signs, chips)
				chips[place] -= more
			}
			alone := make([]int, g.Places)
			alone[place] = 1000
			routed(t, g, sink, signs, alone)
			alone[place] = 1001
			notRouted(t, g, sink, signs, alone, api.ErrFull)
		}
	}
	most := slices.Repeat([]int{10000}, 10)
	most[9] = 0
	notRouted(t, path(9, 1), 9, make([]int, 10), most, api.ErrFull)
	takenChips(t, path(9, 1), 9, make([]int, 10), most)
}

// TestAlone: W1 to W3: a place alone is the sink, and no chip is on it.
func TestAlone(t *testing.T) {
	g := api.Graph{Places: 1}
	if s, w, err := rotor.Route(g, 0, []int{0}, []int{0}); err != nil || !slices.Equal(s, []int{0}) || !slices.Equal(w, []int{0}) {
		t.Errorf("Route: %v, %v, %v", s, w, err)
	}
	if s, c, err := rotor.Walk(g, 0, []int{0}, []int{0}, nil); err != nil || !slices.Equal(s, []int{0}) || !slices.Equal(c, []int{0}) {
		t.Errorf("Walk: %v, %v, %v", s, c, err)
	}
	if yes, err := rotor.Tree(g, 0, []int{0}); err != nil || !yes {
		t.Errorf("Tree: %v, %v", yes, err)
	}
	for _, place := range []int{-1, 0, 1} {
		notWalked(t, g, 0, []int{0}, []int{0}, []int{place}, api.ErrRange)
	}
	refusedSigns(t, g, 0, []int{1}, api.ErrRange)
	refusedSigns(t, g, 0, []int{-1}, api.ErrRange)
	refusedSigns(t, g, 0, []int{0, 0}, api.ErrShape)
	refusedChips(t, g, 0, []int{0}, []int{1}, api.ErrRange)
	refusedChips(t, g, 0, []int{0}, nil, api.ErrShape)
	refusedSink(t, g, 1, api.ErrRange)
}

// TestAnyNumbers: P1: whatever the numbers are, no call panics, and none answers anything beside an error.
func TestAnyNumbers(t *testing.T) {
	random := rand.New(rand.NewSource(3))
	odd := []int{math.MinInt, -1 << 31, -1001, -1, 0, 0, 0, 1, 1, 2, 3, 9, 10, 11, 100, 101, 1000, 1001, 10000, 10001, 1 << 31, math.MaxInt}
	one := func() int { return odd[random.Intn(len(odd))] }
	pick := func(count int) []int {
		out := make([]int, random.Intn(count))
		for i := range out {
			out[i] = one()
		}
		return out
	}
	well := 0
	for range 30000 {
		g := anyGraph(random, 1+random.Intn(4), 3, 1+random.Intn(5))
		sink := random.Intn(g.Places)
		signs, chips, order := anySigns(random, g, sink), anyChips(random, g.Places, sink, 3), random.Perm(g.Places)[:g.Places/2]
		switch random.Intn(8) {
		case 0:
			g = graph(one(), pick(7)...)
		case 1:
			sink = one()
		case 2:
			signs = pick(5)
		case 3:
			chips = pick(5)
		case 4:
			order = pick(5)
		case 5:
			signs[random.Intn(len(signs))] = one()
			chips[random.Intn(len(chips))] = one()
		}
		if same(t, g, sink, signs, chips, order) {
			well++
		}
	}
	if well < 1000 || well > 29000 {
		t.Errorf("%d of 30000 were well", well)
	}
}

// same asks each call twice, and tells whether nothing was wrong.
func same(t *testing.T, g api.Graph, sink int, signs, chips, order []int) bool {
	t.Helper()
	s, w, err := rotor.Route(g, sink, signs, chips)
	behind, left, bad := rotor.Walk(g, sink, signs, chips, order)
	yes, ill := rotor.Tree(g, sink, signs)
	for _, e := range []error{err, bad, ill} {
		if told := plain.Told(e); told < api.OK || told > api.ErrName || e != nil && told == api.OK {
			t.Fatalf("%v, %d, %v, %v, %v: an error that is none: %v", g, sink, signs, chips, order, e)
		}
	}
	if err != nil && len(s)+len(w) > 0 || bad != nil && len(behind)+len(left) > 0 || ill != nil && yes {
		t.Fatalf("%v, %d, %v, %v, %v: an answer beside an error", g, sink, signs, chips, order)
	}
	s2, w2, err2 := rotor.Route(g, sink, signs, chips)
	behind2, left2, bad2 := rotor.Walk(g, sink, signs, chips, order)
	yes2, ill2 := rotor.Tree(g, sink, signs)
	if !slices.Equal(s, s2) || !slices.Equal(w, w2) || !slices.Equal(behind, behind2) || !slices.Equal(left, left2) || yes != yes2 || err != err2 || bad != bad2 || ill != ill2 {
		t.Fatalf("%v, %d, %v, %v, %v: another answer the second time", g, sink, signs, chips, order)
	}
	return err == nil && bad == nil && ill == nil
}

// TestGiven: P2, P4: nothing that is handed in is written into, and what lies behind a list's length does not count.
func TestGiven(t *testing.T) {
	edges := append(full(3, 1).Edges, api.Edge{A: 99, B: 99, Times: 99}, api.Edge{A: 0, B: 1, Times: 1})
	signs, chips, order := []int{1, 0, 1, 77, -77}, []int{5, 0, 9, 20000, -5}, []int{0, 2, 2, 1, 99}
	keptEdges, keptSigns, keptChips, keptOrder := slices.Clone(edges), slices.Clone(signs), slices.Clone(chips), slices.Clone(order)
	g := api.Graph{Places: 3, Edges: edges[:3]}
	for range 2 {
		routed(t, g, 1, signs[:3], chips[:3])
		if _, c, err := rotor.Walk(g, 1, signs[:3], chips[:3], order[:3]); err != nil || len(c) != 3 {
			t.Errorf("Walk: %v, %v", c, err)
		}
		notWalked(t, g, 1, signs[:3], chips[:3], order, api.ErrRange)
		if _, err := rotor.Tree(g, 1, signs[:3]); err != nil {
			t.Errorf("Tree: %v", err)
		}
		refusedSigns(t, g, 1, signs, api.ErrShape)
		refused(t, api.Graph{Places: 3, Edges: edges}, api.ErrRange)
	}
	if !slices.Equal(edges, keptEdges) || !slices.Equal(signs, keptSigns) || !slices.Equal(chips, keptChips) || !slices.Equal(order, keptOrder) {
		t.Errorf("written into: %v, %v, %v, %v", edges, signs, chips, order)
	}
}

// TestFresh: P2: what comes out is the caller's, and shares nothing with what went in or came out before.
func TestFresh(t *testing.T) {
	g, signs, chips := full(3, 1), []int{0, 1, 1}, []int{0, 2, 0}
	for range 3 {
		a, b, _ := rotor.Route(g, 0, signs, chips)
		c, d, _ := rotor.Walk(g, 0, signs, chips, nil)
		e, f, _ := rotor.Route(g, 0, signs, []int{0, 0, 0})
		lists := [][]int{a, b, c, d, e, f}
		wants := [][]int{{0, 1, 0}, {0, 2, 1}, {0, 1, 1}, {0, 2, 0}, {0, 1, 1}, {0, 0, 0}}
		for n, list := range lists {
			if !slices.Equal(list, wants[n]) {
				t.Errorf("list %d: %v, want %v", n, list, wants[n])
			}
			// Behind its length, too, no list reaches into another.
			list = list[:cap(list)]
			for k := range list {
				list[k] = -9
			}
		}
		if !slices.Equal(signs, []int{0, 1, 1}) || !slices.Equal(chips, []int{0, 2, 0}) {
			t.Errorf("signs %v, chips %v", signs, chips)
		}
	}
}
