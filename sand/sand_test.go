package sand_test

import (
	"math"
	"math/rand"
	"runtime"
	"slices"
	"testing"

	"eden/api"
	"eden/plain"
	"eden/sand"
)

// graph takes the numbers of its edges by threes.
func graph(places int, numbers ...int) api.Graph {
	g := api.Graph{Places: places}
	for i := 0; i+2 < len(numbers); i += 3 {
		g.Edges = append(g.Edges, api.Edge{A: numbers[i], B: numbers[i+1], Times: numbers[i+2]})
	}
	return g
}

// path has as many edges, one behind the other.
func path(edges, times int) api.Graph {
	g := api.Graph{Places: edges + 1}
	for i := range edges {
		g.Edges = append(g.Edges, api.Edge{A: i, B: i + 1, Times: times})
	}
	return g
}

func ring(places, times int) api.Graph {
	g := path(places-1, times)
	g.Edges = append(g.Edges, api.Edge{A: places - 1, B: 0, Times: times})
	return g
}

// full has an edge between each two places.
func full(places, times int) api.Graph {
	g := api.Graph{Places: places}
	for b := range places {
		for a := range b {
			g.Edges = append(g.Edges, api.Edge{A: a, B: b, Times: times})
		}
	}
	return g
}

// with is a graph with one edge put into it.
func with(g api.Graph, at int, e api.Edge) api.Graph {
	return api.Graph{Places: g.Places, Edges: slices.Insert(slices.Clone(g.Edges), at, e)}
}

// anyGraph is a connected one of as many places, with up to as many edges more than it needs.
func anyGraph(random *rand.Rand, places, more, times int) api.Graph {
	g := api.Graph{Places: places}
	number := random.Perm(places)
	join := func(a, b int) {
		if random.Intn(2) == 0 {
			a, b = b, a
		}
		g.Edges = append(g.Edges, api.Edge{A: number[a], B: number[b], Times: 1 + random.Intn(times)})
	}
	for b := 1; b < places; b++ {
		join(random.Intn(b), b)
	}
	for range random.Intn(more + 1) {
		if a, b := random.Intn(places), random.Intn(places); a != b {
			join(a, b)
		}
	}
	random.Shuffle(len(g.Edges), func(i, j int) { g.Edges[i], g.Edges[j] = g.Edges[j], g.Edges[i] })
	return g
}

// anyChips are from 0 to most, of the sink 0.
func anyChips(random *rand.Rand, places, sink, most int) []int {
	out := make([]int, places)
	for place := range out {
		out[place] = random.Intn(most + 1)
	}
	out[sink] = 0
	return out
}

// beyond are numbers outside of low to high, those beside them among them.
func beyond(low, high int) []int {
	return []int{math.MinInt, math.MinInt + 1, -1 << 32, low - 2, low - 1, high + 1, high + 2, 1 << 32, math.MaxInt}
}

// refusedChips asks that each call that takes chips tells an error, and answers nothing beside it, whatever the order and the workers are.
func refusedChips(t *testing.T, g api.Graph, sink int, chips []int, want api.Errno) {
	t.Helper()
	p, err := sand.Settle(g, sink, chips)
	if plain.Told(err) != want || len(p.Chips) != 0 || len(p.Topples) != 0 {
		t.Errorf("Settle(%v, %d, %v): %v, %v, want %v", g, sink, chips, p, err, want)
	}
	for _, order := range [][]int{nil, {0}, {-1}, {1, 1}, {math.MaxInt}} {
		if c, err := sand.Topple(g, sink, chips, order); plain.Told(err) != want || len(c) != 0 {
			t.Errorf("Topple(%v, %d, %v, %v): %v, %v, want %v", g, sink, chips, order, c, err, want)
		}
	}
	for _, workers := range []int{1, 8, 0, 9, math.MinInt} {
		p, err := sand.Crowd(g, sink, chips, workers)
		if plain.Told(err) != want || len(p.Chips) != 0 || len(p.Topples) != 0 {
			t.Errorf("Crowd(%v, %d, %v, %d): %v, %v, want %v", g, sink, chips, workers, p, err, want)
		}
	}
	if order, all, err := sand.Burn(g, sink, chips); plain.Told(err) != want || all || len(order) != 0 {
		t.Errorf("Burn(%v, %d, %v): %v, %v, %v, want %v", g, sink, chips, order, all, err, want)
	}
}

func refusedSink(t *testing.T, g api.Graph, sink int, want api.Errno) {
	t.Helper()
	for _, chips := range [][]int{nil, {0}, {-1}, {0, 0}, {1, 1, 1}, {0, 10001, 0}, make([]int, 10), make([]int, 11)} {
		refusedChips(t, g, sink, chips, want)
	}
	if c, err := sand.Identity(g, sink); plain.Told(err) != want || len(c) != 0 {
		t.Errorf("Identity(%v, %d): %v, %v, want %v", g, sink, c, err, want)
	}
}

// refused asks that each call tells of a graph what Check says, whatever else is wrong.
func refused(t *testing.T, g api.Graph, want api.Errno) {
	t.Helper()
	if err := sand.Check(g); plain.Told(err) != want {
		t.Errorf("Check(%v): %v, want %v", g, err, want)
	}
	if n, err := sand.Trees(g); plain.Told(err) != want || n != 0 {
		t.Errorf("Trees(%v): %d, %v, want %v", g, n, err, want)
	}
	for _, sink := range []int{0, g.Places - 1, -1, g.Places, math.MaxInt} {
		refusedSink(t, g, sink, want)
	}
}

// taken asks that each call takes a graph, with each sink.
func taken(t *testing.T, g api.Graph) {
	t.Helper()
	if err := sand.Check(g); err != nil {
		t.Errorf("Check(%v): %v", g, err)
	}
	if _, err := sand.Trees(g); err != nil && plain.Told(err) != api.ErrFull {
		t.Errorf("Trees(%v): %v", g, err)
	}
	for sink := range g.Places {
		takenChips(t, g, sink, make([]int, g.Places))
		if c, err := sand.Identity(g, sink); err != nil || len(c) != g.Places {
			t.Errorf("Identity(%v, %d): %v, %v", g, sink, c, err)
		}
	}
}

func takenChips(t *testing.T, g api.Graph, sink int, chips []int) {
	t.Helper()
	if p, err := sand.Settle(g, sink, chips); err != nil || len(p.Chips) != g.Places || len(p.Topples) != g.Places {
		t.Errorf("Settle(%v, %d, %v): %v, %v", g, sink, chips, p, err)
	}
	if c, err := sand.Topple(g, sink, chips, nil); err != nil || !slices.Equal(c, chips) {
		t.Errorf("Topple(%v, %d, %v, none): %v, %v", g, sink, chips, c, err)
	}
	if p, err := sand.Crowd(g, sink, chips, 3); err != nil || len(p.Chips) != g.Places || len(p.Topples) != g.Places {
		t.Errorf("Crowd(%v, %d, %v, 3): %v, %v", g, sink, chips, p, err)
	}
	if _, _, err := sand.Burn(g, sink, chips); err != nil && plain.Told(err) != api.ErrState {
		t.Errorf("Burn(%v, %d, %v): %v", g, sink, chips, err)
	}
}

// TestExample: the document's table.
func TestExample(t *testing.T) {
	g := full(3, 1)
	p, err := sand.Settle(g, 0, []int{0, 2, 1})
	if err != nil || !slices.Equal(p.Chips, []int{0, 1, 0}) || !slices.Equal(p.Topples, []int{0, 1, 1}) {
		t.Errorf("Settle: %v, %v", p, err)
	}
	if order, all, err := sand.Burn(g, 0, []int{0, 1, 1}); err != nil || !all || !slices.Equal(order, []int{1, 2}) {
		t.Errorf("Burn: %v, %v, %v", order, all, err)
	}
	if c, err := sand.Identity(g, 0); err != nil || !slices.Equal(c, []int{0, 1, 1}) {
		t.Errorf("Identity: %v, %v", c, err)
	}
	if n, err := sand.Trees(g); err != nil || n != 3 {
		t.Errorf("Trees: %d, %v", n, err)
	}
}

// TestPlaces: S1: how many places there may be, told ahead of all else.
func TestPlaces(t *testing.T) {
	for places := 1; places <= api.MaxPlaces; places++ {
		taken(t, path(places-1, 1))
		taken(t, path(places-1, 100))
	}
	for _, places := range append(beyond(1, api.MaxPlaces), 0) {
		refused(t, api.Graph{Places: places}, api.ErrRange)
		refused(t, api.Graph{Places: places, Edges: make([]api.Edge, 41)}, api.ErrRange)
		refused(t, api.Graph{Places: places, Edges: path(9, 1).Edges}, api.ErrRange)
	}
	refused(t, path(10, 1), api.ErrRange)
}

// TestHowManyEdges: S1: there may be MaxEdges, and what is wrong with them comes behind that.
func TestHowManyEdges(t *testing.T) {
	many := func(places, edges int) api.Graph {
		g := path(places-1, 100)
		for len(g.Edges) < edges {
			g.Edges = append(g.Edges, api.Edge{A: len(g.Edges) % (places - 1), B: places - 1, Times: 100})
		}
		return g
	}
	for _, places := range []int{2, 3, api.MaxPlaces} {
		for _, edges := range []int{api.MaxEdges - 1, api.MaxEdges} {
			taken(t, many(places, edges))
		}
		for _, edges := range []int{api.MaxEdges + 1, api.MaxEdges + 2, 1000} {
			refused(t, many(places, edges), api.ErrFull)
		}
	}
	refused(t, api.Graph{Places: 2, Edges: make([]api.Edge, 41)}, api.ErrFull)
	refused(t, api.Graph{Places: 1, Edges: make([]api.Edge, 41)}, api.ErrFull)
	refused(t, api.Graph{Places: 2, Edges: make([]api.Edge, 40)}, api.ErrRange)
	refused(t, full(10, 1), api.ErrFull) // 45 edges
	refused(t, with(many(2, 40), 0, api.Edge{A: 7, B: 0, Times: 1}), api.ErrFull)
}

// TestEnds: S1: an edge's ends are two places, wherever it stands among the edges.
func TestEnds(t *testing.T) {
	for places := 2; places <= api.MaxPlaces; places++ {
		g := path(places-1, 2)
		for _, at := range []int{0, len(g.Edges) / 2, len(g.Edges)} {
			for a := range places {
				for b := range places {
					if e := (api.Edge{A: a, B: b, Times: 1}); a != b {
						taken(t, with(g, at, e))
					} else {
						refused(t, with(g, at, e), api.ErrRange)
					}
				}
				for _, b := range beyond(0, places-1) {
					refused(t, with(g, at, api.Edge{A: a, B: b, Times: 1}), api.ErrRange)
					refused(t, with(g, at, api.Edge{A: b, B: a, Times: 1}), api.ErrRange)
					refused(t, with(g, at, api.Edge{A: b, B: b, Times: 1}), api.ErrRange)
				}
			}
		}
	}
	// A place alone has no other to be joined to.
	for _, e := range []api.Edge{{A: 0, B: 0, Times: 1}, {A: 0, B: 1, Times: 1}, {A: -1, B: 0, Times: 1}} {
		refused(t, api.Graph{Places: 1, Edges: []api.Edge{e}}, api.ErrRange)
	}
}

// TestTimes: S1: from 1 to 100, of each edge.
func TestTimes(t *testing.T) {
	for _, at := range []int{0, 1, 2} {
		for _, times := range []int{1, 2, 99, 100} {
			taken(t, with(path(2, 1), at, api.Edge{A: 0, B: 2, Times: times}))
			taken(t, with(graph(2, 0, 1, 1, 1, 0, 1), at, api.Edge{A: 0, B: 1, Times: times}))
		}
		for _, times := range append(beyond(1, 100), 0) {
			refused(t, with(path(2, 1), at, api.Edge{A: 0, B: 2, Times: times}), api.ErrRange)
		}
	}
}

// TestReached: S1: of up to four places every set of edges, against what can be reached by going; and an edge that is wrong is told ahead of it.
func TestReached(t *testing.T) {
	for places := 1; places <= 4; places++ {
		edges := full(places, 1).Edges
		for set := range 1 << len(edges) {
			g := api.Graph{Places: places}
			for i, e := range edges {
				if set>>i&1 == 1 {
					g.Edges = append(g.Edges, e)
				}
			}
			whole := true
			for from := range places {
				whole = whole && len(reach(g, from)) == places
			}
			if whole {
				taken(t, g)
				continue
			}
			refused(t, g, api.ErrShape)
			refused(t, with(g, 0, api.Edge{A: 0, B: 1, Times: 101}), api.ErrRange)
			refused(t, with(g, len(g.Edges), api.Edge{A: 0, B: 0, Times: 1}), api.ErrRange)
			refused(t, with(g, 0, api.Edge{A: places, B: 0, Times: 1}), api.ErrRange)
		}
	}
	for _, g := range []api.Graph{{Places: 2}, {Places: 10}, graph(4, 0, 1, 1, 2, 3, 1), graph(10, 8, 9, 100)} {
		refused(t, g, api.ErrShape)
	}
	// Ends that stand in the way of one who goes by the order of edges.
	late := api.Graph{Places: 10}
	for i := 9; i > 0; i-- {
		late.Edges = append(late.Edges, api.Edge{A: i, B: i - 1, Times: 1})
	}
	taken(t, late)
	late.Edges = late.Edges[:8]
	refused(t, late, api.ErrShape)
	late.Edges = append(late.Edges, api.Edge{A: 9, B: 1, Times: 3})
	refused(t, late, api.ErrShape)
}

// reach is the places that can be come to from one.
func reach(g api.Graph, from int) []int {
	out := []int{from}
	for i := 0; i < len(out); i++ {
		for _, e := range g.Edges {
			for _, way := range [][2]int{{e.A, e.B}, {e.B, e.A}} {
				if way[0] == out[i] && !slices.Contains(out, way[1]) {
					out = append(out, way[1])
				}
			}
		}
	}
	return out
}

// TestSinks: S2: there is such a sink; that is told ahead of what is wrong with chips, workers and orders.
func TestSinks(t *testing.T) {
	for places := 1; places <= api.MaxPlaces; places++ {
		for _, sink := range beyond(0, places-1) {
			refusedSink(t, path(places-1, 1), sink, api.ErrRange)
		}
	}
	for _, sink := range []int{-1, 3} {
		for _, chips := range [][]int{{0, 0}, {0, 0, 0, 0}, nil} { // else that would be ErrShape
			refusedChips(t, full(3, 1), sink, chips, api.ErrRange)
		}
	}
}

// TestHowManyChips: S2: one number for each place, which is told ahead of the numbers.
func TestHowManyChips(t *testing.T) {
	for places := 1; places <= api.MaxPlaces; places++ {
		g := path(places-1, 1)
		for sink := range places {
			for _, count := range []int{0, places - 1, places + 1, places + 2, 100} {
				if count == places {
					continue
				}
				refusedChips(t, g, sink, make([]int, count), api.ErrShape)
				refusedChips(t, g, sink, slices.Repeat([]int{-1}, count), api.ErrShape)
				refusedChips(t, g, sink, slices.Repeat([]int{10001}, count), api.ErrShape)
			}
			takenChips(t, g, sink, make([]int, places+5)[:places])
		}
	}
}

// TestNumbersOfChips: S2: from 0 to 10000, at each place; in the sink 0. Such a number is told ahead of chips that are not stable.
func TestNumbersOfChips(t *testing.T) {
	for places := 1; places <= api.MaxPlaces; places++ {
		g := path(places-1, 1)
		for sink := range places {
			for place := range places {
				chips := make([]int, places)
				for _, n := range []int{0, 1, 9999, 10000} {
					chips[place] = n
					if place != sink || n == 0 {
						takenChips(t, g, sink, chips)
					} else {
						refusedChips(t, g, sink, chips, api.ErrRange)
					}
				}
				for _, n := range beyond(0, 10000) {
					chips[place] = n
					refusedChips(t, g, sink, chips, api.ErrRange)
				}
			}
			most := slices.Repeat([]int{10000}, places)
			refusedChips(t, g, sink, most, api.ErrRange)
			most[sink] = 0
			takenChips(t, g, sink, most)
		}
	}
}

// TestWorkers: S2: from 1 to MaxCrew, which is told behind all else.
func TestWorkers(t *testing.T) {
	g := full(3, 1)
	for workers := 1; workers <= api.MaxCrew; workers++ {
		if p, err := sand.Crowd(g, 2, []int{5, 5, 0}, workers); err != nil || len(p.Chips) != 3 {
			t.Errorf("Crowd by %d: %v, %v", workers, p, err)
		}
	}
	for _, workers := range append(beyond(1, api.MaxCrew), 0) {
		for _, chips := range [][]int{{5, 5, 0}, {0, 0, 0}} {
			p, err := sand.Crowd(g, 2, chips, workers)
			if plain.Told(err) != api.ErrRange || len(p.Chips) != 0 || len(p.Topples) != 0 {
				t.Errorf("Crowd of %v by %d: %v, %v, want ErrRange", chips, workers, p, err)
			}
		}
		// Of too few chips and such workers the chips are told.
		if _, err := sand.Crowd(g, 2, []int{5, 5}, workers); plain.Told(err) != api.ErrShape {
			t.Errorf("Crowd of too few chips by %d: %v, want ErrShape", workers, err)
		}
		if _, err := sand.Crowd(path(10, 1), 2, []int{5, 5}, workers); plain.Told(err) != api.ErrRange {
			t.Errorf("Crowd on too many places by %d: %v, want ErrRange", workers, err)
		}
	}
}

// TestAnyNumbers: P1: whatever the numbers are, no call panics, and none answers anything beside an error.
func TestAnyNumbers(t *testing.T) {
	random := rand.New(rand.NewSource(1))
	odd := []int{math.MinInt, -1 << 31, -101, -1, 0, 0, 0, 1, 1, 1, 2, 2, 3, 9, 10, 11, 100, 101, 10000, 10001, 1 << 31, math.MaxInt}
	pick := func(count int) []int {
		out := make([]int, random.Intn(count))
		for i := range out {
			out[i] = odd[random.Intn(len(odd))]
		}
		return out
	}
	for range 20000 {
		g := graph(odd[random.Intn(len(odd))], pick(5)...)
		if len(g.Edges) > 0 && random.Intn(2) == 0 {
			g = with(path(1+random.Intn(3), 1), 0, g.Edges[0])
		}
		sink, chips, order, workers := odd[random.Intn(len(odd))], pick(5), pick(5), odd[random.Intn(len(odd))]
		p, err := sand.Settle(g, sink, chips)
		q, ill := sand.Crowd(g, sink, chips, workers)
		c, bad := sand.Topple(g, sink, chips, order)
		burnt, all, no := sand.Burn(g, sink, chips)
		i, none := sand.Identity(g, sink)
		n, full := sand.Trees(g)
		for _, e := range []error{err, ill, bad, no, none, full, sand.Check(g)} {
			if told := plain.Told(e); told < api.OK || told > api.ErrName || e != nil && told == api.OK {
				t.Fatalf("%v, %d, %v, %v, %d: an error that is none: %v", g, sink, chips, order, workers, e)
			}
		}
		if err != nil && len(p.Chips)+len(p.Topples) > 0 || ill != nil && len(q.Chips)+len(q.Topples) > 0 || bad != nil && len(c) > 0 ||
			no != nil && (all || len(burnt) > 0) || none != nil && len(i) > 0 || full != nil && n != 0 {
			t.Fatalf("%v, %d, %v, %v, %d: an answer beside an error", g, sink, chips, order, workers)
		}
	}
}

// TestGiven: P2, P4: nothing that is handed in is written into, and what lies behind a list's length does not count.
func TestGiven(t *testing.T) {
	edges := append(full(3, 1).Edges, api.Edge{A: 99, B: 99, Times: 99}, api.Edge{A: 0, B: 1, Times: 1})
	chips := []int{0, 7, 9, -5, -5}
	order := []int{1, 2, 1, 77, 77}
	keptEdges, keptChips, keptOrder := slices.Clone(edges), slices.Clone(chips), slices.Clone(order)
	g := api.Graph{Places: 3, Edges: edges[:3]}
	taken(t, g)
	takenChips(t, g, 0, chips[:3])
	if c, err := sand.Topple(g, 0, chips[:3], order[:3]); err != nil || !slices.Equal(c, []int{0, 4, 9}) {
		t.Errorf("Topple: %v, %v", c, err)
	}
	sand.Topple(g, 0, chips[:3], order)
	sand.Burn(g, 0, []int{0, 1, 1, 9}[:3])
	refused(t, api.Graph{Places: 3, Edges: edges}, api.ErrRange)
	if !slices.Equal(edges, keptEdges) || !slices.Equal(chips, keptChips) || !slices.Equal(order, keptOrder) {
		t.Errorf("written into: %v, %v, %v", edges, chips, order)
	}
}

// TestFresh: P2: what comes out is the caller's, and shares nothing with what went in or came out before.
func TestFresh(t *testing.T) {
	g, chips := full(3, 1), []int{0, 1, 1}
	for range 3 {
		a, _ := sand.Settle(g, 0, chips)
		b, _ := sand.Crowd(g, 0, chips, 2)
		c, _ := sand.Topple(g, 0, chips, nil)
		order, _, _ := sand.Burn(g, 0, chips)
		i, _ := sand.Identity(g, 0)
		lists := [][]int{a.Chips, a.Topples, b.Chips, b.Topples, c, order, i}
		wants := [][]int{{0, 1, 1}, {0, 0, 0}, {0, 1, 1}, {0, 0, 0}, {0, 1, 1}, {1, 2}, {0, 1, 1}}
		for n, list := range lists {
			if !slices.Equal(list, wants[n]) {
				t.Errorf("list %d: %v, want %v", n, list, wants[n])
			}
			// Behind its length, too, no list reaches into another.
			list = list[:cap(list)]
			for k := range list {
				list[k] = -9
			}
		}
		if !slices.Equal(chips, []int{0, 1, 1}) {
			t.Errorf("chips: %v", chips)
		}
	}
}

// TestGone: P2: no worker of a crowd is left when it has answered (or leaves at once).
func TestGone(t *testing.T) {
	before := runtime.NumGoroutine()
	for range 50 {
		sand.Crowd(ring(10, 3), 4, []int{900, 900, 900, 900, 0, 900, 900, 900, 900, 900}, api.MaxCrew)
		sand.Crowd(full(3, 1), 0, []int{0, 0, 0}, api.MaxCrew)
		sand.Crowd(api.Graph{Places: 1}, 0, []int{0}, api.MaxCrew)
		sand.Crowd(full(3, 1), 0, []int{0, 0}, api.MaxCrew)
	}
	for i := 0; runtime.NumGoroutine() > before; i++ {
		if i > 1000000 {
			t.Fatalf("%d goroutines, %d before", runtime.NumGoroutine(), before)
		}
		runtime.Gosched()
	}
}
