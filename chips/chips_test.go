package chips_test

import (
	"math"
	"math/rand"
	"slices"
	"testing"

	"eden/api"
	"eden/chips"
	"eden/plain"
	"eden/sand"
)

// graph takes the numbers of its edges by threes.
func graph(places int, numbers ...int) api.Graph {
	g := api.Graph{Places: places}
	for i := 0; i+2 < len(numbers); i += 3 {
		g.Edges = append(g.Edges, api.Edge{A: numbers[i], B: numbers[i+1], Times: numbers[i+2]})
	}
	return g
}

// path has as many edges, one behind the other.
func path(edges, times int) api.Graph {
	g := api.Graph{Places: edges + 1}
	for i := range edges {
		g.Edges = append(g.Edges, api.Edge{A: i, B: i + 1, Times: times})
	}
	return g
}

func ring(places, times int) api.Graph {
	g := path(places-1, times)
	g.Edges = append(g.Edges, api.Edge{A: places - 1, B: 0, Times: times})
	return g
}

// full has an edge between each two places.
func full(places, times int) api.Graph {
	g := api.Graph{Places: places}
	for b := range places {
		for a := range b {
			g.Edges = append(g.Edges, api.Edge{A: a, B: b, Times: times})
		}
	}
	return g
}

// anyGraph is a connected one of as many places, with up to as many edges more than it needs.
func anyGraph(random *rand.Rand, places, more, times int) api.Graph {
	g := api.Graph{Places: places}
	number := random.Perm(places)
	join := func(a, b int) {
		g.Edges = append(g.Edges, api.Edge{A: number[a], B: number[b], Times: 1 + random.Intn(times)})
	}
	for b := 1; b < places; b++ {
		join(random.Intn(b), b)
	}
	for range random.Intn(more + 1) {
		if a, b := random.Intn(places), random.Intn(places); a != b {
			join(a, b)
		}
	}
	random.Shuffle(len(g.Edges), func(i, j int) { g.Edges[i], g.Edges[j] = g.Edges[j], g.Edges[i] })
	return g
}

// smallGraphs are all connected ones of as many places with up to so many Times between each two.
func smallGraphs(places, times int) []api.Graph {
	pairs := full(places, 1).Edges
	var out []api.Graph
	for _, numbers := range boxed(len(pairs), 0, times) {
		g := api.Graph{Places: places}
		for i, e := range pairs {
			if numbers[i] > 0 {
				g.Edges = append(g.Edges, api.Edge{A: e.B, B: e.A, Times: numbers[i]})
			}
		}
		if sand.Check(g) == nil {
			out = append(out, g)
		}
	}
	return out
}

// boxed are all lists of as many numbers from low to high, by their numbers from the left.
func boxed(count, low, high int) [][]int {
	out := [][]int{{}}
	for range count {
		var longer [][]int
		for _, list := range out {
			for n := low; n <= high; n++ {
				longer = append(longer, append(slices.Clone(list), n))
			}
		}
		out = longer
	}
	return out
}

// anyDivisor has numbers up to most, to each side.
func anyDivisor(random *rand.Rand, places, most int) []int {
	out := make([]int, places)
	for place := range out {
		out[place] = random.Intn(2*most+1) - most
	}
	return out
}

func sumOf(numbers []int) int {
	sum := 0
	for _, n := range numbers {
		sum += n
	}
	return sum
}

func degreeOf(g api.Graph, place int) int {
	sum := 0
	for _, e := range g.Edges {
		if e.A == place || e.B == place {
			sum += e.Times
		}
	}
	return sum
}

// given is the divisor when each place has given as often as the script says, edge by edge.
func given(g api.Graph, d, script []int) []int {
	out := slices.Clone(d)
	for _, e := range g.Edges {
		flow := (script[e.A] - script[e.B]) * e.Times
		out[e.A] -= flow
		out[e.B] += flow
	}
	return out
}

// beyond are numbers outside of low to high, those beside them among them.
func beyond(low, high int) []int {
	return []int{math.MinInt, math.MinInt + 1, -1 << 32, low - 2, low - 1, high + 1, high + 2, 1 << 32, math.MaxInt}
}

// refusedDivisor asks that each call that takes the divisor tells an error, and answers nothing beside it, whatever else is wrong.
func refusedDivisor(t *testing.T, g api.Graph, d []int, want api.Errno) {
	t.Helper()
	for _, place := range []int{0, g.Places - 1, -1, g.Places, math.MinInt, math.MaxInt} {
		for _, times := range []int{0, 1, -1000, 1001, math.MinInt} {
			if out, err := chips.Fire(g, d, place, times); plain.Told(err) != want || len(out) != 0 {
				t.Errorf("Fire(%v, %v, %d, %d): %v, %v, want %v", g, d, place, times, out, err, want)
			}
		}
		if out, err := chips.Reduced(g, d, place); plain.Told(err) != want || len(out) != 0 {
			t.Errorf("Reduced(%v, %v, %d): %v, %v, want %v", g, d, place, out, err, want)
		}
	}
	if n, lost, err := chips.Rank(g, d); plain.Told(err) != want || n != 0 || len(lost) != 0 {
		t.Errorf("Rank(%v, %v): %d, %v, %v, want %v", g, d, n, lost, err, want)
	}
	refusedSame(t, g, d, d, want)
}

func refusedSame(t *testing.T, g api.Graph, a, b []int, want api.Errno) {
	t.Helper()
	if same, err := chips.Same(g, a, b); plain.Told(err) != want || same {
		t.Errorf("Same(%v, %v, %v): %v, %v, want %v", g, a, b, same, err, want)
	}
	if same, err := chips.Same(g, b, a); plain.Told(err) != want || same {
		t.Errorf("Same(%v, %v, %v): %v, %v, want %v", g, b, a, same, err, want)
	}
}

// refused asks that each call tells of a graph what Check says, whatever else is wrong.
func refused(t *testing.T, g api.Graph, want api.Errno) {
	t.Helper()
	if err := sand.Check(g); plain.Told(err) != want {
		t.Errorf("Check(%v): %v, want %v", g, err, want)
	}
	for _, d := range [][]int{nil, {0}, {1001}, {0, 0}, {-1001, 0}, {1, 2, 3}, make([]int, 10), make([]int, 11)} {
		refusedDivisor(t, g, d, want)
		refusedSame(t, g, d, []int{0, 1001, 0}, want)
	}
	if n, err := chips.Genus(g); plain.Told(err) != want || n != 0 {
		t.Errorf("Genus(%v): %d, %v, want %v", g, n, err, want)
	}
	if d, err := chips.Canonical(g); plain.Told(err) != want || len(d) != 0 {
		t.Errorf("Canonical(%v): %v, %v, want %v", g, d, err, want)
	}
}

// taken asks that each call takes the divisor; of Rank, if it may be told.
func taken(t *testing.T, g api.Graph, d []int) {
	t.Helper()
	for place := range g.Places {
		if out, err := chips.Fire(g, d, place, 0); err != nil || !slices.Equal(out, d) {
			t.Errorf("Fire(%v, %v, %d, 0): %v, %v", g, d, place, out, err)
		}
		if out, err := chips.Reduced(g, d, place); err != nil || len(out) != g.Places {
			t.Errorf("Reduced(%v, %v, %d): %v, %v", g, d, place, out, err)
		}
	}
	if same, err := chips.Same(g, d, d); err != nil || !same {
		t.Errorf("Same(%v, %v, itself): %v, %v", g, d, same, err)
	}
	n, lost, err := chips.Rank(g, d)
	if g.Places > 6 || sumOf(d) > 12 {
		if plain.Told(err) != api.ErrFull || n != 0 || len(lost) != 0 {
			t.Errorf("Rank(%v, %v): %d, %v, %v, want ErrFull", g, d, n, lost, err)
		}
	} else if err != nil || len(lost) != g.Places || sumOf(lost) != n+1 {
		t.Errorf("Rank(%v, %v): %d, %v, %v", g, d, n, lost, err)
	}
}

// TestExample: the document's table.
func TestExample(t *testing.T) {
	g := full(3, 1)
	if d, err := chips.Reduced(g, []int{0, 2, -1}, 0); err != nil || !slices.Equal(d, []int{1, 0, 0}) {
		t.Errorf("Reduced: %v, %v", d, err)
	}
	if n, lost, err := chips.Rank(g, []int{1, 0, 0}); err != nil || n != 0 || !slices.Equal(lost, []int{0, 0, 1}) {
		t.Errorf("Rank of 1 0 0: %d, %v, %v", n, lost, err)
	}
	if n, lost, err := chips.Rank(g, []int{1, -1, 0}); err != nil || n != -1 || !slices.Equal(lost, []int{0, 0, 0}) {
		t.Errorf("Rank of 1 -1 0: %d, %v, %v", n, lost, err)
	}
}

// TestGraphs: D1: what Check says comes ahead of all else.
func TestGraphs(t *testing.T) {
	for _, places := range append(beyond(1, api.MaxPlaces), 0) {
		refused(t, api.Graph{Places: places}, api.ErrRange)
		refused(t, api.Graph{Places: places, Edges: make([]api.Edge, 41)}, api.ErrRange)
	}
	refused(t, path(10, 1), api.ErrRange)
	refused(t, full(10, 1), api.ErrFull) // 45 edges
	refused(t, api.Graph{Places: 2, Edges: make([]api.Edge, 41)}, api.ErrFull)
	for _, n := range beyond(0, 2) {
		refused(t, graph(3, 0, 1, 1, 1, 2, 1, n, 0, 1), api.ErrRange)
		refused(t, graph(3, 0, n, 1, 0, 1, 1, 1, 2, 1), api.ErrRange)
	}
	refused(t, graph(3, 0, 1, 1, 1, 1, 1, 1, 2, 1), api.ErrRange)
	for _, times := range append(beyond(1, 100), 0) {
		refused(t, graph(3, 0, 1, 1, 1, 2, times), api.ErrRange)
	}
	refused(t, graph(4, 0, 1, 1, 0, 1, 0), api.ErrRange)
	for _, g := range []api.Graph{{Places: 2}, {Places: 10}, graph(3, 0, 1, 1), graph(4, 0, 1, 1, 2, 3, 1)} {
		refused(t, g, api.ErrShape)
	}
}

// TestHowMany: D1: a number for each place, told ahead of the numbers.
func TestHowMany(t *testing.T) {
	for places := 1; places <= api.MaxPlaces; places++ {
		g := path(places-1, 1)
		for _, count := range []int{0, places - 1, places + 1, places + 2, 100} {
			if count == places {
				continue
			}
			for _, n := range []int{0, 1, -1001, 1001} {
				refusedDivisor(t, g, slices.Repeat([]int{n}, count), api.ErrShape)
				refusedSame(t, g, slices.Repeat([]int{n}, count), make([]int, places), api.ErrShape)
			}
			// Of one divisor that has not as many numbers, and of another with a number that may not be, the first is told.
			refusedSame(t, g, make([]int, count), slices.Repeat([]int{1001}, places), api.ErrShape)
		}
		taken(t, g, make([]int, places+5)[:places])
	}
	refusedDivisor(t, full(3, 1), nil, api.ErrShape)
}

// TestNumbers: D1: from -1000 to 1000, at each place, told ahead of places, of times, and of what is too much for Rank.
func TestNumbers(t *testing.T) {
	for places := 1; places <= api.MaxPlaces; places++ {
		g := ring(max(places, 2), 1)
		g.Places = places
		if places == 1 {
			g.Edges = nil
		}
		for place := range places {
			d := make([]int, places)
			for _, n := range []int{-1000, -999, -1, 0, 1, 999, 1000} {
				d[place] = n
				taken(t, g, d)
			}
			for _, n := range beyond(-1000, 1000) {
				d[place] = n
				refusedDivisor(t, g, d, api.ErrRange)
				refusedSame(t, g, d, make([]int, places), api.ErrRange)
			}
		}
		taken(t, g, slices.Repeat([]int{1000}, places))
		taken(t, g, slices.Repeat([]int{-1000}, places))
	}
}

// TestWhere: D1, D2: there is such a place, and times are from -1000 to 1000.
func TestWhere(t *testing.T) {
	for places := 1; places <= api.MaxPlaces; places++ {
		g, d := path(places-1, 2), make([]int, places)
		for _, place := range beyond(0, places-1) {
			if out, err := chips.Reduced(g, d, place); plain.Told(err) != api.ErrRange || len(out) != 0 {
				t.Errorf("Reduced of %d places at %d: %v, %v", places, place, out, err)
			}
			for _, times := range []int{0, 1, -1000, 1000, 1001} {
				if out, err := chips.Fire(g, d, place, times); plain.Told(err) != api.ErrRange || len(out) != 0 {
					t.Errorf("Fire of %d places at %d, %d times: %v, %v", places, place, times, out, err)
				}
			}
		}
		for place := range places {
			for _, times := range beyond(-1000, 1000) {
				if out, err := chips.Fire(g, d, place, times); plain.Told(err) != api.ErrRange || len(out) != 0 {
					t.Errorf("Fire of %d places at %d, %d times: %v, %v", places, place, times, out, err)
				}
			}
		}
	}
}

// TestFire: D1: one chip over each edge each time, and back when times are below 0.
func TestFire(t *testing.T) {
	cases := []struct {
		g            api.Graph
		d            []int
		place, times int
		want         []int
	}{
		{full(3, 1), []int{0, 2, -1}, 1, 1, []int{1, 0, 0}},
		{full(3, 1), []int{0, 0, 0}, 0, 1, []int{-2, 1, 1}},
		{full(3, 1), []int{0, 0, 0}, 0, -1, []int{2, -1, -1}},
		{full(3, 1), []int{5, 6, 7}, 2, 0, []int{5, 6, 7}},
		{path(2, 1), []int{1, 2, 3}, 0, 1000, []int{-999, 1002, 3}},
		{path(2, 1), []int{1, 2, 3}, 1, -1000, []int{-999, 2002, -997}},
		{path(2, 1), []int{1000, -1000, 1000}, 1, 1, []int{1001, -1002, 1001}},
		{graph(2, 0, 1, 1, 0, 1, 1), []int{0, 0}, 0, 1, []int{-2, 2}}, // two edges between the same places
		{graph(2, 0, 1, 3, 1, 0, 4), []int{0, 0}, 1, 2, []int{14, -14}},
		{graph(2, 0, 1, 100), []int{1, 1}, 1, -3, []int{-299, 301}},
		{api.Graph{Places: 1}, []int{7}, 0, 1000, []int{7}}, // one place alone has nobody to give to
		{api.Graph{Places: 1}, []int{-7}, 0, -1000, []int{-7}},
	}
	for _, c := range cases {
		if out, err := chips.Fire(c.g, c.d, c.place, c.times); err != nil || !slices.Equal(out, c.want) {
			t.Errorf("Fire(%v, %v, %d, %d): %v, %v, want %v", c.g, c.d, c.place, c.times, out, err, c.want)
		}
	}
}

// TestFireAny: D1: against giving edge by edge; the degree stays, and firing as often below 0 undoes it.
func TestFireAny(t *testing.T) {
	random := rand.New(rand.NewSource(1))
	for range 3000 {
		g := anyGraph(random, 1+random.Intn(10), 31, 1+random.Intn(100))
		d := anyDivisor(random, g.Places, 1+random.Intn(1000))
		place, times := random.Intn(g.Places), random.Intn(2001)-1000
		if random.Intn(2) == 0 {
			times = random.Intn(7) - 3
		}
		script := make([]int, g.Places)
		script[place] = times
		out, err := chips.Fire(g, d, place, times)
		if err != nil || !slices.Equal(out, given(g, d, script)) || sumOf(out) != sumOf(d) {
			t.Errorf("Fire(%v, %v, %d, %d): %v, %v", g, d, place, times, out, err)
		}
		if slices.Max(out) > 1000 || slices.Min(out) < -1000 {
			continue
		}
		if back, err := chips.Fire(g, out, place, -times); err != nil || !slices.Equal(back, d) {
			t.Errorf("Fire(%v, %v, %d, %d): %v, %v, want %v", g, out, place, -times, back, err, d)
		}
	}
}

// TestAnyNumbers: P1: whatever the numbers are, no call panics, and none answers anything beside an error.
func TestAnyNumbers(t *testing.T) {
	random := rand.New(rand.NewSource(2))
	odd := []int{math.MinInt, -1 << 31, -1001, -1000, -1, 0, 0, 0, 1, 1, 1, 2, 2, 3, 9, 10, 11, 100, 101, 1000, 1001, 1 << 31, math.MaxInt}
	one := func() int { return odd[random.Intn(len(odd))] }
	pick := func(count int) []int {
		out := make([]int, random.Intn(count))
		for i := range out {
			out[i] = one()
		}
		return out
	}
	for range 20000 {
		g := graph(one(), pick(7)...)
		if random.Intn(2) == 0 {
			g = path(random.Intn(4), 1+random.Intn(100))
		}
		a, b, place, times := pick(6), pick(6), one(), one()
		fired, err := chips.Fire(g, a, place, times)
		reduced, bad := chips.Reduced(g, a, place)
		same, ill := chips.Same(g, a, b)
		n, lost, no := chips.Rank(g, a)
		genus, none := chips.Genus(g)
		canonical, neither := chips.Canonical(g)
		for _, e := range []error{err, bad, ill, no, none, neither} {
			if told := plain.Told(e); told < api.OK || told > api.ErrName || e != nil && told == api.OK {
				t.Fatalf("%v, %v, %v, %d, %d: an error that is none: %v", g, a, b, place, times, e)
			}
		}
		if err != nil && len(fired) > 0 || bad != nil && len(reduced) > 0 || ill != nil && same || no != nil && (n != 0 || len(lost) > 0) ||
			none != nil && genus != 0 || neither != nil && len(canonical) > 0 {
			t.Fatalf("%v, %v, %v, %d, %d: an answer beside an error", g, a, b, place, times)
		}
	}
}

// TestGiven: P2, P4: nothing that is handed in is written into, and what lies behind a list's length does not count.
func TestGiven(t *testing.T) {
	edges := append(full(3, 1).Edges, api.Edge{A: 99, B: 99, Times: 99}, api.Edge{A: 0, B: 1, Times: 1})
	a, b := []int{5, -7, 9, 5000, -5000}, []int{0, 0, 7, 5000}
	keptEdges, keptA, keptB := slices.Clone(edges), slices.Clone(a), slices.Clone(b)
	g := api.Graph{Places: 3, Edges: edges[:3]}
	taken(t, g, a[:3])
	chips.Fire(g, a[:3], 1, 3)
	chips.Same(g, a[:3], b[:3])
	refused(t, api.Graph{Places: 3, Edges: edges}, api.ErrRange)
	refusedDivisor(t, g, a, api.ErrShape)
	if !slices.Equal(edges, keptEdges) || !slices.Equal(a, keptA) || !slices.Equal(b, keptB) {
		t.Errorf("written into: %v, %v, %v", edges, a, b)
	}
}

// TestFresh: P2: what comes out is the caller's, and shares nothing with what went in or came out before.
func TestFresh(t *testing.T) {
	g, d := full(3, 1), []int{1, 0, 0}
	for range 3 {
		fired, _ := chips.Fire(g, d, 0, 0)
		reduced, _ := chips.Reduced(g, d, 0)
		_, lost, _ := chips.Rank(g, d)
		canonical, _ := chips.Canonical(g)
		wants := [][]int{{1, 0, 0}, {1, 0, 0}, {0, 0, 1}, {0, 0, 0}}
		for n, list := range [][]int{fired, reduced, lost, canonical} {
			if !slices.Equal(list, wants[n]) {
				t.Errorf("list %d: %v, want %v", n, list, wants[n])
			}
			// Behind its length, too, no list reaches into another.
			list = list[:cap(list)]
			for k := range list {
				list[k] = -9
			}
		}
		if !slices.Equal(d, []int{1, 0, 0}) {
			t.Errorf("divisor: %v", d)
		}
	}
}
