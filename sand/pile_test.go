package sand_test

import (
	"math"
	"math/rand"
	"slices"
	"testing"

	"eden/api"
	"eden/plain"
	"eden/sand"
)

// degreeOf is how many edges a place has, with their Times.
func degreeOf(g api.Graph, place int) int {
	degree := 0
	for _, e := range g.Edges {
		if e.A == place || e.B == place {
			degree += e.Times
		}
	}
	return degree
}

// once is what chips are when a place gave one over each of its edges, one by one.
func once(g api.Graph, sink int, chips []int, place int) []int {
	out := slices.Clone(chips)
	for _, e := range g.Edges {
		for range e.Times {
			switch place {
			case e.A:
				out[place]--
				out[e.B]++
			case e.B:
				out[place]--
				out[e.A]++
			}
		}
	}
	out[sink] = 0
	return out
}

// ready are the places that can topple.
func ready(g api.Graph, sink int, chips []int) []int {
	var out []int
	for place, n := range chips {
		if place != sink && n >= degreeOf(g, place) {
			out = append(out, place)
		}
	}
	return out
}

// slowly topples one place at a time, each time one that choose takes out of those that can. It answers the order in which they toppled, too.
func slowly(g api.Graph, sink int, chips []int, choose func(can []int) int) (api.Piled, []int) {
	out := api.Piled{Chips: slices.Clone(chips), Topples: make([]int, g.Places)}
	var order []int
	for {
		can := ready(g, sink, out.Chips)
		if len(can) == 0 {
			return out, order
		}
		place := choose(can)
		out.Chips = once(g, sink, out.Chips, place)
		out.Topples[place]++
		order = append(order, place)
	}
}

func same(a, b api.Piled) bool {
	return slices.Equal(a.Chips, b.Chips) && slices.Equal(a.Topples, b.Topples)
}

// settled asks Settle.
func settled(t *testing.T, g api.Graph, sink int, chips []int) api.Piled {
	t.Helper()
	p, err := sand.Settle(g, sink, chips)
	if err != nil {
		t.Fatalf("Settle(%v, %d, %v): %v", g, sink, chips, err)
	}
	return p
}

// balanced asks that chips are what toppling so often makes of them, and that nothing can topple any more.
func balanced(t *testing.T, g api.Graph, sink int, chips []int, p api.Piled) {
	t.Helper()
	want := slices.Clone(chips)
	for _, e := range g.Edges {
		flow := (p.Topples[e.A] - p.Topples[e.B]) * e.Times
		want[e.A] -= flow
		want[e.B] += flow
	}
	want[sink] = 0
	if !slices.Equal(p.Chips, want) || p.Topples[sink] != 0 || len(ready(g, sink, p.Chips)) > 0 || slices.Min(p.Chips) < 0 {
		t.Errorf("%v, %d, %v: %v, want chips of %v", g, sink, chips, p, want)
	}
}

// TestSettle: S2, S3: chips and counts come out whatever order places topple in.
func TestSettle(t *testing.T) {
	random := rand.New(rand.NewSource(2))
	turn := 0
	orders := []func([]int) int{
		func(can []int) int { return can[0] },
		func(can []int) int { return can[len(can)-1] },
		func(can []int) int { return can[len(can)/2] },
		func(can []int) int { return can[random.Intn(len(can))] },
		func(can []int) int { turn++; return can[turn%len(can)] },
	}
	for round := range 300 {
		g := anyGraph(random, 1+random.Intn(6), 6, 1+random.Intn(4))
		sink := random.Intn(g.Places)
		chips := anyChips(random, g.Places, sink, 1+round%30)
		got := settled(t, g, sink, chips)
		balanced(t, g, sink, chips, got)
		for i, choose := range orders {
			if want, _ := slowly(g, sink, chips, choose); !same(got, want) {
				t.Errorf("Settle(%v, %d, %v): %v; by order %d: %v", g, sink, chips, got, i, want)
			}
		}
	}
}

// TestSettleAll: S2: on a few small graphs, all chips up to 5.
func TestSettleAll(t *testing.T) {
	graphs := []api.Graph{full(3, 1), path(2, 1), path(2, 2), graph(3, 0, 1, 2, 1, 2, 1), graph(3, 0, 1, 1, 1, 0, 1, 2, 1, 3, 2, 0, 1)}
	for _, g := range graphs {
		for sink := range 3 {
			for n := range 36 {
				chips := slices.Insert([]int{n % 6, n / 6}, sink, 0)
				got := settled(t, g, sink, chips)
				if want, _ := slowly(g, sink, chips, slices.Max[[]int]); !same(got, want) {
					t.Errorf("Settle(%v, %d, %v): %v, want %v", g, sink, chips, got, want)
				}
			}
		}
	}
}

// TestJustDegree: S2: as many chips as the degree topple, one fewer do not.
func TestJustDegree(t *testing.T) {
	random := rand.New(rand.NewSource(3))
	for range 200 {
		g := anyGraph(random, 2+random.Intn(9), 30, 100)
		sink := random.Intn(g.Places)
		for place := range g.Places {
			if place == sink {
				continue
			}
			chips := make([]int, g.Places)
			chips[place] = degreeOf(g, place) - 1
			if p := settled(t, g, sink, chips); !slices.Equal(p.Chips, chips) || slices.Max(p.Topples) != 0 {
				t.Errorf("Settle(%v, %d, %v): %v", g, sink, chips, p)
			}
			if c, err := sand.Topple(g, sink, chips, []int{place}); plain.Told(err) != api.ErrState || len(c) != 0 {
				t.Errorf("Topple(%v, %d, %v, %d): %v, %v, want ErrState", g, sink, chips, place, c, err)
			}
			if _, _, err := sand.Burn(g, sink, chips); err != nil {
				t.Errorf("Burn(%v, %d, %v): %v", g, sink, chips, err)
			}
			chips[place]++
			if p := settled(t, g, sink, chips); p.Topples[place] < 1 {
				t.Errorf("Settle(%v, %d, %v): %v", g, sink, chips, p)
			}
			if c, err := sand.Topple(g, sink, chips, []int{place}); err != nil || !slices.Equal(c, once(g, sink, chips, place)) {
				t.Errorf("Topple(%v, %d, %v, %d): %v, %v", g, sink, chips, place, c, err)
			}
			if _, _, err := sand.Burn(g, sink, chips); plain.Told(err) != api.ErrState {
				t.Errorf("Burn(%v, %d, %v): %v, want ErrState", g, sink, chips, err)
			}
		}
	}
}

// TestTwoEdges: S1, S2: two edges between the same places, either way round, are as one with the Times of both.
func TestTwoEdges(t *testing.T) {
	random := rand.New(rand.NewSource(4))
	for range 100 {
		g := anyGraph(random, 2+random.Intn(5), 5, 50)
		parted := api.Graph{Places: g.Places}
		for _, e := range g.Edges {
			if e.Times > 1 {
				part := 1 + random.Intn(e.Times-1)
				parted.Edges = append(parted.Edges, api.Edge{A: e.B, B: e.A, Times: part})
				e.Times -= part
			}
			parted.Edges = append(parted.Edges, e)
		}
		chips := anyChips(random, g.Places, 1, 500)
		if a, b := settled(t, g, 1, chips), settled(t, parted, 1, chips); !same(a, b) {
			t.Errorf("%v, %v: %v; in parts: %v", g, chips, a, b)
		}
		a, bad := sand.Trees(g)
		if b, ill := sand.Trees(parted); a != b || bad != ill {
			t.Errorf("Trees(%v): %d, %v; in parts: %d, %v", g, a, bad, b, ill)
		}
	}
	if p := settled(t, graph(2, 0, 1, 100, 1, 0, 100), 0, []int{0, 399}); !slices.Equal(p.Chips, []int{0, 199}) || p.Topples[1] != 1 {
		t.Errorf("two edges: %v", p)
	}
}

// TestAlone: S1 to S5: a place alone is the sink.
func TestAlone(t *testing.T) {
	g := api.Graph{Places: 1}
	if p := settled(t, g, 0, []int{0}); !slices.Equal(p.Chips, []int{0}) || !slices.Equal(p.Topples, []int{0}) {
		t.Errorf("Settle: %v", p)
	}
	if p, err := sand.Crowd(g, 0, []int{0}, 8); err != nil || !slices.Equal(p.Chips, []int{0}) || !slices.Equal(p.Topples, []int{0}) {
		t.Errorf("Crowd: %v, %v", p, err)
	}
	if c, err := sand.Topple(g, 0, []int{0}, nil); err != nil || !slices.Equal(c, []int{0}) {
		t.Errorf("Topple: %v, %v", c, err)
	}
	for _, place := range []int{-1, 0, 1} {
		if c, err := sand.Topple(g, 0, []int{0}, []int{place}); plain.Told(err) != api.ErrRange || len(c) != 0 {
			t.Errorf("Topple of %d: %v, %v, want ErrRange", place, c, err)
		}
	}
	if order, all, err := sand.Burn(g, 0, []int{0}); err != nil || !all || len(order) != 0 {
		t.Errorf("Burn: %v, %v, %v", order, all, err)
	}
	if c, err := sand.Identity(g, 0); err != nil || !slices.Equal(c, []int{0}) {
		t.Errorf("Identity: %v, %v", c, err)
	}
	if n, err := sand.Trees(g); err != nil || n != 1 {
		t.Errorf("Trees: %d, %v", n, err)
	}
}

// TestTopple: S2: an order that can be gone, to each of its beginnings; at its end nothing more can.
func TestTopple(t *testing.T) {
	random := rand.New(rand.NewSource(5))
	for range 200 {
		g := anyGraph(random, 2+random.Intn(5), 6, 4)
		sink := random.Intn(g.Places)
		chips := anyChips(random, g.Places, sink, 25)
		_, order := slowly(g, sink, chips, func(can []int) int { return can[random.Intn(len(can))] })
		want := chips
		for i := range len(order) + 1 {
			if c, err := sand.Topple(g, sink, chips, order[:i]); err != nil || !slices.Equal(c, want) {
				t.Fatalf("Topple(%v, %d, %v, %v): %v, %v, want %v", g, sink, chips, order[:i], c, err, want)
			}
			if i < len(order) {
				want = once(g, sink, want, order[i])
			}
		}
		for place := range g.Places {
			want := api.ErrState
			if place == sink {
				want = api.ErrRange
			}
			if c, err := sand.Topple(g, sink, chips, append(slices.Clone(order), place)); plain.Told(err) != want || len(c) != 0 {
				t.Errorf("Topple(%v, %d, %v, %v and %d): %v, %v, want %v", g, sink, chips, order, place, c, err, want)
			}
		}
	}
}

// TestToppleFaults: S2: of an order the first fault is told, whatever stands behind it.
func TestToppleFaults(t *testing.T) {
	g, chips := full(3, 1), []int{3, 0, 1} // place 0 can topple once, and place 2 then
	cases := []struct {
		order []int
		want  api.Errno
	}{
		{nil, api.OK}, {[]int{}, api.OK}, {[]int{0}, api.OK}, {[]int{0, 2}, api.OK}, {[]int{0, 2, 0}, api.OK},
		{[]int{2}, api.ErrState}, {[]int{0, 0}, api.ErrState}, {[]int{0, 2, 2}, api.ErrState}, {[]int{2, 0}, api.ErrState},
		{[]int{1}, api.ErrRange}, {[]int{-1}, api.ErrRange}, {[]int{3}, api.ErrRange},
		{[]int{math.MinInt}, api.ErrRange}, {[]int{math.MaxInt}, api.ErrRange}, {[]int{1 << 32}, api.ErrRange},
		{[]int{0, 1}, api.ErrRange}, {[]int{0, -1}, api.ErrRange}, {[]int{0, 2, 3}, api.ErrRange},
		{[]int{2, 1}, api.ErrState}, {[]int{2, -1}, api.ErrState}, {[]int{2, 3, 3}, api.ErrState}, {[]int{0, 0, 1}, api.ErrState},
		{[]int{1, 2}, api.ErrRange}, {[]int{-1, 2}, api.ErrRange}, {[]int{3, 2}, api.ErrRange}, {[]int{0, 1, 2, 2}, api.ErrRange},
	}
	for _, c := range cases {
		got, err := sand.Topple(g, 1, chips, c.order)
		if plain.Told(err) != c.want || err != nil && len(got) != 0 || err == nil && len(got) != 3 {
			t.Errorf("Topple by %v: %v, %v, want %v", c.order, got, err, c.want)
		}
	}
	// What is wrong with chips is told ahead of what is wrong with an order.
	if _, err := sand.Topple(g, 1, []int{3, 0}, []int{-1}); plain.Told(err) != api.ErrShape {
		t.Errorf("too few chips: %v, want ErrShape", err)
	}
	if _, err := sand.Topple(g, 1, []int{3, 0, 10001}, []int{0, 0}); plain.Told(err) != api.ErrRange {
		t.Errorf("too many chips: %v, want ErrRange", err)
	}
}

// TestCrowd: S2, S3, P2: as Settle, with however many workers, again and again.
func TestCrowd(t *testing.T) {
	random := rand.New(rand.NewSource(6))
	for round := range 60 {
		g := anyGraph(random, 1+round%10, 25, 1+random.Intn(100))
		sink := random.Intn(g.Places)
		chips := anyChips(random, g.Places, sink, []int{3, 100, 2000, 10000}[round%4])
		want := settled(t, g, sink, chips)
		for workers := 1; workers <= api.MaxCrew; workers++ {
			for range 5 {
				if got, err := sand.Crowd(g, sink, chips, workers); err != nil || !same(got, want) {
					t.Fatalf("Crowd(%v, %d, %v, %d): %v, %v, want %v", g, sink, chips, workers, got, err, want)
				}
			}
		}
	}
}

// TestCrowds: S2, P2: crowds do not meet each other.
func TestCrowds(t *testing.T) {
	for n := range 8 {
		t.Run("", func(t *testing.T) {
			t.Parallel()
			g := ring(10, 1+n)
			chips := slices.Repeat([]int{1000 * (n + 1)}, 10)
			chips[n] = 0
			want := settled(t, g, n, chips)
			for range 10 {
				if got, err := sand.Crowd(g, n, chips, 8-n); err != nil || !same(got, want) {
					t.Errorf("Crowd(%v, %d, %v, %d): %v, %v, want %v", g, n, chips, 8-n, got, err, want)
				}
			}
		})
	}
}

// TestMost: S2, P1: the most chips, where they hardly find the sink.
func TestMost(t *testing.T) {
	far := graph(9, 0, 1, 1, 2, 3, 100, 8, 2, 100, 2, 8, 1, 4, 7, 100, 1, 5, 1, 2, 4, 100, 3, 8, 100, 3, 4, 100, 8, 4, 100, 3, 7, 100, 6, 2, 1)
	for len(far.Edges) < api.MaxEdges {
		far.Edges = append(far.Edges, api.Edge{A: 5, B: 6, Times: 100})
	}
	thick := graph(3, 0, 1, 1)
	for len(thick.Edges) < api.MaxEdges {
		thick.Edges = append(thick.Edges, api.Edge{A: 1, B: 2, Times: 100})
	}
	narrow := path(9, 100)
	narrow.Edges[0].Times = 1
	for _, g := range []api.Graph{path(9, 1), path(9, 100), narrow, far, thick, full(9, 100), ring(10, 100), graph(2, 0, 1, 1)} {
		for _, sink := range []int{0, g.Places / 2, g.Places - 1} {
			chips := slices.Repeat([]int{10000}, g.Places)
			chips[sink] = 0
			p := settled(t, g, sink, chips)
			balanced(t, g, sink, chips, p)
			if got, err := sand.Crowd(g, sink, chips, api.MaxCrew); err != nil || !same(got, p) {
				t.Errorf("Crowd(%v, %d, %v): %v, %v, want %v", g, sink, chips, got, err, p)
			}
		}
	}
}

// TestLeast: S2, S3: no place topples more often than it must: what topples less often, and leaves nothing that can, there is none.
func TestLeast(t *testing.T) {
	random := rand.New(rand.NewSource(7))
	for range 200 {
		g := anyGraph(random, 3, 3, 2)
		sink := random.Intn(3)
		chips := anyChips(random, 3, sink, 8)
		p := settled(t, g, sink, chips)
		a, b := (sink+1)%3, (sink+2)%3
		for i := range p.Topples[a] + 1 {
			for j := range p.Topples[b] + 1 {
				left := slices.Clone(chips)
				for _, e := range g.Edges {
					often := [3]int{}
					often[a], often[b] = i, j
					flow := (often[e.A] - often[e.B]) * e.Times
					left[e.A] -= flow
					left[e.B] += flow
				}
				left[sink] = 0
				if len(ready(g, sink, left)) == 0 && (i < p.Topples[a] || j < p.Topples[b]) {
					t.Errorf("Settle(%v, %d, %v): %v, but %d and %d do", g, sink, chips, p, i, j)
				}
			}
		}
	}
}
