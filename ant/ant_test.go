package ant_test

import (
	"math"
	"math/rand"
	"slices"
	"strings"
	"testing"

	"eden/ant"
	"eden/api"
	"eden/plain"
)

// edge is how far spots and walkers may stand.
const edge = 1000000

func rule(turns string) api.Rule {
	return api.Rule{Kind: api.Ant, Turns: turns}
}

// face is one of the calls that go.
type face struct {
	name string
	call func(api.Rule, []api.Spot, api.Walker, int) ([]api.Spot, api.Walker, error)
}

func faces() []face {
	return []face{{"Run", ant.Run}, {"Back", ant.Back}}
}

// gone is what a call answers where nothing is wrong.
func gone(t *testing.T, f face, turns string, spots []api.Spot, w api.Walker, n int) ([]api.Spot, api.Walker) {
	t.Helper()
	out, now, err := f.call(rule(turns), spots, w, n)
	if err != nil {
		t.Fatalf("%s(%s, %d spots, %v, %d): %v", f.name, turns, len(spots), w, n, err)
	}
	return out, now
}

// refused asks that a call tells an error, and answers nothing beside it.
func refused(t *testing.T, r api.Rule, spots []api.Spot, w api.Walker, n int, want api.Errno) {
	t.Helper()
	for _, f := range faces() {
		out, now, err := f.call(r, spots, w, n)
		if plain.Told(err) != want || len(out) != 0 || now != (api.Walker{}) {
			t.Errorf("%s(%v, %v, %v, %d): %v, %v, %v, want %v", f.name, r, spots, w, n, out, now, err, want)
		}
	}
}

// taken asks that both calls take what they are given.
func taken(t *testing.T, turns string, spots []api.Spot, w api.Walker, n int) {
	t.Helper()
	for _, f := range faces() {
		gone(t, f, turns, spots, w, n)
	}
}

// beyond are numbers outside of low to high, those beside them among them.
func beyond(low, high int) []int {
	return []int{math.MinInt, math.MinInt + 1, -1 << 32, low - 2, low - 1, high + 1, high + 2, 1 << 32, math.MaxInt}
}

// wrongSpots are lists of spots that are none, whatever the rule is, with what is told of them.
func wrongSpots() map[api.Errno][][]api.Spot {
	good := api.Spot{Right: 7, Down: 7, Colour: 1}
	ranges := [][]api.Spot{}
	for _, far := range beyond(-edge, edge) {
		for _, s := range []api.Spot{{Right: far, Colour: 1}, {Down: far, Colour: 1}, {Right: far, Down: far, Colour: 1}} {
			ranges = append(ranges, []api.Spot{s}, []api.Spot{s, good}, []api.Spot{good, s})
		}
	}
	for _, colour := range append(beyond(1, api.MaxTurns-1), 0) {
		s := api.Spot{Colour: colour}
		// A fault of range stands ahead of one of order, wherever both are.
		ranges = append(ranges, []api.Spot{s}, []api.Spot{s, good}, []api.Spot{good, s}, []api.Spot{s, s}, []api.Spot{good, good, s}, []api.Spot{s, good, good})
	}
	shapes := [][]api.Spot{
		{good, good},
		{{Right: 7, Down: 7, Colour: 1}, {Right: 7, Down: 7, Colour: 2}},
		{{Right: 7, Down: 7, Colour: 2}, {Right: 7, Down: 7, Colour: 1}},
		{{Right: 1, Colour: 1}, {Right: 0, Colour: 1}},
		{{Right: 0, Down: 1, Colour: 1}, {Right: 0, Down: 0, Colour: 1}},
		{{Right: 0, Down: 1, Colour: 1}, {Right: 1, Down: 0, Colour: 1}},
		{{Right: -edge, Down: edge, Colour: 1}, {Right: edge, Down: -edge, Colour: 1}},
		{{Right: edge, Colour: 1}, {Right: -edge, Colour: 1}},
		{{Right: 0, Colour: 1}, {Right: 1, Colour: 1}, {Right: 1, Colour: 1}},
		{{Right: 0, Colour: 1}, {Right: 2, Colour: 1}, {Right: 1, Colour: 1}},
		{{Right: 1, Colour: 1}, {Right: 0, Colour: 1}, {Right: 2, Colour: 1}},
	}
	return map[api.Errno][][]api.Spot{api.ErrRange: ranges, api.ErrShape: shapes}
}

// rightSpots are lists of spots of two colours that may be.
func rightSpots() [][]api.Spot {
	return [][]api.Spot{
		nil,
		{},
		{{Colour: 1}},
		{{Right: -edge, Down: -edge, Colour: 1}},
		{{Right: edge, Down: edge, Colour: 1}},
		{{Right: -edge, Down: -edge, Colour: 1}, {Right: edge, Down: -edge, Colour: 1}, {Right: -edge, Down: edge, Colour: 1}, {Right: edge, Down: edge, Colour: 1}},
		{{Right: 0, Colour: 1}, {Right: 1, Colour: 1}},
		{{Right: 9, Down: -1, Colour: 1}, {Right: -9, Down: 0, Colour: 1}},
		{{Right: 5, Down: 5, Colour: 1}, {Right: 5, Down: 6, Colour: 1}},
	}
}

// TestCheck: A1: spots that may be, and those that may not.
func TestCheck(t *testing.T) {
	for _, spots := range rightSpots() {
		if err := ant.Check(spots); err != nil {
			t.Errorf("Check(%v): %v", spots, err)
		}
	}
	for want, lists := range wrongSpots() {
		for _, spots := range lists {
			if err := ant.Check(spots); plain.Told(err) != want {
				t.Errorf("Check(%v): %v, want %v", spots, err, want)
			}
		}
	}
}

// TestCheckColours: A1: Check takes colours from 1 to MaxTurns - 1.
func TestCheckColours(t *testing.T) {
	for colour := -3; colour < 30; colour++ {
		want := api.ErrRange
		if colour >= 1 && colour <= 25 {
			want = api.OK
		}
		if err := ant.Check([]api.Spot{{Right: 3, Down: -3, Colour: colour}}); plain.Told(err) != want {
			t.Errorf("Check of colour %d: %v, want %v", colour, err, want)
		}
	}
}

// TestRises: A1: two spots rise by Down, then by Right.
func TestRises(t *testing.T) {
	for i := range 81 {
		a := api.Spot{Right: i%3 - 1, Down: i/3%3 - 1, Colour: 1}
		b := api.Spot{Right: i/9%3 - 1, Down: i/27 - 1, Colour: 1}
		want := api.ErrShape
		if 3*a.Down+a.Right < 3*b.Down+b.Right {
			want = api.OK
		}
		if err := ant.Check([]api.Spot{a, b}); plain.Told(err) != want {
			t.Errorf("Check(%v, %v): %v, want %v", a, b, err, want)
		}
		if want == api.OK {
			taken(t, "RL", []api.Spot{a, b}, api.Walker{}, 1)
		} else {
			refused(t, rule("RL"), []api.Spot{a, b}, api.Walker{}, 1, want)
		}
	}
}

// TestColours: A1: colours go to one below how many letters Turns has.
func TestColours(t *testing.T) {
	for letters := 1; letters <= api.MaxTurns; letters++ {
		turns := strings.Repeat("R", letters-1) + "L"
		for colour := -2; colour < 30; colour++ {
			spots := []api.Spot{{Right: 1, Down: 2, Colour: colour}}
			if colour >= 1 && colour < letters {
				taken(t, turns, spots, api.Walker{}, 3)
			} else {
				refused(t, rule(turns), spots, api.Walker{}, 3, api.ErrRange)
			}
		}
		taken(t, turns, nil, api.Walker{}, 3)
	}
}

// TestSpots: A1: what Check says of spots Run and Back say, too.
func TestSpots(t *testing.T) {
	for _, spots := range rightSpots() {
		taken(t, "LR", spots, api.Walker{}, 2)
	}
	for want, lists := range wrongSpots() {
		for _, spots := range lists {
			refused(t, rule(strings.Repeat("RL", 13)), spots, api.Walker{}, 2, want)
		}
	}
}

// TestWalkers: A1: where a walker may stand, and where it may face.
func TestWalkers(t *testing.T) {
	for _, w := range []api.Walker{{Right: -edge}, {Right: edge}, {Down: -edge}, {Down: edge}, {Right: edge, Down: -edge, Facing: 3}} {
		taken(t, "RL", nil, w, 2)
	}
	for _, far := range beyond(-edge, edge) {
		refused(t, rule("RL"), nil, api.Walker{Right: far}, 2, api.ErrRange)
		refused(t, rule("RL"), nil, api.Walker{Down: far}, 2, api.ErrRange)
		refused(t, rule("RL"), nil, api.Walker{Right: far}, 0, api.ErrRange)
	}
	for facing := range 4 {
		taken(t, "RL", nil, api.Walker{Facing: facing}, 2)
	}
	for _, facing := range beyond(0, 3) {
		refused(t, rule("RL"), nil, api.Walker{Facing: facing}, 2, api.ErrRange)
		refused(t, rule("RL"), nil, api.Walker{Facing: facing}, 0, api.ErrRange)
	}
}

// TestSteps: A1: how many steps there may be.
func TestSteps(t *testing.T) {
	for _, n := range []int{0, 1, 2, api.MaxSteps - 1, api.MaxSteps} {
		taken(t, "RL", nil, api.Walker{}, n)
	}
	for _, n := range beyond(0, api.MaxSteps) {
		refused(t, rule("RL"), nil, api.Walker{}, n, api.ErrRange)
	}
}

// wrongRules are none at all, or of another kind.
func wrongRules() []api.Rule {
	out := []api.Rule{
		{},
		{Kind: api.Life, Born: 8, Stay: 12},
		{Kind: api.Life},
		{Kind: api.Life, Turns: "RL"},
		{Kind: api.Line, States: 2, Table: []int{0, 1}},
		{Kind: api.Line, States: 2, Radius: 1, Table: []int{0, 1, 1, 1, 0, 1, 1, 0}},
		{Kind: api.Line, Turns: "RL"},
		{Turns: "RL"},
		{Kind: 4, Turns: "RL"},
		{Kind: -3, Turns: "RL"},
		{Kind: math.MinInt, Turns: "RL"},
		{Kind: math.MaxInt, Turns: "RL"},
		{Kind: api.Ant, Turns: "RL", Born: 1},
		{Kind: api.Ant, Turns: "RL", Stay: 1},
		{Kind: api.Ant, Turns: "RL", States: 2},
		{Kind: api.Ant, Turns: "RL", Radius: 1},
		{Kind: api.Ant, Turns: "RL", Table: []int{0}},
	}
	for _, turns := range []string{"", "r", "rl", "RLx", "xRL", "R L", "RL\n", "\x00", "RL\xff", "Я", strings.Repeat("R", 27), strings.Repeat("L", 1000)} {
		out = append(out, rule(turns))
	}
	return out
}

// TestRules: A1: rules that are none, and those of other kinds, are refused ahead of spots that do not rise.
func TestRules(t *testing.T) {
	twice := []api.Spot{{Colour: 1}, {Colour: 1}}
	for _, r := range wrongRules() {
		for _, n := range []int{0, 1, api.MaxSteps} {
			refused(t, r, nil, api.Walker{}, n, api.ErrRange)
		}
		refused(t, r, twice, api.Walker{}, 1, api.ErrRange)
		refused(t, r, twice, api.Walker{Facing: 4}, -1, api.ErrRange)
	}
	for _, turns := range []string{"R", "L", "RL", strings.Repeat("L", 26)} {
		taken(t, turns, nil, api.Walker{}, 1)
	}
	// An empty Table is none, even if it has memory.
	for _, f := range faces() {
		if _, _, err := f.call(api.Rule{Kind: api.Ant, Turns: "RL", Table: make([]int, 0, 5)}, nil, api.Walker{}, 1); err != nil {
			t.Errorf("%s with an empty Table: %v", f.name, err)
		}
	}
}

// TestOrder: A1: of several faults the one that is named first is told.
func TestOrder(t *testing.T) {
	twice := []api.Spot{{Right: 2, Colour: 1}, {Right: 2, Colour: 1}}
	far := api.Walker{Right: edge + 1}
	// That spots do not rise stands ahead of a walker and of steps that may not be.
	refused(t, rule("RL"), twice, far, 1, api.ErrShape)
	refused(t, rule("RL"), twice, api.Walker{Facing: 4}, 1, api.ErrShape)
	refused(t, rule("RL"), twice, api.Walker{}, -1, api.ErrShape)
	refused(t, rule("RL"), twice, far, api.MaxSteps+1, api.ErrShape)
	// A colour that the rule lacks stands ahead of it, though Check would take it.
	high := []api.Spot{{Right: 2, Colour: 1}, {Right: 2, Colour: 1}, {Right: 3, Colour: 2}}
	if err := ant.Check(high); plain.Told(err) != api.ErrShape {
		t.Errorf("Check(%v): %v, want ErrShape", high, err)
	}
	refused(t, rule("RL"), high, api.Walker{}, 1, api.ErrRange)
	refused(t, rule("RLR"), high, api.Walker{}, 1, api.ErrShape)
	refused(t, rule("R"), twice, api.Walker{}, 1, api.ErrRange)
	// Each fault alone is told where nothing else is wrong.
	refused(t, rule("RL"), nil, far, 1, api.ErrRange)
	refused(t, rule("RL"), nil, api.Walker{}, -1, api.ErrRange)
}

// TestFresh: P2: nothing that is handed in is written into, and nothing that comes out is shared.
func TestFresh(t *testing.T) {
	random := rand.New(rand.NewSource(1))
	for _, f := range faces() {
		for _, n := range []int{0, 1, 7, 300} {
			spots := anySpots(random, 9, 3, 40)
			long := append(slices.Clone(spots), api.Spot{Right: 99, Down: 99, Colour: 99}, api.Spot{Right: 99, Down: 99, Colour: 99})
			kept := slices.Clone(long)
			given := long[:len(spots)]
			out, w := gone(t, f, "RLL", given, api.Walker{}, n)
			again, _ := gone(t, f, "RLL", given, api.Walker{}, n)
			for i := range out {
				out[i] = api.Spot{Right: -77}
			}
			out = append(out, api.Spot{Right: -77})
			third, v := gone(t, f, "RLL", given, api.Walker{}, n)
			if !slices.Equal(again, third) || v != w || len(out) == 0 {
				t.Errorf("%s by %d shares what it gave out", f.name, n)
			}
			if !slices.Equal(long, kept) {
				t.Errorf("%s by %d writes into what it was given", f.name, n)
			}
		}
	}
}

// TestLists: P4: an empty list and nil are the same, and what lies behind a list's length does not count.
func TestLists(t *testing.T) {
	behind := []api.Spot{{Colour: 1}, {Colour: 99}}
	for _, f := range faces() {
		want, w := gone(t, f, "RL", nil, api.Walker{}, 9)
		for _, spots := range [][]api.Spot{{}, behind[:0]} {
			if got, v := gone(t, f, "RL", spots, api.Walker{}, 9); !slices.Equal(got, want) || v != w {
				t.Errorf("%s of an empty list: %v, %v, want %v, %v", f.name, got, v, want, w)
			}
		}
		gone(t, f, "RL", behind[:1], api.Walker{}, 9)
	}
	if err := ant.Check(behind[:1]); err != nil {
		t.Errorf("Check looks behind a list: %v", err)
	}
}
