package rules_test

import (
	"math"
	"reflect"
	"slices"
	"strconv"
	"strings"
	"testing"

	"eden/api"
	"eden/plain"
	"eden/rules"
)

// radii has, for each number of states, the greatest radius whose table has at most MaxTable entries.
var radii = map[int]int{2: 5, 3: 3, 4: 2}

func life(born, stay int) api.Rule {
	return api.Rule{Kind: api.Life, Born: born, Stay: stay}
}

func ant(turns string) api.Rule {
	return api.Rule{Kind: api.Ant, Turns: turns}
}

// line makes a rule whose table has as many entries as there are windows, unlike enough for left and right to be told apart.
func line(states, radius int) api.Rule {
	n := states
	for range radius {
		n *= states * states
	}
	table := make([]int, n)
	for i := range table {
		table[i] = (i*i/3 + i/7) % states
	}
	return api.Rule{Kind: api.Line, States: states, Radius: radius, Table: table}
}

func with(r api.Rule, change func(*api.Rule)) api.Rule {
	r.Table = slices.Clone(r.Table)
	change(&r)
	return r
}

func good() []api.Rule {
	out := []api.Rule{
		life(0, 0), life(511, 511), life(8, 12), life(256, 1),
		ant("L"), ant("R"), ant("RL"), ant(strings.Repeat("LR", 13)),
		{Kind: api.Life, Born: 8, Table: []int{}},
		{Kind: api.Ant, Turns: "R", Table: []int{}},
	}
	for states := 2; states <= 4; states++ {
		for radius := 0; radius <= radii[states]; radius++ {
			out = append(out, line(states, radius))
		}
	}
	return out
}

func bad() []api.Rule {
	out := []api.Rule{
		{},
		{Kind: -1}, {Kind: 4}, {Kind: math.MaxInt, Turns: "L"},
		life(-1, 0), life(512, 0), life(0, -1), life(0, 512), life(math.MinInt, 0), life(0, math.MaxInt),
		ant(""), ant(strings.Repeat("L", 27)), ant("LrR"), ant("l"), ant("L "), ant("L\x00"), ant("·"),
		{Kind: api.Line},
		{Kind: api.Line, States: 1, Table: []int{0}},
		{Kind: api.Line, States: 5, Table: []int{0, 1, 2, 3, 4}},
		{Kind: api.Line, States: -2, Table: []int{0, 1}},
		{Kind: api.Line, States: math.MaxInt, Radius: 1},
		{Kind: api.Line, States: math.MinInt, Radius: 1},
		{Kind: api.Line, States: 2, Radius: -1, Table: []int{0}},
		{Kind: api.Line, States: 2, Radius: -1, Table: []int{0, 1}},
		{Kind: api.Line, States: 2, Radius: math.MinInt},
		{Kind: api.Line, States: 2, Radius: math.MaxInt},
		{Kind: api.Line, States: 3, Radius: math.MaxInt, Table: []int{0, 1, 2}},
		{Kind: api.Line, States: 4, Radius: 1 << 31},
	}
	for states := 2; states <= 4; states++ {
		out = append(out, line(states, radii[states]+1))
		for radius := 0; radius <= radii[states]; radius++ {
			r := line(states, radius)
			last := len(r.Table) - 1
			out = append(out,
				with(r, func(r *api.Rule) { r.Table = r.Table[:last] }),
				with(r, func(r *api.Rule) { r.Table = append(r.Table, 0) }),
				with(r, func(r *api.Rule) { r.Table = nil }),
				with(r, func(r *api.Rule) { r.Table[0] = -1 }),
				with(r, func(r *api.Rule) { r.Table[last] = states }),
			)
		}
	}
	unused := []func(*api.Rule){
		func(r *api.Rule) { r.Born = 1 },
		func(r *api.Rule) { r.Stay = 1 },
		func(r *api.Rule) { r.States = 2 },
		func(r *api.Rule) { r.Radius = 1 },
		func(r *api.Rule) { r.Table = []int{0} },
		func(r *api.Rule) { r.Turns = "L" },
	}
	for i, change := range unused {
		if i > 1 {
			out = append(out, with(life(8, 12), change))
		}
		if i < 2 || i > 4 {
			out = append(out, with(line(2, 1), change))
		}
		if i < 5 {
			out = append(out, with(ant("RL"), change))
		}
	}
	return out
}

// TestCheck: R1, R2.
func TestCheck(t *testing.T) {
	for _, r := range good() {
		if err := rules.Check(r); err != nil {
			t.Errorf("Check(%v): %v, want nil", r, err)
		}
	}
	for _, r := range bad() {
		if err := rules.Check(r); plain.Told(err) != api.ErrRange {
			t.Errorf("Check(%v): %v, want ErrRange", r, err)
		}
	}
}

// TestCheckFirst: R2: what is wrong with a rule is said ahead of everything else, and nothing is answered beside it.
func TestCheckFirst(t *testing.T) {
	for _, r := range bad() {
		text, err := rules.Print(r)
		if text != "" || plain.Told(err) != api.ErrRange {
			t.Errorf("Print(%v): %q, %v, want ErrRange alone", r, text, err)
		}
		m, err := rules.Mirror(r)
		if !reflect.DeepEqual(m, api.Rule{}) || plain.Told(err) != api.ErrRange {
			t.Errorf("Mirror(%v): %v, %v, want ErrRange alone", r, m, err)
		}
	}
}

// TestPrint: R3.
func TestPrint(t *testing.T) {
	cases := []struct {
		rule api.Rule
		text string
	}{
		{life(0, 0), "B/S"},
		{life(8, 12), "B3/S23"},
		{life(511, 511), "B012345678/S012345678"},
		{life(256, 1), "B8/S0"},
		{api.Rule{Kind: api.Line, States: 2, Radius: 1, Table: []int{0, 1, 1, 1, 0, 1, 1, 0}}, "W110"},
		{api.Rule{Kind: api.Line, States: 2, Radius: 1, Table: make([]int, 8)}, "W0"},
		{api.Rule{Kind: api.Line, States: 2, Radius: 1, Table: []int{1, 1, 1, 1, 1, 1, 1, 1}}, "W255"},
		{api.Rule{Kind: api.Line, States: 2, Radius: 0, Table: []int{1, 0}}, "L 2 0 10"},
		{api.Rule{Kind: api.Line, States: 3, Radius: 0, Table: []int{1, 2, 0}}, "L 3 0 120"},
		{api.Rule{Kind: api.Line, States: 4, Radius: 0, Table: []int{3, 0, 1, 2}}, "L 4 0 3012"},
		{api.Rule{Kind: api.Line, States: 3, Radius: 1, Table: slices.Repeat([]int{0, 1, 2}, 9)}, "L 3 1 " + strings.Repeat("012", 9)},
		{api.Rule{Kind: api.Line, States: 2, Radius: 2, Table: slices.Repeat([]int{0, 1}, 16)}, "L 2 2 " + strings.Repeat("01", 16)},
		{ant("RL"), "T RL"},
		{ant(strings.Repeat("L", 26)), "T " + strings.Repeat("L", 26)},
	}
	for _, c := range cases {
		if text, err := rules.Print(c.rule); text != c.text || err != nil {
			t.Errorf("Print(%v): %q, %v, want %q", c.rule, text, err, c.text)
		}
	}
}

// TestPrintWide: R3: a rule with a greater radius than MaxRadius has no text.
func TestPrintWide(t *testing.T) {
	for _, r := range []api.Rule{line(2, 3), line(2, 4), line(2, 5), line(3, 3)} {
		if text, err := rules.Print(r); text != "" || plain.Told(err) != api.ErrFull {
			t.Errorf("Print of States %d, Radius %d: %q, %v, want ErrFull", r.States, r.Radius, text, err)
		}
	}
	for _, r := range []api.Rule{line(2, 2), line(3, 2), line(4, 2)} {
		if _, err := rules.Print(r); err != nil {
			t.Errorf("Print of States %d, Radius %d: %v, want nil", r.States, r.Radius, err)
		}
	}
}

// TestMirrorTexts: R4, by texts.
func TestMirrorTexts(t *testing.T) {
	cases := [][2]string{
		{"W110", "W124"},
		{"W170", "W240"},
		{"W90", "W90"},
		{"T RL", "T LR"},
		{"T RRLRL", "T LLRLR"},
		{"B3/S23", "B3/S23"},
		{"B/S", "B/S"},
		{"L 3 0 120", "L 3 0 120"},
		{"L 3 1 000000000111111111222222222", "L 3 1 012012012012012012012012012"},
	}
	for _, c := range cases {
		r, _, err := rules.Parse(c[0])
		if err != nil {
			t.Fatalf("Parse(%q): %v", c[0], err)
		}
		m, err := rules.Mirror(r)
		if err != nil {
			t.Errorf("Mirror of %q: %v", c[0], err)
		}
		if text, err := rules.Print(m); text != c[1] || err != nil {
			t.Errorf("Mirror of %q: %q, %v, want %q", c[0], text, err, c[1])
		}
	}
}

// mirrored reads a window the other way round, by its digits.
func mirrored(window, states, cells int) int {
	digits := strconv.FormatInt(int64(window), states)
	digits = strings.Repeat("0", cells-len(digits)) + digits
	turned := []byte(digits)
	slices.Reverse(turned)
	n, _ := strconv.ParseInt(string(turned), states, 64)
	return int(n)
}

// TestMirror: R4: each window becomes what its mirror image became, whatever the radius; and twice mirrored is the same.
func TestMirror(t *testing.T) {
	for _, r := range good() {
		m, err := rules.Mirror(r)
		if err != nil || rules.Check(m) != nil {
			t.Errorf("Mirror(%v): %v, %v", r, m, err)
			continue
		}
		for window, state := range r.Table {
			if m.Table[mirrored(window, r.States, 2*r.Radius+1)] != state {
				t.Errorf("Mirror of States %d, Radius %d: wrong at the mirror image of window %d", r.States, r.Radius, window)
				break
			}
		}
		back, err := rules.Mirror(m)
		if err != nil || back.Turns != r.Turns || !slices.Equal(back.Table, r.Table) {
			t.Errorf("Mirror of Mirror of %v: %v, %v", r, back, err)
		}
		if back.Kind != r.Kind || back.Born != r.Born || back.Stay != r.Stay || back.States != r.States || back.Radius != r.Radius {
			t.Errorf("Mirror of Mirror of %v: %v", r, back)
		}
	}
}

// TestMirrorMemory: P2, P4 of the document: what Mirror answers is the caller's, and what lies behind a list stays.
func TestMirrorMemory(t *testing.T) {
	memory := []int{0, 1, 1, 1, 0, 1, 1, 0, 7, 7}
	want := slices.Clone(memory)
	r := api.Rule{Kind: api.Line, States: 2, Radius: 1, Table: memory[:8]}
	m, err := rules.Mirror(r)
	if err != nil {
		t.Fatal(err)
	}
	if !slices.Equal(memory, want) {
		t.Errorf("Mirror wrote into its argument: %v", memory)
	}
	for i := range m.Table {
		m.Table[i] = 9
	}
	if !slices.Equal(memory, want) {
		t.Errorf("Mirror answers memory of its argument: %v", memory)
	}
	for _, r := range []api.Rule{{Kind: api.Life, Born: 8, Table: memory[:0]}, {Kind: api.Ant, Turns: "L", Table: memory[:0]}} {
		m, err := rules.Mirror(r)
		if err != nil || cap(m.Table) != 0 {
			t.Errorf("Mirror(%v): a list of capacity %d, %v, want no memory", r, cap(m.Table), err)
		}
	}
}
