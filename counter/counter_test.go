package counter_test

import (
	"math"
	"math/rand"
	"slices"
	"testing"

	"eden/api"
	"eden/counter"
	"eden/plain"
)

func inc(a, to int) api.Ins        { return api.Ins{Op: api.Inc, A: a, To: to} }
func dec(a, to, other int) api.Ins { return api.Ins{Op: api.Dec, A: a, To: to, Else: other} }
func halt() api.Ins                { return api.Ins{Op: api.Halt} }

// adder is the machine of the document's table: what is in counter 0 goes to counter 1.
func adder() []api.Ins {
	return []api.Ins{dec(0, 1, 2), inc(1, 0), halt()}
}

// halts is a machine of as many lines, each of which halts.
func halts(lines int) []api.Ins {
	out := make([]api.Ins, lines)
	for i := range out {
		out[i] = halt()
	}
	return out
}

// with is a machine of as many lines with one line put at a place.
func with(lines, at int, in api.Ins) []api.Ins {
	out := halts(lines)
	out[at] = in
	return out
}

// everyLine are all lines that a machine of as many lines may have.
func everyLine(lines int) []api.Ins {
	out := []api.Ins{halt()}
	for a := range 4 {
		for to := range lines {
			out = append(out, inc(a, to))
			for other := range lines {
				out = append(out, dec(a, to, other))
			}
		}
	}
	return out
}

// anyMachine is one of as many lines, of which some halt.
func anyMachine(random *rand.Rand, lines int) []api.Ins {
	all := everyLine(lines)
	out := make([]api.Ins, lines)
	for i := range out {
		out[i] = all[random.Intn(len(all))]
		switch random.Intn(6) {
		case 0:
			out[i] = halt()
		case 1:
			out[i] = inc(random.Intn(4), random.Intn(lines))
		}
	}
	return out
}

// beyond are numbers outside of low to high, those beside them among them.
func beyond(low, high int) []int {
	return []int{math.MinInt, math.MinInt + 1, -1 << 32, low - 2, low - 1, high + 1, high + 2, 1 << 32, math.MaxInt}
}

// refused asks that each call that takes a machine tells an error, and answers nothing beside it. What else the calls are given is wrong, too, since what Check says is said first.
func refused(t *testing.T, code []api.Ins, want api.Errno) {
	t.Helper()
	if err := counter.Check(code); plain.Told(err) != want {
		t.Errorf("Check(%v): %v, want %v", code, err, want)
	}
	if text, err := counter.Print(code); plain.Told(err) != want || text != "" {
		t.Errorf("Print(%v): %q, %v, want %v", code, text, err, want)
	}
	if l, err := counter.Fractions(code); plain.Told(err) != want || len(l) != 0 {
		t.Errorf("Fractions(%v): %v, %v, want %v", code, l, err, want)
	}
	for _, counters := range [][]int{{1, 2, 3, 4}, {1, 2, 3}, {-1, 0, 0, 0}, nil} {
		for _, fuel := range []int{50, 0, -1, api.MaxSteps + 1} {
			c, n, err := counter.Run(code, counters, fuel)
			if plain.Told(err) != want || len(c) != 0 || n != 0 {
				t.Errorf("Run(%v, %v, %d): %v, %d, %v, want %v", code, counters, fuel, c, n, err, want)
			}
		}
	}
}

// taken asks that each call takes a machine; Run may find that it does not end.
func taken(t *testing.T, code []api.Ins) {
	t.Helper()
	if err := counter.Check(code); err != nil {
		t.Errorf("Check(%v): %v", code, err)
	}
	if text, err := counter.Print(code); err != nil || text == "" {
		t.Errorf("Print(%v): %q, %v", code, text, err)
	}
	if l, err := counter.Fractions(code); err != nil || len(l) < len(code) {
		t.Errorf("Fractions(%v): %v, %v", code, l, err)
	}
	if _, _, err := counter.Run(code, []int{1, 2, 3, 4}, 50); err != nil && plain.Told(err) != api.ErrLong {
		t.Errorf("Run(%v): %v", code, err)
	}
}

// TestLines: C1: how many lines there may be.
func TestLines(t *testing.T) {
	for lines := 1; lines <= api.MaxCode; lines++ {
		taken(t, halts(lines))
		for _, in := range everyLine(lines) {
			taken(t, with(lines, 0, in))
			taken(t, with(lines, lines-1, in))
		}
	}
	for _, code := range [][]api.Ins{nil, {}, halts(13), halts(14), halts(1000), halts(5)[:0]} {
		refused(t, code, api.ErrFull)
	}
	// How many there are is named ahead of what is in them.
	refused(t, with(13, 0, api.Ins{Op: 9}), api.ErrFull)
	refused(t, with(13, 12, inc(4, 0)), api.ErrFull)
	refused(t, with(13, 5, inc(0, 13)), api.ErrFull)
	refused(t, make([]api.Ins, 13), api.ErrFull)
}

// TestOps: C1: an Op is one of three.
func TestOps(t *testing.T) {
	for _, op := range append(beyond(1, 3), 0) {
		for lines := 1; lines <= api.MaxCode; lines++ {
			for at := range lines {
				refused(t, with(lines, at, api.Ins{Op: op}), api.ErrRange)
			}
		}
		refused(t, []api.Ins{{Op: op, A: 1, To: 1, Else: 1}, halt()}, api.ErrRange)
	}
}

// TestRanges: C1: each number of a line, near its bounds and far from them, at the first, a middle and the last line.
func TestRanges(t *testing.T) {
	for _, lines := range []int{1, 3, api.MaxCode} {
		for _, at := range []int{0, lines / 2, lines - 1} {
			for a := range 4 {
				taken(t, with(lines, at, inc(a, 0)))
				taken(t, with(lines, at, dec(a, 0, 0)))
			}
			for _, a := range beyond(0, 3) {
				refused(t, with(lines, at, inc(a, 0)), api.ErrRange)
				refused(t, with(lines, at, dec(a, 0, 0)), api.ErrRange)
			}
			for to := range lines {
				taken(t, with(lines, at, inc(3, to)))
				taken(t, with(lines, at, dec(3, to, 0)))
				taken(t, with(lines, at, dec(3, 0, to)))
			}
			for _, to := range beyond(0, lines-1) {
				refused(t, with(lines, at, inc(3, to)), api.ErrRange)
				refused(t, with(lines, at, dec(3, to, 0)), api.ErrRange)
				refused(t, with(lines, at, dec(3, 0, to)), api.ErrRange)
			}
		}
	}
}

// TestNotUsed: C1: what an Op does not use is 0, even if it would be a line or a counter.
func TestNotUsed(t *testing.T) {
	for _, n := range append(beyond(0, 0), 3, 4) {
		refused(t, with(6, 0, api.Ins{Op: api.Inc, A: 1, To: 1, Else: n}), api.ErrRange)
		refused(t, with(6, 1, api.Ins{Op: api.Inc, Else: n}), api.ErrRange)
		refused(t, with(6, 2, api.Ins{Op: api.Halt, A: n}), api.ErrRange)
		refused(t, with(6, 3, api.Ins{Op: api.Halt, To: n}), api.ErrRange)
		refused(t, with(6, 4, api.Ins{Op: api.Halt, Else: n}), api.ErrRange)
		refused(t, with(6, 5, api.Ins{Op: api.Halt, A: n, To: n, Else: n}), api.ErrRange)
	}
}

// TestCheckAll: C1: of two lines every first one with small numbers, against the list of those that may be.
func TestCheckAll(t *testing.T) {
	all := everyLine(2)
	count := 0
	for op := -1; op <= 5; op++ {
		for a := -1; a <= 5; a++ {
			for to := -1; to <= 3; to++ {
				for other := -1; other <= 3; other++ {
					in := api.Ins{Op: op, A: a, To: to, Else: other}
					want := api.ErrRange
					if slices.Contains(all, in) {
						want = api.OK
						count++
					}
					if err := counter.Check([]api.Ins{in, halt()}); plain.Told(err) != want {
						t.Errorf("Check(%v first of two): %v, want %v", in, err, want)
					}
				}
			}
		}
	}
	if count != 1+4*2+4*2*2 {
		t.Errorf("%d lines may be", count)
	}
}

// TestGiven: P2, P4: nothing that is handed in is written into, and what lies behind a list's length does not count.
func TestGiven(t *testing.T) {
	code := append(adder(), api.Ins{Op: 99, A: 99, To: 99, Else: 99}, api.Ins{Op: 98})
	counters := []int{2, 3, 0, 1, -7, -7}
	list := []api.Fraction{{Up: 3, Low: 2}, {Up: 0, Low: 0}, {Up: -1, Low: -1}}
	keptCode, keptCounters, keptList := slices.Clone(code), slices.Clone(counters), slices.Clone(list)
	taken(t, code[:3])
	c, n, err := counter.Run(code[:3], counters[:4], 5)
	if err != nil || n != 5 || !slices.Equal(c, []int{0, 5, 0, 1}) {
		t.Errorf("Run: %v, %d, %v", c, n, err)
	}
	if n, often, err := counter.Play(list[:1], 8, 3); err != nil || n != 27 || often != 3 {
		t.Errorf("Play: %d, %d, %v", n, often, err)
	}
	counter.Run(code, counters, 5)
	counter.Run(code[:3], counters, 5)
	counter.Play(list, 8, 3)
	if !slices.Equal(code, keptCode) || !slices.Equal(counters, keptCounters) || !slices.Equal(list, keptList) {
		t.Errorf("written into: %v, %v, %v", code, counters, list)
	}
}

// TestFresh: P2: what comes out is the caller's, and shares nothing with what went in or came out before.
func TestFresh(t *testing.T) {
	for range 2 {
		code, _, err := counter.Parse("dec 0 1 2\ninc 1 0\nhalt\n")
		if err != nil || !slices.Equal(code, adder()) {
			t.Fatalf("Parse: %v, %v", code, err)
		}
		list, err := counter.Fractions(code)
		if err != nil || !slices.Equal(list, adderFractions()) {
			t.Fatalf("Fractions: %v, %v", list, err)
		}
		// A machine that halts at once gives its counters out as they are.
		counters := []int{1, 2, 3, 4}
		c, _, err := counter.Run(halts(1), counters, 0)
		if err != nil || !slices.Equal(c, counters) {
			t.Fatalf("Run: %v, %v", c, err)
		}
		for i := range c {
			c[i] = -9
		}
		for i := range list {
			list[i] = api.Fraction{}
		}
		if !slices.Equal(counters, []int{1, 2, 3, 4}) || !slices.Equal(code, adder()) {
			t.Errorf("shared: %v, %v", counters, code)
		}
		for i := range code {
			code[i] = api.Ins{}
		}
	}
}
