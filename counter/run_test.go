package counter_test

import (
	"math/rand"
	"slices"
	"testing"

	"eden/api"
	"eden/counter"
	"eden/plain"
)

// ran asks what a machine comes to, and behind how many lines: with that many as fuel, with one more, and with MaxSteps; with one fewer it is ErrLong.
func ran(t *testing.T, code []api.Ins, counters, want []int, lines int) {
	t.Helper()
	for _, fuel := range []int{lines, lines + 1, api.MaxSteps - 1, api.MaxSteps} {
		if fuel > api.MaxSteps || fuel < lines {
			continue
		}
		c, n, err := counter.Run(code, counters, fuel)
		if err != nil || n != lines || !slices.Equal(c, want) {
			t.Errorf("Run(%v, %v, %d): %v, %d, %v, want %v, %d", code, counters, fuel, c, n, err, want, lines)
		}
	}
	for _, fuel := range []int{lines - 1, lines / 2, 0} {
		if fuel >= 0 && fuel < lines {
			stopped(t, code, counters, fuel, api.ErrLong)
		}
	}
}

// stopped asks that Run tells an error, and answers nothing beside it.
func stopped(t *testing.T, code []api.Ins, counters []int, fuel int, want api.Errno) {
	t.Helper()
	c, n, err := counter.Run(code, counters, fuel)
	if plain.Told(err) != want || len(c) != 0 || n != 0 {
		t.Errorf("Run(%v, %v, %d): %v, %d, %v, want %v", code, counters, fuel, c, n, err, want)
	}
}

// TestRun: C2: machines and what they come to.
func TestRun(t *testing.T) {
	ran(t, adder(), []int{2, 3, 0, 0}, []int{0, 5, 0, 0}, 5)
	ran(t, adder(), []int{0, 3, 7, 9}, []int{0, 3, 7, 9}, 1)
	ran(t, adder(), []int{0, 0, 0, 0}, []int{0, 0, 0, 0}, 1)
	ran(t, adder(), []int{10000, api.MaxCount - 10000, 1, 2}, []int{0, api.MaxCount, 1, 2}, 20001)
	// Halt at line 0: no line is gone.
	ran(t, halts(1), []int{0, 1, 2, 3}, []int{0, 1, 2, 3}, 0)
	ran(t, halts(12), []int{api.MaxCount, api.MaxCount, api.MaxCount, api.MaxCount}, []int{api.MaxCount, api.MaxCount, api.MaxCount, api.MaxCount}, 0)
	for a := range 4 {
		up, down, same := []int{5, 5, 5, 5}, []int{5, 5, 5, 5}, []int{5, 5, 5, 5}
		up[a]++
		down[a]--
		ran(t, []api.Ins{inc(a, 1), halt()}, same, up, 1)
		// Dec goes to To, and at 0 to Else, where nothing is less.
		ran(t, []api.Ins{dec(a, 1, 2), halt(), inc(a, 1)}, same, down, 1)
		same[a] = 0
		up[a] = 1
		ran(t, []api.Ins{dec(a, 1, 2), halt(), inc(a, 1)}, same, up, 2)
		ran(t, []api.Ins{dec(a, 0, 1), halt()}, up, same, 2)
	}
	// The product of counters 0 and 1 comes to counter 2, by counter 3.
	product := []api.Ins{dec(0, 1, 6), dec(1, 2, 4), inc(2, 3), inc(3, 1), dec(3, 5, 0), inc(1, 4), halt()}
	ran(t, product, []int{6, 7, 0, 0}, []int{0, 7, 42, 0}, 6*(1+3*7+1+2*7+1)+1)
	ran(t, product, []int{0, 7, 1, 0}, []int{0, 7, 1, 0}, 1)
	ran(t, product, []int{7, 0, 1, 0}, []int{0, 0, 1, 0}, 7*3+1)
}

// TestShape: C2: counters are four, and that is asked ahead of what they are and of fuel.
func TestShape(t *testing.T) {
	for _, counters := range [][]int{nil, {}, {1}, {1, 2, 3}, {1, 2, 3, 4, 5}, {-1, 2, 3}, {1, 2, 3, 4, -5}, {api.MaxCount + 1}, make([]int, 1000)} {
		for _, fuel := range []int{50, 0, -1, api.MaxSteps + 1} {
			stopped(t, adder(), counters, fuel, api.ErrShape)
			stopped(t, halts(1), counters, fuel, api.ErrShape)
		}
	}
	ran(t, halts(1), make([]int, 4), make([]int, 4), 0)
}

// TestCounters: C2: each counter is from 0 to MaxCount.
func TestCounters(t *testing.T) {
	for a := range 4 {
		for _, count := range []int{0, 1, api.MaxCount - 1, api.MaxCount} {
			counters := []int{1, 1, 1, 1}
			counters[a] = count
			ran(t, halts(2), counters, counters, 0)
		}
		for _, count := range beyond(0, api.MaxCount) {
			counters := []int{1, 1, 1, 1}
			counters[a] = count
			for _, fuel := range []int{50, 0, -1, api.MaxSteps + 1} {
				stopped(t, halts(2), counters, fuel, api.ErrRange)
				// It is told even where the machine would come to no end, or above MaxCount.
				stopped(t, []api.Ins{inc(a, 0)}, counters, fuel, api.ErrRange)
			}
		}
	}
}

// TestFuel: C2: fuel is from 0 to MaxSteps, even of a machine that halts at once.
func TestFuel(t *testing.T) {
	for _, fuel := range beyond(0, api.MaxSteps) {
		stopped(t, halts(1), []int{0, 0, 0, 0}, fuel, api.ErrRange)
		stopped(t, adder(), []int{2, 3, 0, 0}, fuel, api.ErrRange)
		stopped(t, []api.Ins{inc(0, 0)}, []int{api.MaxCount, 0, 0, 0}, fuel, api.ErrRange)
	}
	// As many lines as MaxSteps are gone, and one more.
	ran(t, []api.Ins{dec(0, 0, 1), halt()}, []int{api.MaxSteps - 1, 0, 0, 0}, []int{0, 0, 0, 0}, api.MaxSteps)
	stopped(t, []api.Ins{dec(0, 0, 1), halt()}, []int{api.MaxSteps, 0, 0, 0}, api.MaxSteps, api.ErrLong)
	// What never ends.
	for _, fuel := range []int{0, 1, 2, 1000, api.MaxSteps} {
		stopped(t, []api.Ins{inc(0, 0)}, []int{0, 0, 0, 0}, fuel, api.ErrLong)
		stopped(t, []api.Ins{dec(0, 0, 0)}, []int{0, 0, 0, 0}, fuel, api.ErrLong)
	}
}

// TestFull: C2: a counter that would be above MaxCount is ErrFull, behind ErrLong.
func TestFull(t *testing.T) {
	for a := range 4 {
		counters := []int{1, 1, 1, 1}
		counters[a] = api.MaxCount
		stopped(t, []api.Ins{inc(a, 1), halt()}, counters, 0, api.ErrLong)
		for _, fuel := range []int{1, 2, api.MaxSteps} {
			stopped(t, []api.Ins{inc(a, 1), halt()}, counters, fuel, api.ErrFull)
			stopped(t, []api.Ins{inc(a, 0)}, counters, fuel, api.ErrFull)
		}
		counters[a] = api.MaxCount - 5
		for fuel := range 6 {
			stopped(t, []api.Ins{inc(a, 0)}, counters, fuel, api.ErrLong)
		}
		for _, fuel := range []int{6, 7, api.MaxSteps} {
			stopped(t, []api.Ins{inc(a, 0)}, counters, fuel, api.ErrFull)
		}
		// MaxCount itself may be.
		counters[a] = api.MaxCount - 1
		full := slices.Clone(counters)
		full[a] = api.MaxCount
		ran(t, []api.Ins{inc(a, 1), halt()}, counters, full, 1)
		ran(t, []api.Ins{dec(a, 1, 2), inc(a, 2), halt()}, full, full, 2)
	}
	stopped(t, adder(), []int{2, api.MaxCount - 1, 0, 0}, 3, api.ErrLong)
	stopped(t, adder(), []int{2, api.MaxCount - 1, 0, 0}, 4, api.ErrFull)
}

// gone says what Run has to answer, word by word.
func gone(code []api.Ins, counters []int, fuel int) ([]int, int, api.Errno) {
	now := slices.Clone(counters)
	at, lines := 0, 0
	for code[at].Op != api.Halt {
		if lines == fuel {
			return nil, 0, api.ErrLong
		}
		in := code[at]
		if in.Op == api.Inc && now[in.A]+1 > api.MaxCount {
			return nil, 0, api.ErrFull
		}
		if in.Op == api.Inc {
			now[in.A], at = now[in.A]+1, in.To
		} else if now[in.A] > 0 {
			now[in.A], at = now[in.A]-1, in.To
		} else {
			at = in.Else
		}
		lines++
	}
	return now, lines, api.OK
}

func runsAs(t *testing.T, code []api.Ins, counters []int, fuel int) api.Errno {
	t.Helper()
	c, n, err := counter.Run(code, counters, fuel)
	want, lines, bad := gone(code, counters, fuel)
	if plain.Told(err) != bad || n != lines || !slices.Equal(c, want) {
		t.Errorf("Run(%v, %v, %d): %v, %d, %v, want %v, %d, %v", code, counters, fuel, c, n, err, want, lines, bad)
	}
	return bad
}

// TestEveryMachine: C2: all machines of two lines, and some of more, against lines gone word by word.
func TestEveryMachine(t *testing.T) {
	for _, first := range everyLine(2) {
		for _, second := range everyLine(2) {
			for _, counters := range [][]int{{0, 0, 0, 0}, {1, 2, 0, 3}, {api.MaxCount, 0, api.MaxCount - 2, 1}} {
				for fuel := range 9 {
					runsAs(t, []api.Ins{first, second}, counters, fuel)
				}
			}
		}
	}
	random := rand.New(rand.NewSource(3))
	told := map[api.Errno]int{}
	for range 20000 {
		code := anyMachine(random, 1+random.Intn(api.MaxCode))
		counters := make([]int, 4)
		for i := range counters {
			counters[i] = random.Intn(8)
			if random.Intn(8) == 0 {
				counters[i] = api.MaxCount - random.Intn(4)
			}
		}
		told[runsAs(t, code, counters, random.Intn(200))]++
	}
	if told[api.OK] < 1000 || told[api.ErrLong] < 1000 || told[api.ErrFull] < 100 {
		t.Errorf("told: %v", told)
	}
}
