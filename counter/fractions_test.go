package counter_test

import (
	"math"
	"math/big"
	"math/rand"
	"slices"
	"testing"

	"eden/api"
	"eden/counter"
	"eden/plain"
)

// adderFractions are those of the document's table.
func adderFractions() []api.Fraction {
	return fractions(19, 22, 29, 11, 39, 17, 11, 13, 17, 19, 23, 29)
}

// fractions takes numbers by twos.
func fractions(numbers ...int) []api.Fraction {
	var out []api.Fraction
	for i := 0; i < len(numbers); i += 2 {
		out = append(out, api.Fraction{Up: numbers[i], Low: numbers[i+1]})
	}
	return out
}

// played asks what a number comes to, and how often; with less fuel it is ErrLong.
func played(t *testing.T, l []api.Fraction, n, want, times int) {
	t.Helper()
	for _, fuel := range []int{times, times + 1, api.MaxSteps} {
		if fuel > api.MaxSteps {
			continue
		}
		got, often, err := counter.Play(l, n, fuel)
		if err != nil || got != want || often != times {
			t.Errorf("Play(%v, %d, %d): %d, %d, %v, want %d, %d", l, n, fuel, got, often, err, want, times)
		}
	}
	for _, fuel := range []int{times - 1, times / 2, 0} {
		if fuel >= 0 && fuel < times {
			lost(t, l, n, fuel, api.ErrLong)
		}
	}
}

// lost asks that Play tells an error, and answers nothing beside it.
func lost(t *testing.T, l []api.Fraction, n, fuel int, want api.Errno) {
	t.Helper()
	got, often, err := counter.Play(l, n, fuel)
	if plain.Told(err) != want || got != 0 || often != 0 {
		t.Errorf("Play(%v, %d, %d): %d, %d, %v, want %v", l, n, fuel, got, often, err, want)
	}
}

// TestPlay: C3: lists and what they come to.
func TestPlay(t *testing.T) {
	played(t, fractions(3, 2), 8, 27, 3)
	played(t, fractions(3, 2), 7, 7, 0)
	played(t, fractions(3, 2), 1, 1, 0)
	played(t, fractions(1, 2), 1<<40, 1, 40)
	played(t, fractions(1, 2), 3<<40, 3, 40)
	played(t, adderFractions(), 4*27*11, 243*23, 10)
	// A product: 2^a 3^b becomes 5^(a b).
	product := fractions(455, 33, 11, 13, 1, 11, 3, 7, 11, 2, 1, 3)
	if n, _, err := counter.Play(product, 4*27, 1000); err != nil || n != 15625 {
		t.Errorf("Play of a product: %d, %v, want 5^6", n, err)
	}
	// No fractions: nothing becomes of n, which may be any from 1 on.
	for _, n := range []int{1, 2, 12, 1<<62 - 1, 1 << 62, 1<<62 + 1, math.MaxInt} {
		played(t, nil, n, n, 0)
		played(t, []api.Fraction{}, n, n, 0)
		played(t, fractions(1, 1<<62+3), n-n%2+1, n-n%2+1, 0)
	}
}

// TestFirst: C3: the first fraction that fits is taken, each time from the first on.
func TestFirst(t *testing.T) {
	played(t, fractions(5, 2, 7, 2), 2, 5, 1)
	played(t, fractions(7, 2, 5, 2), 2, 7, 1)
	played(t, fractions(5, 3, 7, 2), 6, 35, 2)
	played(t, fractions(1, 3, 3, 2), 4, 1, 4)
	// 12: 7/6 fits, then 1/2 does; with the two exchanged 1/2 does twice.
	played(t, fractions(7, 6, 1, 2), 12, 7, 2)
	played(t, fractions(1, 2, 7, 6), 12, 3, 2)
	// What would be too great is none to pass by.
	lost(t, fractions(3, 1, 1, 2), 1<<62, 5, api.ErrFull)
	played(t, fractions(1, 2, 3, 1<<62+3), 1<<62, 1, 62)
}

// TestNotLowest: C3: a fraction that is not in lowest terms fits where n Up / Low is whole, though Low may not divide n.
func TestNotLowest(t *testing.T) {
	played(t, fractions(2, 4), 2, 1, 1)
	played(t, fractions(2, 4), 1, 1, 0)
	played(t, fractions(2, 4), 12, 3, 2)
	played(t, fractions(6, 4), 2, 3, 1)
	played(t, fractions(10, 15), 27, 8, 3)
	lost(t, fractions(12, 12), 7, 5, api.ErrLong)
	lost(t, fractions(12, 12), 7, 0, api.ErrLong)
	lost(t, fractions(1, 1), 7, api.MaxSteps, api.ErrLong)
	lost(t, fractions(5, 23, 9, 9), 46, 50, api.ErrLong)
	lost(t, fractions(1<<62, 1<<62), 3, 50, api.ErrLong)
	lost(t, fractions(math.MaxInt, math.MaxInt), 1<<62, 50, api.ErrLong)
	played(t, fractions(math.MaxInt-1, 2*(math.MaxInt/4)), 5, 5, 0)
	played(t, fractions(1<<61, 1<<62), 1<<62, 1, 62)
}

// TestPlayRanges: C3: what Up, Low, n and fuel may be.
func TestPlayRanges(t *testing.T) {
	for _, bad := range []int{0, -1, -2, -1 << 32, math.MinInt + 1, math.MinInt} {
		for _, fuel := range []int{50, 0, -1} {
			lost(t, fractions(bad, 1), 7, fuel, api.ErrRange)
			lost(t, fractions(1, bad), 7, fuel, api.ErrRange)
			lost(t, fractions(bad, bad), 7, fuel, api.ErrRange)
			lost(t, fractions(3, 2, bad, 1), 7, fuel, api.ErrRange)
			lost(t, fractions(3, 2, 1, bad), 7, fuel, api.ErrRange)
			lost(t, fractions(3, 2, 1, bad, 5, 7), 7, fuel, api.ErrRange)
			lost(t, nil, bad, fuel, api.ErrRange)
			lost(t, fractions(3, 2), bad, fuel, api.ErrRange)
		}
	}
	for _, fuel := range beyond(0, api.MaxSteps) {
		lost(t, nil, 7, fuel, api.ErrRange)
		lost(t, fractions(3, 2), 8, fuel, api.ErrRange)
		lost(t, fractions(math.MaxInt, 1), math.MaxInt, fuel, api.ErrRange)
	}
	// A wrong one behind one that would be too great, or that goes on without end.
	lost(t, fractions(math.MaxInt, 1, 0, 1), math.MaxInt, 5, api.ErrRange)
	lost(t, fractions(1, 1, 1, 0), 3, 0, api.ErrRange)
	played(t, fractions(1, 2), 2, 1, 1)
	played(t, fractions(1, 1<<62), 1<<62, 1, 1)
	played(t, fractions(1, math.MaxInt), math.MaxInt, 1, 1)
	played(t, fractions(math.MaxInt-1, math.MaxInt), 1, 1, 0)
}

// TestPlayFull: C3: 2^62 may be, above it is ErrFull, behind ErrLong.
func TestPlayFull(t *testing.T) {
	played(t, fractions(2, 3), 3<<61, 1<<62, 1)
	played(t, fractions(1<<62, 3), 3, 1<<62, 1)
	played(t, fractions(1<<61, 3), 6, 1<<62, 1)
	lost(t, fractions(1<<62+1, 3), 3, 5, api.ErrFull)
	lost(t, fractions(1<<62+1, 3), 3, 0, api.ErrLong)
	lost(t, fractions(2, 1), 1<<61+1, 5, api.ErrFull)
	lost(t, fractions(1, 1), 1<<62+1, 5, api.ErrFull)
	lost(t, fractions(1, 1), math.MaxInt, 1, api.ErrFull)
	lost(t, fractions(1, 1), math.MaxInt, 0, api.ErrLong)
	lost(t, fractions(1, 1), 1<<62, 5, api.ErrLong)
	// Above 64 bits, too, no power of 2 is taken for what is left of it in them.
	for n := range 63 {
		for up := range 63 {
			for low := range up {
				lost(t, fractions(1<<up, 1<<low), 1<<n, 0, api.ErrLong)
				if n+up-low > 62 {
					lost(t, fractions(1<<up, 1<<low), 1<<n, 1, api.ErrFull)
				} else {
					lost(t, fractions(1<<up, 1<<low), 1<<n, 1, api.ErrLong)
				}
			}
		}
	}
	for times := range 62 {
		lost(t, fractions(2, 1), 1, times, api.ErrLong)
	}
	lost(t, fractions(2, 1), 1, 62, api.ErrLong)
	lost(t, fractions(2, 1), 1, 63, api.ErrFull)
	lost(t, fractions(2, 1), 1, api.MaxSteps, api.ErrFull)
	lost(t, fractions(math.MaxInt, 1), math.MaxInt, 1, api.ErrFull)
	lost(t, fractions(math.MaxInt, 2), math.MaxInt-1, 1, api.ErrFull)
	// As often as MaxSteps, and no end.
	lost(t, fractions(3, 2, 2, 3), 2, api.MaxSteps, api.ErrLong)
}

// game says what Play has to answer, by numbers of any size.
func game(l []api.Fraction, n *big.Int, fuel int) (*big.Int, int, api.Errno) {
	top := new(big.Int).Lsh(big.NewInt(1), 62)
	for often := 0; ; often++ {
		next := (*big.Int)(nil)
		for _, f := range l {
			r := new(big.Rat).SetFrac(new(big.Int).Mul(n, big.NewInt(int64(f.Up))), big.NewInt(int64(f.Low)))
			if r.IsInt() {
				next = r.Num()
				break
			}
		}
		switch {
		case next == nil:
			return n, often, api.OK
		case often == fuel:
			return new(big.Int), 0, api.ErrLong
		case next.Cmp(top) > 0:
			return new(big.Int), 0, api.ErrFull
		}
		n = next
	}
}

// TestAnyGame: C3: lists and numbers small and great, against numbers of any size.
func TestAnyGame(t *testing.T) {
	random := rand.New(rand.NewSource(4))
	great := []int{1 << 31, 1 << 32, 1 << 61, 1 << 62, 1<<62 + 1, math.MaxInt - 1, math.MaxInt, 6700417 * 6700417, 3 << 60}
	some := func() int {
		switch random.Intn(12) {
		case 0:
			return great[random.Intn(len(great))]
		case 1:
			return 1 + int(random.Int63()>>random.Intn(62))
		}
		return 1 + random.Intn(40)
	}
	told := map[api.Errno]int{}
	for range 30000 {
		l := make([]api.Fraction, random.Intn(7))
		for i := range l {
			l[i] = api.Fraction{Up: max(1, some()), Low: max(1, some())}
		}
		n, fuel := max(1, some()*(1+random.Intn(60))), random.Intn(40)
		want, times, bad := game(l, big.NewInt(int64(n)), fuel)
		told[bad]++
		got, often, err := counter.Play(l, n, fuel)
		if plain.Told(err) != bad || int64(got) != want.Int64() || often != times {
			t.Errorf("Play(%v, %d, %d): %d, %d, %v, want %v, %d, %v", l, n, fuel, got, often, err, want, times, bad)
		}
	}
	if told[api.OK] < 1000 || told[api.ErrLong] < 1000 || told[api.ErrFull] < 1000 {
		t.Errorf("told: %v", told)
	}
}

// TestPrimes: C3: the powers of 2 that Conway's list comes to have the primes, one by one.
func TestPrimes(t *testing.T) {
	conway := fractions(17, 91, 78, 85, 19, 51, 23, 38, 29, 33, 77, 29, 95, 23, 77, 19, 1, 17, 11, 13, 13, 11, 15, 14, 15, 2, 55, 1)
	for _, c := range []struct{ power, times int }{{2, 19}, {3, 69}, {5, 280}, {7, 707}} {
		n := 2
		for at := 1; at <= c.times; at++ {
			next, ok := once(conway, n)
			if !ok {
				t.Fatalf("ends at %d", at)
			}
			n = next
		}
		if n != 1<<c.power {
			t.Errorf("behind %d times: %d, want 2^%d", c.times, n, c.power)
		}
	}
	lost(t, conway, 2, 1000, api.ErrLong)
}

// once plays one time: the prime 1000003 in n goes then, and without it no fraction fits.
func once(l []api.Fraction, n int) (int, bool) {
	const mark = 1000003
	var marked []api.Fraction
	for _, f := range l {
		marked = append(marked, api.Fraction{Up: f.Up, Low: f.Low * mark})
	}
	got, often, err := counter.Play(marked, n*mark, 10)
	return got, err == nil && often == 1
}

// isPrime tries all that could divide n.
func isPrime(n int) bool {
	for d := 2; d < n; d++ {
		if n%d == 0 {
			return false
		}
	}
	return n > 1
}

// firstPrimes are as many, from 2 on.
func firstPrimes(many int) []int {
	var out []int
	for n := 2; len(out) < many; n++ {
		if isPrime(n) {
			out = append(out, n)
		}
	}
	return out
}

// TestFractions: C3: the fractions of the table, of each Op, and of all lines there may be.
func TestFractions(t *testing.T) {
	cases := []struct {
		code []api.Ins
		want []api.Fraction
	}{
		{adder(), adderFractions()},
		{halts(1), fractions(11, 13)},
		{halts(3), fractions(11, 13, 17, 19, 23, 29)},
		{[]api.Ins{inc(0, 0)}, fractions(26, 11, 11, 13)},
		{[]api.Ins{inc(3, 1), halt()}, fractions(133, 11, 11, 13, 17, 19)},
		{[]api.Ins{dec(2, 0, 0)}, fractions(13, 55, 13, 11, 11, 13)},
		{[]api.Ins{halt(), dec(3, 0, 1), inc(2, 1)}, fractions(13, 119, 19, 17, 95, 23, 11, 13, 17, 19, 23, 29)},
		{halts(12), fractions(11, 13, 17, 19, 23, 29, 31, 37, 41, 43, 47, 53, 59, 61, 67, 71, 73, 79, 83, 89, 97, 101, 103, 107)},
	}
	for _, c := range cases {
		if l, err := counter.Fractions(c.code); err != nil || !slices.Equal(l, c.want) {
			t.Errorf("Fractions(%v): %v, %v, want %v", c.code, l, err, c.want)
		}
	}
	random := rand.New(rand.NewSource(5))
	for range 3000 {
		code := anyMachine(random, 1+random.Intn(api.MaxCode))
		if l, err := counter.Fractions(code); err != nil || !slices.Equal(l, made(code)) {
			t.Errorf("Fractions(%v): %v, %v, want %v", code, l, err, made(code))
		}
	}
}

// made says what Fractions has to answer.
func made(code []api.Ins) []api.Fraction {
	primes := firstPrimes(4 + 2*len(code))
	q := func(line int) int { return primes[4+2*line] }
	r := func(line int) int { return primes[4+2*line+1] }
	var out, behind []api.Fraction
	for i, in := range code {
		if in.Op == api.Inc {
			out = append(out, fractions(primes[in.A]*r(in.To), q(i))...)
		}
		if in.Op == api.Dec {
			out = append(out, fractions(r(in.To), q(i)*primes[in.A], r(in.Else), q(i))...)
		}
		behind = append(behind, fractions(q(i), r(i))...)
	}
	return append(out, behind...)
}

// number is the primes' powers of counters, times q of a line.
func number(counters []int, line int) *big.Int {
	primes := firstPrimes(4 + 2*api.MaxCode)
	n := big.NewInt(int64(primes[4+2*line]))
	for i, count := range counters {
		n.Mul(n, new(big.Int).Exp(big.NewInt(int64(primes[i])), big.NewInt(int64(count)), nil))
	}
	return n
}

// sameGame: C4: where Run comes to an end behind s lines, Play comes to what that says behind 2 s times, if no number on the way is too great; then it is ErrFull.
func sameGame(t *testing.T, code []api.Ins, counters []int) api.Errno {
	t.Helper()
	c, s, err := counter.Run(code, counters, 300)
	begin := number(counters, 0)
	if err != nil || !begin.IsInt64() {
		return api.ErrLong
	}
	l, err := counter.Fractions(code)
	if err != nil {
		t.Fatalf("Fractions(%v): %v", code, err)
	}
	_, _, bad := game(l, begin, 2*s)
	if bad == api.ErrFull {
		lost(t, l, int(begin.Int64()), 2*s, api.ErrFull)
		return bad
	}
	want := number(c, standsAt(code, counters, s))
	if bad != api.OK || !want.IsInt64() {
		t.Errorf("%v, %v: %v, and comes to %v", code, counters, bad, want)
		return bad
	}
	played(t, l, int(begin.Int64()), int(want.Int64()), 2*s)
	return api.OK
}

// standsAt is the line at which a machine stands behind as many lines.
func standsAt(code []api.Ins, counters []int, lines int) int {
	now := slices.Clone(counters)
	at := 0
	for range lines {
		in := code[at]
		switch {
		case in.Op == api.Inc:
			now[in.A]++
			at = in.To
		case now[in.A] > 0:
			now[in.A]--
			at = in.To
		default:
			at = in.Else
		}
	}
	return at
}

// TestSameGame: C4: all machines of two lines, the table's, and many others.
func TestSameGame(t *testing.T) {
	told := map[api.Errno]int{}
	for _, first := range everyLine(2) {
		for _, second := range everyLine(2) {
			for _, counters := range [][]int{{0, 0, 0, 0}, {1, 2, 0, 3}, {3, 1, 2, 0}} {
				told[sameGame(t, []api.Ins{first, second}, counters)]++
			}
		}
	}
	for i := range 100 {
		if sameGame(t, adder(), []int{i % 10, i / 10, 1, 0}) != api.OK {
			t.Errorf("the adder with %d and %d is too great", i%10, i/10)
		}
	}
	random := rand.New(rand.NewSource(6))
	for range 10000 {
		code := anyMachine(random, 1+random.Intn(api.MaxCode))
		counters := []int{random.Intn(6), random.Intn(5), random.Intn(4), random.Intn(3)}
		if random.Intn(3) == 0 { // near what is too great
			counters = []int{random.Intn(20) + 40, random.Intn(2), random.Intn(2), 0}
		}
		told[sameGame(t, code, counters)]++
	}
	if told[api.OK] < 2000 || told[api.ErrFull] < 100 {
		t.Errorf("told: %v", told)
	}
}
