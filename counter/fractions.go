package counter

import (
	"math/bits"

	"eden/api"
)

// greatest is what a number that is played on may become.
const greatest = 1 << 62

// primes has one for each counter, and two for each line.
var primes = [allCounters + 2*api.MaxCode]int{
	2, 3, 5, 7,
	11, 13, 17, 19, 23, 29, 31, 37, 41, 43, 47, 53,
	59, 61, 67, 71, 73, 79, 83, 89, 97, 101, 103, 107,
}

// Fractions makes fractions of a machine.
func Fractions(code []api.Ins) ([]api.Fraction, error) {
	if err := Check(code); err != nil {
		return nil, err
	}
	var out []api.Fraction
	for line, in := range code {
		switch in.Op {
		case api.Inc:
			out = append(out, api.Fraction{Up: primes[in.A] * come(in.To), Low: stand(line)})
		case api.Dec:
			out = append(out,
				api.Fraction{Up: come(in.To), Low: stand(line) * primes[in.A]},
				api.Fraction{Up: come(in.Else), Low: stand(line)})
		}
	}
	for line := range code {
		out = append(out, api.Fraction{Up: stand(line), Low: come(line)})
	}
	return out, nil
}

// Play plays fractions on a number.
func Play(l []api.Fraction, n int, fuel int) (int, int, error) {
	if err := checkPlay(l, n, fuel); err != nil {
		return 0, 0, err
	}
	g := game{list: l, n: n}
	often, err := goOn(fuel, g.step)
	if err != nil {
		return 0, 0, err
	}
	return g.n, often, nil
}

// stand is the prime of a line that is to be gone.
func stand(line int) int {
	return primes[allCounters+2*line]
}

// come is the prime of a line that is come to. With one prime alone, a line that leads to itself would have it above and below, and would fit every number.
func come(line int) int {
	return primes[allCounters+2*line+1]
}

func checkPlay(l []api.Fraction, n int, fuel int) error {
	for _, f := range l {
		if f.Up < 1 || f.Low < 1 {
			return api.ErrRange
		}
	}
	if n < 1 {
		return api.ErrRange
	}
	return checkFuel(fuel)
}

// game is a list that is played on a number.
type game struct {
	list []api.Fraction
	n    int
}

func (g *game) step() error {
	for _, f := range g.list {
		if !fits(g.n, f) {
			continue
		}
		n, err := times(g.n, f)
		if err != nil {
			return err
		}
		g.n = n
		return nil
	}
	return errEnded
}

// fits tells whether n times a fraction is whole. The product may have up to 126 bits.
func fits(n int, f api.Fraction) bool {
	high, low := bits.Mul64(uint64(n), uint64(f.Up))
	return bits.Rem64(high, low, uint64(f.Low)) == 0
}

func times(n int, f api.Fraction) (int, error) {
	high, low := bits.Mul64(uint64(n), uint64(f.Up))
	if high >= uint64(f.Low) { // what is above 64 bits Div64 does not take
		return 0, api.ErrFull
	}
	whole, _ := bits.Div64(high, low, uint64(f.Low))
	if whole > greatest {
		return 0, api.ErrFull
	}
	return int(whole), nil
}
