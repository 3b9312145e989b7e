package line

import "eden/api"

// Compose makes one rule of two.
func Compose(a, b api.Rule) (api.Rule, error) {
	if err := checkRule(a); err != nil {
		return api.Rule{}, err
	}
	if err := checkRule(b); err != nil {
		return api.Rule{}, err
	}
	if a.States != b.States {
		return api.Rule{}, api.ErrShape
	}
	return made(a.States, a.Radius+b.Radius, func(window []int) int {
		return applied(b, applied(a, window))[0]
	})
}

// Widen gives a rule another radius.
func Widen(r api.Rule, radius int) (api.Rule, error) {
	if err := checkRule(r); err != nil {
		return api.Rule{}, err
	}
	if radius < r.Radius {
		return api.Rule{}, api.ErrRange
	}
	more := radius - r.Radius
	return made(r.States, radius, func(window []int) int {
		return applied(r, window[more:len(window)-more])[0]
	})
}

// made makes a rule of a function that tells what becomes of the middle cell of a window.
func made(states, radius int, becomes func(window []int) int) (api.Rule, error) {
	entries := states
	for i := 0; i < radius; i++ {
		entries *= states * states
		if entries > api.MaxTable { // asked each time, since a great radius would overflow
			return api.Rule{}, api.ErrFull
		}
	}
	table := make([]int, entries)
	window := make([]int, 2*radius+1)
	for i := range table {
		spell(i, states, window)
		table[i] = becomes(window)
	}
	return api.Rule{Kind: api.Line, States: states, Radius: radius, Table: table}, nil
}

// spell writes a number's digits into a window, the last one at its end.
func spell(number, states int, window []int) {
	for i := len(window) - 1; i >= 0; i-- {
		window[i] = number % states
		number /= states
	}
}
