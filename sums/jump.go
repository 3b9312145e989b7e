package sums

// jumped goes n steps of a sum. Let p be the prime that divides States, which is p or its square. The sum taken p times is, but for multiples of p, the sum with its cells p times as far apart; so the sum taken States times is the one with its cells p times as far apart, taken States / p times. What is left of n is 1 part in p each time.
func jumped(numbers []int, states int, word []int, n int) []int {
	ring := append([]int(nil), word...)
	prime := primeOf(states)
	step := stepper(numbers, states, len(ring))
	for apart := 1; n > 0 && len(ring) > 0; apart = apart * prime % len(ring) {
		rest := n % states
		for range rest {
			step(ring, apart)
		}
		n = (n - rest) / prime
	}
	return ring
}

// primeOf gives the one prime that divides a number of states, of which 4 alone is none itself.
func primeOf(states int) int {
	if states%2 == 0 {
		return 2
	}
	return states
}

// stepper makes of the numbers of a sum a function that steps rings of so many cells where they lie, the cells of a window standing apart as far as it is told.
func stepper(numbers []int, states, cells int) func(ring []int, apart int) {
	sums := make([]int, cells)
	return func(ring []int, apart int) {
		clear(sums)
		for i, number := range numbers {
			if number != 0 {
				addTurned(sums, ring, (i-len(numbers)/2)*apart, number)
			}
		}
		for i, sum := range sums {
			ring[i] = sum % states
		}
	}
}

// addTurned adds to each sum the cell that stands by places to its right, number times.
func addTurned(sums, ring []int, by, number int) {
	cells := len(ring)
	at := (by%cells + cells) % cells
	for i := range sums {
		sums[i] += number * ring[at]
		at++
		if at == cells {
			at = 0
		}
	}
}
