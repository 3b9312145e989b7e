// Package rules says what becomes of cells: rules as texts, checked and mirrored.
package rules

import (
	"strconv"

	"eden/api"
)

// mostBits has a bit for each count from 0 to 8 of a cell's neighbours.
const mostBits = 1<<9 - 1

// Check tells what is wrong with a rule.
func Check(r api.Rule) error {
	if !isRule(r) {
		return api.ErrRange
	}
	return nil
}

// Print writes a rule.
func Print(r api.Rule) (string, error) {
	if err := Check(r); err != nil {
		return "", err
	}
	if r.Radius > api.MaxRadius {
		return "", api.ErrFull
	}
	switch r.Kind {
	case api.Life:
		return "B" + digitsOf(r.Born) + "/S" + digitsOf(r.Stay), nil
	case api.Line:
		return printLine(r), nil
	}
	return "T " + r.Turns, nil
}

// Mirror exchanges left and right.
func Mirror(r api.Rule) (api.Rule, error) {
	if err := Check(r); err != nil {
		return api.Rule{}, err
	}
	// An empty Table may still have memory behind it, so no kind hands r itself on.
	switch r.Kind {
	case api.Life:
		return api.Rule{Kind: api.Life, Born: r.Born, Stay: r.Stay}, nil
	case api.Line:
		return api.Rule{Kind: api.Line, States: r.States, Radius: r.Radius, Table: mirrorTable(r)}, nil
	}
	return api.Rule{Kind: api.Ant, Turns: mirrorTurns(r.Turns)}, nil
}

func isRule(r api.Rule) bool {
	switch r.Kind {
	case api.Life:
		return isBits(r.Born) && isBits(r.Stay) && hasNoLine(r) && r.Turns == ""
	case api.Line:
		return isLine(r) && hasNoLife(r) && r.Turns == ""
	case api.Ant:
		return isTurns(r.Turns) && hasNoLife(r) && hasNoLine(r)
	}
	return false
}

func hasNoLife(r api.Rule) bool {
	return r.Born == 0 && r.Stay == 0
}

func hasNoLine(r api.Rule) bool {
	return r.States == 0 && r.Radius == 0 && len(r.Table) == 0
}

func isBits(bits int) bool {
	return bits >= 0 && bits <= mostBits
}

func isLine(r api.Rule) bool {
	if r.States < 2 || r.States > api.MaxStates || r.Radius < 0 {
		return false
	}
	entries := entriesOf(r.States, r.Radius)
	if entries > api.MaxTable || len(r.Table) != entries {
		return false
	}
	for _, state := range r.Table {
		if state < 0 || state >= r.States {
			return false
		}
	}
	return true
}

func isTurns(turns string) bool {
	if len(turns) < 1 || len(turns) > api.MaxTurns {
		return false
	}
	for i := 0; i < len(turns); i++ {
		if !isTurn(turns[i]) {
			return false
		}
	}
	return true
}

func isTurn(turn byte) bool {
	return turn == 'L' || turn == 'R'
}

// entriesOf counts the windows of a line's rule, of at least 2 states. It stops above MaxTable, since a great radius would overflow.
func entriesOf(states, radius int) int {
	entries := states
	for i := 0; i < radius && entries <= api.MaxTable; i++ {
		entries *= states * states
	}
	return entries
}

func digitsOf(bits int) string {
	var out []byte
	for n := 0; n <= 8; n++ {
		if bits>>n&1 == 1 {
			out = append(out, byte('0'+n))
		}
	}
	return string(out)
}

func printLine(r api.Rule) string {
	if r.States == 2 && r.Radius == 1 {
		return "W" + strconv.Itoa(numberOf(r.Table))
	}
	return "L " + strconv.Itoa(r.States) + " " + strconv.Itoa(r.Radius) + " " + statesOf(r.Table)
}

func numberOf(table []int) int {
	sum := 0
	for i, state := range table {
		sum += state << i
	}
	return sum
}

func statesOf(table []int) string {
	out := make([]byte, len(table))
	for i, state := range table {
		out[i] = byte('0' + state)
	}
	return string(out)
}

func mirrorTable(r api.Rule) []int {
	out := make([]int, len(r.Table))
	for window, state := range r.Table {
		out[mirrorWindow(window, r.States, 2*r.Radius+1)] = state
	}
	return out
}

func mirrorWindow(window, states, cells int) int {
	out := 0
	for i := 0; i < cells; i++ {
		out = out*states + window%states
		window /= states
	}
	return out
}

func mirrorTurns(turns string) string {
	out := make([]byte, len(turns))
	for i := 0; i < len(turns); i++ {
		out[i] = 'L'
		if turns[i] == 'L' {
			out[i] = 'R'
		}
	}
	return string(out)
}
