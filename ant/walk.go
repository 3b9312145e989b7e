package ant

import (
	"slices"

	"eden/api"
)

// cell of a plane.
type cell struct{ right, down int }

// walk is a walker on a plane. Where it stands and where it faces are complex numbers, to the right and, as the part that is imaginary, up, so that a turn is a product.
type walk struct {
	turns     []complex128 // by colours
	colours   map[cell]int // of the cells that are not 0
	at, ahead complex128
}

// facings are the directions by their numbers.
func facings() [4]complex128 {
	return [4]complex128{1i, 1, -1i, -1}
}

func begin(turns string, spots []api.Spot, w api.Walker) *walk {
	k := &walk{turns: make([]complex128, len(turns)), colours: make(map[cell]int, len(spots))}
	for i := range k.turns {
		k.turns[i] = 1i
		if turns[i] == 'R' {
			k.turns[i] = -1i
		}
	}
	for _, s := range spots {
		k.colours[cell{s.Right, s.Down}] = s.Colour
	}
	k.at, k.ahead = complex(float64(w.Right), float64(-w.Down)), facings()[w.Facing]
	return k
}

// here is the cell on which the walker stands.
func (k *walk) here() cell {
	return cell{int(real(k.at)), -int(imag(k.at))}
}

// paint gives a cell a colour, counted round.
func (k *walk) paint(c cell, colour int) {
	colour = (colour + len(k.turns)) % len(k.turns)
	if colour == 0 {
		delete(k.colours, c)
		return
	}
	k.colours[c] = colour
}

func (k *walk) step() {
	here := k.here()
	colour := k.colours[here]
	k.ahead *= k.turns[colour]
	k.paint(here, colour+1)
	k.at += k.ahead
}

// undo finds the colour that the step had found, which tells how it turned.
func (k *walk) undo() {
	k.at -= k.ahead
	here := k.here()
	k.paint(here, k.colours[here]-1)
	// A turn to one side is undone by one to the other.
	k.ahead *= -k.turns[k.colours[here]]
}

func (k *walk) spots() []api.Spot {
	out := make([]api.Spot, 0, len(k.colours))
	for c, colour := range k.colours {
		out = append(out, api.Spot{Right: c.right, Down: c.down, Colour: colour})
	}
	slices.SortFunc(out, byPlace)
	return out
}

func (k *walk) walker() api.Walker {
	here := k.here()
	w := api.Walker{Right: here.right, Down: here.down}
	for facing, ahead := range facings() {
		if ahead == k.ahead {
			w.Facing = facing
		}
	}
	return w
}
