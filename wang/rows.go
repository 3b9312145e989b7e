package wang

import (
	"math/bits"

	"eden/api"
)

// side is what a row shows to the one above it, or to the one below it: a colour a cell.
type side [api.MaxTiling]uint8

// look is what others have to look at of a row that is filled.
type look struct{ up, down side }

// step leads from an upper side of a row to one of the next row, both by their numbers.
type step struct{ from, to int }

// ends tells for each column, and each colour to its left, in how many ways a row can be filled from there on.
type ends [api.MaxTiling + 1][colours]int

// open tells whether all cells can be filled. Of all rows, each filled alone, those are looked for that go on in one another, the last in the first.
func (b *board) open() bool {
	// Columns go as well, and often there are far fewer of them, or of rows.
	if turned := b.turned(); turned.ways() < b.ways() {
		b = &turned
	}
	looks := make([][]look, b.high)
	numbers := make([]map[side]int, b.high)
	sides := make([]int, b.high)
	for row := range b.high {
		looks[row] = b.looks(row)
		numbers[row] = number(looks[row])
		sides[row] = len(numbers[row])
	}
	steps := make([][]step, b.high)
	for row := range b.high {
		steps[row] = lead(looks[row], numbers[row], numbers[(row+1)%b.high])
	}
	return closes(steps, sides)
}

// ways counts in how many ways the rows can be filled, each alone.
func (b *board) ways() int {
	out := 0
	for row := range b.high {
		for colour := range colours {
			out += b.ends(row, colour)[0][colour]
		}
	}
	return out
}

// ends are those of a row with that colour at its right end.
func (b *board) ends(row, colour int) ends {
	var out ends
	out[b.wide][colour] = 1
	for column := b.wide - 1; column >= 0; column-- {
		for rest := b.may[row][column]; rest != 0; rest &= rest - 1 {
			t := b.in(row, column, bits.TrailingZeros(rest))
			out[column][t.Left] += out[column+1][t.Right]
		}
	}
	return out
}

// looks are those of a row, in all ways in which it can be filled.
func (b *board) looks(row int) []look {
	var out []look
	for colour := range colours {
		e := b.ends(row, colour)
		out = b.extend(row, 0, colour, look{}, &e, out)
	}
	return out
}

// extend fills a row from a column on, with that colour to its left.
func (b *board) extend(row, column, left int, l look, e *ends, out []look) []look {
	if e[column][left] == 0 {
		return out
	}
	if column == b.wide {
		return append(out, l)
	}
	for rest := b.may[row][column]; rest != 0; rest &= rest - 1 {
		t := b.in(row, column, bits.TrailingZeros(rest))
		if t.Left == left {
			l.up[column], l.down[column] = uint8(t.Up), uint8(t.Down)
			out = b.extend(row, column+1, t.Right, l, e, out)
		}
	}
	return out
}

// number gives each upper side a number, from 0 on.
func number(looks []look) map[side]int {
	out := map[side]int{}
	for _, l := range looks {
		if _, known := out[l.up]; !known {
			out[l.up] = len(out)
		}
	}
	return out
}

// lead takes the steps of a row. Where the next row's map does not know a side, nothing fits below it.
func lead(looks []look, here, next map[side]int) []step {
	var out []step
	for _, l := range looks {
		if to, known := next[l.down]; known {
			out = append(out, step{here[l.up], to})
		}
	}
	return out
}

// closes tells whether steps lead from some side of the first row through all rows to itself. 64 of these sides are followed at a time, by a bit each.
func closes(steps [][]step, sides []int) bool {
	for from := 0; from < sides[0]; from += 64 {
		to := min(from+64, sides[0])
		now := make([]uint64, sides[0])
		for i := from; i < to; i++ {
			now[i] = 1 << (i - from)
		}
		for row := range steps {
			now = follow(steps[row], now, sides[(row+1)%len(sides)])
		}
		for i := from; i < to; i++ {
			if now[i]>>(i-from)&1 == 1 {
				return true
			}
		}
	}
	return false
}

// follow brings the bits at a row's sides to those of the next row, which has so many.
func follow(steps []step, now []uint64, sides int) []uint64 {
	out := make([]uint64, sides)
	for _, s := range steps {
		out[s.to] |= now[s.from]
	}
	return out
}
