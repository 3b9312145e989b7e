package hash

import (
	"math/bits"

	"eden/api"
)

// table tells for each square of four by four (a bit for each cell, row by row) what becomes of the two by two in its middle: bits 0, 1, 8 and 9, as an eight has them.
type table [1 << 16]uint16

const (
	ring        = 0x757              // of four by four: the neighbours of the cell in the second row and column
	leftHalf    = 0x0F0F0F0F0F0F0F0F // of an eight
	rightHalf   = leftHalf << 4
	leftQuarter = 0x0F0F0F0F // of an eight: the left upper four by four
)

func tableOf(r api.Rule) *table {
	out := new(table)
	for cells := range out {
		for i := range 4 {
			x, y := i%2, i/2
			corner := 4*y + x
			neighbours := bits.OnesCount(uint(cells) & (ring << corner))
			becomes := r.Born
			if cells>>(corner+5)&1 == 1 {
				becomes = r.Stay
			}
			out[cells] |= uint16(becomes>>neighbours&1) << (8*y + x)
		}
	}
	return out
}

// step tells what becomes of an eight's squares of two by two that begin at columns and rows one behind those from first to last, every second one.
func (t *table) step(cells uint64, first, last int) uint64 {
	var out uint64
	for y := first; y <= last; y += 2 {
		for x := first; x <= last; x += 2 {
			corner := 8*y + x
			out |= uint64(t[fourAt(cells>>corner)]) << (corner + 9)
		}
	}
	return out
}

// fourAt gives the left upper four by four cells, without what stands beside them.
func fourAt(cells uint64) uint16 {
	cells &= leftQuarter
	cells = (cells | cells>>4) & 0x00FF00FF
	return uint16(cells | cells>>8)
}

// inner gives the four by four cells in the middle of an eight behind 0, 1 or 2 steps.
func (t *table) inner(cells uint64, steps int) uint64 {
	if cells == 0 {
		return 0
	}
	if steps == 2 {
		cells = t.step(cells, 0, 4)
	}
	if steps > 0 {
		cells = t.step(cells, 1, 3)
	}
	return cells >> 18 & leftQuarter
}

// pace is how many steps are gone by eights, and then again, where a square of sixteen by sixteen is looked at.
type pace struct{ first, second int }

func paceOf(k int) pace {
	switch k {
	case 0:
		return pace{1, 0}
	case 1:
		return pace{2, 0}
	}
	return pace{2, 2}
}

// sixteen gives the eight in the middle of four of them behind the pace's steps.
func (t *table) sixteen(eights [4]uint64, p pace) uint64 {
	a, b, c, d := eights[0], eights[1], eights[2], eights[3]
	if a|b|c|d == 0 {
		return 0
	}
	nine := [9]uint64{
		a, beside(a, b), b,
		below(a, c), between(a, b, c, d), below(b, d),
		c, beside(c, d), d,
	}
	for i, cells := range nine {
		nine[i] = t.inner(cells, p.first)
	}
	return fours(
		t.inner(fours(nine[0], nine[1], nine[3], nine[4]), p.second),
		t.inner(fours(nine[1], nine[2], nine[4], nine[5]), p.second),
		t.inner(fours(nine[3], nine[4], nine[6], nine[7]), p.second),
		t.inner(fours(nine[4], nine[5], nine[7], nine[8]), p.second))
}

// fours makes an eight of four squares of four by four.
func fours(a, b, c, d uint64) uint64 {
	return a | b<<4 | c<<32 | d<<36
}

// beside gives the eight in the middle of two beside each other.
func beside(a, b uint64) uint64 {
	return a>>4&leftHalf | b<<4&rightHalf
}

// below gives the eight in the middle of two below each other.
func below(a, b uint64) uint64 {
	return a>>32 | b<<32
}

// between gives the eight in the middle of four.
func between(a, b, c, d uint64) uint64 {
	return below(beside(a, b), beside(c, d))
}
