package plane

import (
	"math/bits"

	"eden/api"
)

// search for a parent, row by row. A row is a number, its left cell being the highest bit, so that a lesser number is an earlier row.
type search struct {
	rule       api.Rule
	wide, high int   // of the parent
	wanted     []int // the pattern's rows
	rows       []int // the parent's, as far as they are chosen
	nowhere    map[ends]struct{}
}

// ends: two last rows of so many; what can follow hangs on nothing else.
type ends struct{ rows, above, here int }

func newSearch(r api.Rule, p api.Pattern) *search {
	s := &search{rule: r, wide: p.Wide + 2, high: p.High + 2, nowhere: map[ends]struct{}{}}
	for y := range p.High {
		number := 0
		for _, cell := range p.Cells[y*p.Wide : (y+1)*p.Wide] {
			number = number<<1 | cell
		}
		s.wanted = append(s.wanted, number)
	}
	return s
}

// fill chooses the rows that are missing, the first ones that do; false: none do.
func (s *search) fill() bool {
	if len(s.rows) == s.high {
		return true
	}
	last := s.ends()
	if _, known := s.nowhere[last]; known {
		return false
	}
	for next := range 1 << s.wide {
		if last.rows >= 2 && !s.makes(last.above, last.here, next, s.wanted[last.rows-2]) {
			continue
		}
		s.rows = append(s.rows, next)
		if s.fill() {
			return true
		}
		s.rows = s.rows[:last.rows]
	}
	s.nowhere[last] = struct{}{}
	return false
}

// ends tells where the search stands; a row that is not there yet counts as 0.
func (s *search) ends() ends {
	out := ends{rows: len(s.rows)}
	if out.rows >= 1 {
		out.here = s.rows[out.rows-1]
	}
	if out.rows >= 2 {
		out.above = s.rows[out.rows-2]
	}
	return out
}

// makes tells whether three rows make that one in their middle.
func (s *search) makes(above, here, below, wanted int) bool {
	for x := range s.wide - 2 {
		cell := here >> (x + 1) & 1
		count := three(above, x) + three(here, x) + three(below, x) - cell
		if becomes(s.rule, cell, count) != wanted>>x&1 {
			return false
		}
	}
	return true
}

// three counts those that live of three cells beside each other.
func three(cells, x int) int {
	return bits.OnesCount(uint(cells >> x & 7))
}

func (s *search) parent() api.Pattern {
	out := api.Pattern{Wide: s.wide, High: s.high}
	for _, number := range s.rows {
		for x := s.wide - 1; x >= 0; x-- {
			out.Cells = append(out.Cells, number>>x&1)
		}
	}
	return out
}
