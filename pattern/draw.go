package pattern

import (
	"strings"

	"eden/api"
)

// What a cell is drawn as.
const (
	middleDot   rune = 0x00B7 // 0
	blackCircle rune = 0x25CF // 1
)

// Draw writes a pattern, a rune a cell.
func Draw(p api.Pattern) (string, error) {
	if err := Check(p); err != nil {
		return "", err
	}
	var out strings.Builder
	for y := range p.High {
		for _, cell := range p.Cells[y*p.Wide : (y+1)*p.Wide] {
			out.WriteRune(runeOf(cell))
		}
		out.WriteRune('\n')
	}
	return out.String(), nil
}

// ParseDraw reads it.
func ParseDraw(text string) (api.Pattern, int, error) {
	if len(text) > api.MaxText {
		return api.Pattern{}, 0, api.ErrFull
	}
	var in drawing
	// A byte that begins no rune comes as U+FFFD, which is no cell's.
	for at, r := range text {
		if fault, err := in.take(at, r); err != nil {
			return api.Pattern{}, fault, err
		}
	}
	if in.begin != len(text) {
		return api.Pattern{}, len(text), api.ErrSyntax
	}
	return in.pattern, 0, nil
}

func runeOf(cell int) rune {
	if cell == 0 {
		return middleDot
	}
	return blackCircle
}

// drawing is a pattern as far as its text was read.
type drawing struct {
	pattern api.Pattern // the rows that have ended, and the cells of the one that has not
	begin   int         // where that row begins
	runes   int         // how many it has
}

// take goes on by the rune at a place, or tells what is wrong, and where.
func (in *drawing) take(at int, r rune) (int, error) {
	if r != middleDot && r != blackCircle && r != '\n' {
		return at, api.ErrSyntax
	}
	// Behind as many rows as may be, whatever comes begins one more.
	if in.pattern.High == api.MaxSide {
		return at, api.ErrRange
	}
	if r == '\n' {
		return in.endRow(at)
	}
	if in.runes == api.MaxSide {
		return at, api.ErrRange
	}
	in.runes++
	in.pattern.Cells = append(in.pattern.Cells, cellOf(r))
	return 0, nil
}

func (in *drawing) endRow(at int) (int, error) {
	if in.pattern.High == 0 {
		in.pattern.Wide = in.runes
	}
	if in.runes != in.pattern.Wide {
		return in.begin, api.ErrShape
	}
	in.pattern.High++
	in.begin, in.runes = at+1, 0
	return 0, nil
}

func cellOf(r rune) int {
	if r == middleDot {
		return 0
	}
	return 1
}
