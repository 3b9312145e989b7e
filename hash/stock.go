package hash

import (
	"math"
	"math/bits"

	"eden/api"
)

// eightLevel is the level of the least squares: one of a level is 2 to its power wide.
const eightLevel = 3

// square is four others half as wide, by their numbers: left upper, right upper, left lower, right lower. Or it is an eight, which has a bit for each of its eight by eight cells, row by row, the left upper one's being the lowest.
type square struct {
	parts  [4]int32
	cells  uint64
	living int
}

// stock has squares by their numbers. Number 0 is the square in which nothing lives, however wide it is. A stock that knows its squares has none of them twice.
type stock struct {
	squares []square
	eights  map[uint64]int32
	wholes  map[[4]int32]int32
}

func newStock() *stock {
	return &stock{squares: make([]square, 1)}
}

func newKnowingStock() *stock {
	s := newStock()
	s.eights = map[uint64]int32{}
	s.wholes = map[[4]int32]int32{}
	return s
}

func (s *stock) add(q square) int32 {
	s.squares = append(s.squares, q)
	return int32(len(s.squares) - 1)
}

// eight gives the square of eight by eight with these cells.
func (s *stock) eight(cells uint64) int32 {
	if cells == 0 {
		return 0
	}
	if at, ok := s.eights[cells]; ok {
		return at
	}
	at := s.add(square{cells: cells, living: bits.OnesCount64(cells)})
	if s.eights != nil {
		s.eights[cells] = at
	}
	return at
}

// join gives the square of four parts.
func (s *stock) join(parts ...int32) int32 {
	four := [4]int32(parts)
	if four == ([4]int32{}) {
		return 0
	}
	if at, ok := s.wholes[four]; ok {
		return at
	}
	whole := square{parts: four}
	for _, part := range four {
		whole.living = sum(whole.living, s.squares[part].living)
	}
	at := s.add(whole)
	if s.wholes != nil {
		s.wholes[four] = at
	}
	return at
}

// sum of two counts, or the greatest number, where a plane has more cells that live than numbers can tell.
func sum(a, b int) int {
	if a > math.MaxInt-b {
		return math.MaxInt
	}
	return a + b
}

// grid gives the parts of a square's parts, row by row.
func (s *stock) grid(at int32) [16]int32 {
	var out [16]int32
	for i, part := range s.squares[at].parts {
		corner := i/2*8 + i%2*2
		inner := s.squares[part].parts
		out[corner], out[corner+1] = inner[0], inner[1]
		out[corner+4], out[corner+5] = inner[2], inner[3]
	}
	return out
}

// sixteen gives the cells of the four eights that a square is made of.
func (s *stock) sixteen(at int32) [4]uint64 {
	var out [4]uint64
	for i, part := range s.squares[at].parts {
		out[i] = s.squares[part].cells
	}
	return out
}

// middle gives what stands half as wide in the middle of a square.
func (s *stock) middle(at int32, level int) int32 {
	if level == eightLevel+1 {
		four := s.sixteen(at)
		return s.eight(between(four[0], four[1], four[2], four[3]))
	}
	grid := s.grid(at)
	return s.join(grid[5], grid[6], grid[9], grid[10])
}

// show writes what lives in a square into a window, from whose left upper cell the square's is x and y away.
func (s *stock) show(at int32, level, x, y int, window api.Pattern) {
	if at == 0 || isApart(level, x, y, window) {
		return
	}
	if level > eightLevel {
		half := 1 << (level - 1)
		for i, part := range s.squares[at].parts {
			s.show(part, level-1, x+i%2*half, y+i/2*half, window)
		}
		return
	}
	for left := s.squares[at].cells; left != 0; left &= left - 1 {
		bit := bits.TrailingZeros64(left)
		if i, ok := within(x+bit%8, y+bit/8, window); ok {
			window.Cells[i] = 1
		}
	}
}

// lay gives what becomes of a square, over which a pattern is laid, from whose left upper cell the square's is x and y away.
func (s *stock) lay(at int32, level, x, y int, p api.Pattern) int32 {
	if isApart(level, x, y, p) {
		return at
	}
	if level > eightLevel {
		half := 1 << (level - 1)
		parts := s.squares[at].parts
		for i, part := range parts {
			parts[i] = s.lay(part, level-1, x+i%2*half, y+i/2*half, p)
		}
		return s.join(parts[:]...)
	}
	cells := s.squares[at].cells
	for bit := range 64 {
		if i, ok := within(x+bit%8, y+bit/8, p); ok {
			cells = cells&^(1<<bit) | uint64(p.Cells[i])<<bit
		}
	}
	return s.eight(cells)
}

// isApart tells whether no cell of a square is one of a pattern's.
func isApart(level, x, y int, p api.Pattern) bool {
	wide := 1 << level
	return x >= p.Wide || y >= p.High || x+wide <= 0 || y+wide <= 0
}

// within tells which of a pattern's cells stands there, if one does.
func within(x, y int, p api.Pattern) (int, bool) {
	return y*p.Wide + x, x >= 0 && x < p.Wide && y >= 0 && y < p.High
}
