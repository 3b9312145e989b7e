package hash

import (
	"math/bits"

	"eden/api"
)

// leastLevel is that of the least squares that have parts.
const leastLevel = eightLevel + 1

// field is a plane: all that lives in it is in one square, whose left upper cell stands at right and down.
type field struct {
	stock       *stock
	root        int32
	level       int
	right, down int
}

func emptyField() field {
	return field{stock: newStock(), level: leastLevel}
}

// isTooWide tells whether places could come to be numbers that wrap round.
func (f field) isTooWide() bool {
	const room = 1 << roomLevel
	return f.level > roomLevel || f.right < -room || f.right > room || f.down < -room || f.down > room
}

// padded is the same with twice as wide a square, in whose middle this one is.
func (f field) padded() field {
	s, parts, half := f.stock, f.stock.squares[f.root].parts, 1<<(f.level-1)
	f.root = s.join(
		s.join(0, 0, 0, parts[0]), s.join(0, 0, parts[1], 0),
		s.join(0, parts[2], 0, 0), s.join(parts[3], 0, 0, 0))
	f.level++
	f.right -= half
	f.down -= half
	return f
}

// trimmed is the same with a square no more than some four times as wide as what lives.
func (f field) trimmed() field {
	if f.root == 0 {
		return emptyField()
	}
	for f.level > leastLevel {
		grid := f.stock.grid(f.root)
		x, y, ok := corner(grid)
		if !ok {
			break
		}
		i, quarter := 4*y+x, 1<<(f.level-2)
		f.root = f.stock.join(grid[i], grid[i+1], grid[i+4], grid[i+5])
		f.level--
		f.right += x * quarter
		f.down += y * quarter
	}
	return f
}

// corner tells where, among four by four squares, two by two have all that lives.
func corner(grid [16]int32) (x, y int, ok bool) {
	left, up, right, down := 3, 3, 0, 0
	for i, part := range grid {
		if part != 0 {
			left, right = min(left, i%4), max(right, i%4)
			up, down = min(up, i/4), max(down, i/4)
		}
	}
	return min(left, 2), min(up, 2), right-left < 2 && down-up < 2
}

// laid is the field with a pattern laid over it.
func (f field) laid(p api.Pattern, right, down int) field {
	if f.root == 0 {
		f.right, f.down = right, down
	}
	for !f.has(right, down) || !f.has(right+p.Wide-1, down+p.High-1) {
		f = f.padded()
	}
	f.root = f.stock.lay(f.root, f.level, f.right-right, f.down-down, p)
	return f.trimmed()
}

// has tells whether a cell is in the square.
func (f field) has(right, down int) bool {
	wide := 1 << f.level
	x, y := right-f.right, down-f.down
	return x >= 0 && x < wide && y >= 0 && y < wide
}

// moved is the same field in another stock, in which just the squares come that it is made of.
func (f field) moved(to *stock) field {
	m := mover{from: f.stock, to: to, numbers: make([]int32, len(f.stock.squares))}
	f.stock, f.root = to, m.move(f.root)
	return f
}

// mover takes squares from stock to stock, and knows their new numbers. (It is never 0 but for the empty square.)
type mover struct {
	from, to *stock
	numbers  []int32
}

func (m *mover) move(at int32) int32 {
	if at == 0 || m.numbers[at] != 0 {
		return m.numbers[at]
	}
	q := m.from.squares[at]
	if q.cells != 0 {
		m.numbers[at] = m.to.eight(q.cells)
		return m.numbers[at]
	}
	for i, part := range q.parts {
		q.parts[i] = m.move(part)
	}
	m.numbers[at] = m.to.join(q.parts[:]...)
	return m.numbers[at]
}

// span is a box: from left and up on, to ahead of right and down.
type span struct{ left, up, right, down int }

// box gives the span of what lives, from the left upper cell of the square on. (Something does live.)
func (f field) box() span {
	b := boxes{stock: f.stock, known: make([]span, len(f.stock.squares))}
	return b.of(f.root, f.level)
}

// boxes knows the spans of squares, so that each is asked once.
type boxes struct {
	stock *stock
	known []span
}

func (b *boxes) of(at int32, level int) span {
	if b.known[at] != (span{}) {
		return b.known[at]
	}
	q := b.stock.squares[at]
	if level == eightLevel {
		b.known[at] = spanOfEight(q.cells)
		return b.known[at]
	}
	wide, half := 1<<level, 1<<(level-1)
	out := span{left: wide, up: wide}
	for i, part := range q.parts {
		if part != 0 {
			inner, x, y := b.of(part, level-1), i%2*half, i/2*half
			out.left, out.right = min(out.left, x+inner.left), max(out.right, x+inner.right)
			out.up, out.down = min(out.up, y+inner.up), max(out.down, y+inner.down)
		}
	}
	b.known[at] = out
	return out
}

func spanOfEight(cells uint64) span {
	var columns uint8
	for row := range 8 {
		columns |= uint8(cells >> (8 * row))
	}
	return span{
		left: bits.TrailingZeros8(columns), right: bits.Len8(columns),
		up: bits.TrailingZeros64(cells) / 8, down: (bits.Len64(cells) + 7) / 8,
	}
}
