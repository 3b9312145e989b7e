package plane

import (
	"math/bits"

	"eden/api"
)

// room is how many rows, and columns, may live behind a step from what is not too great: one more on each side.
const room = api.MaxSide + 2

// row has a bit for each of its cells, the left one's being the lowest of its first word.
type row [2]uint64

// sheet has rows from above. As what lives stands in its left upper corner, two of them are the same just where the same lives.
type sheet [room]row

// corner of a box: a column and a row.
type corner [2]int

// grown is what lives in a plane: the least box that has all of it, and how far right and down in the plane that box is.
type grown struct {
	cells       sheet
	wide, high  int
	right, down int
}

// settle lays a pattern into the plane.
func settle(p api.Pattern) grown {
	var cells sheet
	for i, cell := range p.Cells {
		x, y := i%p.Wide, i/p.Wide
		cells[y][x/64] |= uint64(cell) << (x % 64)
	}
	return boxed(cells, 0, 0)
}

// boxed gives what lives on a sheet, whose left upper cell stands at right and down.
func boxed(cells sheet, right, down int) grown {
	from, to := cells.living()
	if from == to {
		return grown{}
	}
	out := grown{wide: to[0] - from[0], high: to[1] - from[1], right: right + from[0], down: down + from[1]}
	for y := range out.high {
		out.cells[y] = cells[from[1]+y].left(uint(from[0]))
	}
	return out
}

// step gives what lives one step later. The box may grow by one on each side, so that the sheet that comes begins one column and one row ahead of this one.
func (g grown) step(r api.Rule) grown {
	var next sheet
	var above, here, below row
	for y := range g.high + 2 {
		above, here, below = here, below, row{}
		if y < g.high {
			below = g.cells[y].right()
		}
		next[y] = become(r, above, here, below)
	}
	return boxed(next, g.right-1, g.down-1)
}

func (g grown) tooGreat() bool {
	return g.wide > api.MaxSide || g.high > api.MaxSide
}

func (g grown) pattern() api.Pattern {
	out := api.Pattern{Wide: g.wide, High: g.high, Cells: make([]int, g.wide*g.high)}
	for i := range out.Cells {
		x, y := i%g.wide, i/g.wide
		out.Cells[i] = int(g.cells[y][x/64] >> (x % 64) & 1)
	}
	return out
}

// living gives the corners between which all that lives is: of the first column and row that have some of it, and behind the last ones. They are the same just where nothing lives.
func (s *sheet) living() (from, to corner) {
	var all row
	for y, cells := range s {
		if cells == (row{}) {
			continue
		}
		if all == (row{}) {
			from[1] = y
		}
		to[1] = y + 1
		all[0] |= cells[0]
		all[1] |= cells[1]
	}
	from[0], to[0] = all.ends()
	return from, to
}

// ends gives the column of the first cell that lives, and the one behind the last; 0 and 0, if none does.
func (w row) ends() (first, behind int) {
	if w == (row{}) {
		return 0, 0
	}
	first, behind = bits.TrailingZeros64(w[0]), bits.Len64(w[0])
	if w[0] == 0 {
		first = 64 + bits.TrailingZeros64(w[1])
	}
	if w[1] != 0 {
		behind = 64 + bits.Len64(w[1])
	}
	return first, behind
}

// left moves a row's cells by as many columns to the left. (A shift by a number that wrapped round leaves nothing, so that of the two shifts between the words one counts.)
func (w row) left(by uint) row {
	return row{w[0]>>by | w[1]<<(64-by) | w[1]>>(by-64), w[1] >> by}
}

// right moves a row's cells by one column to the right.
func (w row) right() row {
	return row{w[0] << 1, w[1]<<1 | w[0]>>63}
}

// become tells what becomes of a row between two others: of all its cells at once, as each bit of a word is a sum of its own.
func become(r api.Rule, above, here, below row) row {
	var out row
	aboveLeft, hereLeft, belowLeft := above.right(), here.right(), below.right()
	aboveRight, hereRight, belowRight := above.left(1), here.left(1), below.left(1)
	for i := range out {
		ones, upperTwos := add(aboveLeft[i], above[i], aboveRight[i])
		moreOnes, lowerTwos := add(belowLeft[i], below[i], belowRight[i])
		besideOnes, besideTwos := add(hereLeft[i], hereRight[i], 0)
		one, carriedTwos := add(ones, moreOnes, besideOnes)
		twos, fours := add(upperTwos, lowerTwos, besideTwos)
		two, carriedFours := add(twos, carriedTwos, 0)
		four, eight := add(fours, carriedFours, 0)
		out[i] = chosen(r, here[i], [4]uint64{one, two, four, eight})
	}
	return out
}

// add gives, bit by bit, the sum of three bits and what is carried.
func add(a, b, c uint64) (sum, carry uint64) {
	return a ^ b ^ c, a&b | c&(a^b)
}

// chosen gives the cells that live, the numbers of their neighbours being written in digits.
func chosen(r api.Rule, here uint64, digits [4]uint64) uint64 {
	var out uint64
	for count := range 9 {
		born, stay := r.Born>>count&1, r.Stay>>count&1
		if born|stay == 0 {
			continue
		}
		those := ^uint64(0)
		for i, digit := range digits {
			if count>>i&1 == 1 {
				those &= digit
			} else {
				those &^= digit
			}
		}
		out |= those & (-uint64(born)&^here | -uint64(stay)&here)
	}
	return out
}
