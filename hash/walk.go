package hash

// walker goes a few steps, of eights one by one, and remembers none of them: slower than a leap where things are alike, but in no more room than what lives takes.
type walker struct {
	from, to *stock
	table    *table
	pace     pace
	most     int
}

// walk gives the field behind 2 to the power of k steps; false, if more squares than that would live on the way.
func walk(f field, t *table, k, most int) (field, bool) {
	p := paceOf(k)
	for range 1 << k / (p.first + p.second) {
		f = f.padded()
		w := walker{from: f.stock, to: newStock(), table: t, pace: p, most: most}
		f.root = w.ahead([9]int32{4: f.root}, f.level)
		if w.isFull() {
			return field{}, false
		}
		f.stock = w.to
		f = f.trimmed()
	}
	return f, true
}

// isFull tells whether there are too many squares. What is told from then on has no meaning, and comes at once.
func (w *walker) isFull() bool {
	return len(w.to.squares) > w.most
}

// ahead gives what becomes of the square in the middle of nine.
func (w *walker) ahead(nine [9]int32, level int) int32 {
	if nine == ([9]int32{}) || w.isFull() {
		return 0
	}
	if level == eightLevel {
		return w.to.eight(w.table.sixteen(w.around(nine), w.pace))
	}
	var parts [4]int32
	for i := range parts {
		parts[i] = w.ahead(w.nearer(nine, 1+i%2, 1+i/2), level-1)
	}
	return w.to.join(parts[:]...)
}

// nearer gives nine of the six by six squares that nine are made of, from column x and row y on.
func (w *walker) nearer(nine [9]int32, x, y int) [9]int32 {
	var out [9]int32
	for i := range out {
		column, row := x+i%3, y+i/3
		whole := w.from.squares[nine[row/2*3+column/2]]
		out[i] = whole.parts[row%2*2+column%2]
	}
	return out
}

// around gives the sixteen by sixteen cells, as four eights, in the middle of nine eights.
func (w *walker) around(nine [9]int32) [4]uint64 {
	var cells [9]uint64
	for i, at := range nine {
		cells[i] = w.from.squares[at].cells
	}
	return [4]uint64{
		between(cells[0], cells[1], cells[3], cells[4]),
		between(cells[1], cells[2], cells[4], cells[5]),
		between(cells[3], cells[4], cells[6], cells[7]),
		between(cells[4], cells[5], cells[7], cells[8]),
	}
}
