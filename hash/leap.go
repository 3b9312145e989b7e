package hash

// leaper goes 2 to the power of k steps. It knows what becomes of each square that it has seen: the number of its middle, and 1; or 0, where it has not looked yet.
type leaper struct {
	stock *stock
	table *table
	k     int
	pace  pace
	most  int
	later []int32
}

// leap gives the field behind 2 to the power of k steps; false, if it would have to know more squares than that.
func leap(f field, t *table, k, most int) (field, bool) {
	l := &leaper{stock: newKnowingStock(), table: t, k: k, pace: paceOf(k), most: most}
	// What lives comes no farther than the steps, and is to be in the middle half then.
	level := max(f.level, k+1) + 2
	f = f.moved(l.stock)
	for f.level < level {
		f = f.padded()
	}
	root, quarter := l.ahead(f.root, f.level), 1<<(f.level-2)
	if l.isFull() {
		return field{}, false
	}
	return field{stock: l.stock, root: root, level: f.level - 1, right: f.right + quarter, down: f.down + quarter}, true
}

// isFull tells whether too many squares are known. What is told from then on has no meaning, and comes at once.
func (l *leaper) isFull() bool {
	return len(l.stock.squares) > l.most
}

// ahead gives what will be half as wide in the middle of a square: behind 2 to the power of k steps, or of the level less 2, if that is less.
func (l *leaper) ahead(at int32, level int) int32 {
	if at == 0 || l.isFull() {
		return 0
	}
	for len(l.later) < len(l.stock.squares) {
		l.later = append(l.later, 0)
	}
	if l.later[at] != 0 {
		return l.later[at] - 1
	}
	out := l.look(at, level)
	l.later[at] = out + 1
	return out
}

// look finds what ahead tells: first of nine squares half as wide, then of four that are made of what they become.
func (l *leaper) look(at int32, level int) int32 {
	if level == leastLevel {
		return l.stock.eight(l.table.sixteen(l.stock.sixteen(at), l.pace))
	}
	grid := l.stock.grid(at)
	var nine [9]int32
	for i := range nine {
		corner := i/3*4 + i%3
		part := l.stock.join(grid[corner], grid[corner+1], grid[corner+4], grid[corner+5])
		nine[i] = l.ahead(part, level-1)
	}
	var four [4]int32
	for i := range four {
		corner := i/2*3 + i%2
		part := l.stock.join(nine[corner], nine[corner+1], nine[corner+3], nine[corner+4])
		if level > l.k+2 {
			four[i] = l.stock.middle(part, level-1)
		} else {
			four[i] = l.ahead(part, level-1)
		}
	}
	return l.stock.join(four[:]...)
}
