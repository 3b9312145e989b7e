package pattern

import "eden/api"

// mostDigits a number in a text of runs has.
const mostDigits = 6

// ParseRuns reads a pattern.
func ParseRuns(text string) (api.Pattern, int, error) {
	in := reader{text: text}
	if len(text) > api.MaxText {
		in.fail(0, api.ErrFull)
		goto wrong
	}
	if !in.header() {
		goto wrong
	}

run:
	in.skip()
	if !in.count() {
		goto wrong
	}
	switch in.next() {
	case 'b':
		if in.cells(0) {
			goto run
		}
	case 'o':
		if in.cells(1) {
			goto run
		}
	case '$':
		if in.rows() {
			goto run
		}
	case '!':
		if in.end() {
			goto rest
		}
	default:
		in.fail(in.at, api.ErrSyntax)
	}
	goto wrong

rest:
	in.skip()
	if in.at == len(text) {
		return in.pattern, 0, nil
	}
	in.fail(in.at, api.ErrSyntax)

wrong:
	return api.Pattern{}, in.at, in.fault
}

// reader goes through a text of runs from the left. What reads a part of it tells by a false that a fault was found.
type reader struct {
	text  string
	at    int
	fault api.Errno

	pattern     api.Pattern
	right, down int // where the next cell stands
	begin       int // where the run's number begins, or its tag, if it has none
	times       int // how often the tag stands there
}

// fail keeps what is wrong, and where.
func (in *reader) fail(at int, fault api.Errno) bool {
	in.at, in.fault = at, fault
	return false
}

// next is the byte that comes next; at the end a 0, which can stand nowhere.
func (in *reader) next() byte {
	if in.at == len(in.text) {
		return 0
	}
	return in.text[in.at]
}

func (in *reader) skip() {
	for in.next() == ' ' || in.next() == '\n' {
		in.at++
	}
}

func (in *reader) expect(words string) bool {
	for i := range len(words) {
		if in.next() != words[i] {
			return in.fail(in.at, api.ErrSyntax)
		}
		in.at++
	}
	return true
}

func (in *reader) header() bool {
	wide, ok := in.side("x = ")
	if !ok {
		return false
	}
	high, ok := in.side(", y = ")
	if !ok || !in.expect("\n") {
		return false
	}
	in.pattern = blank(wide, high)
	return true
}

// side reads the words ahead of a side, and the side.
func (in *reader) side(words string) (int, bool) {
	if !in.expect(words) {
		return 0, false
	}
	begin := in.at
	side, ok := in.number()
	if ok && !isSide(side) {
		ok = in.fail(begin, api.ErrRange)
	}
	return side, ok
}

func (in *reader) isDigit() bool {
	return '0' <= in.next() && in.next() <= '9'
}

// number reads all digits that stand there; whatever is wrong with them is told where they begin.
func (in *reader) number() (int, bool) {
	begin := in.at
	number := 0
	for in.isDigit() {
		needless := in.at > begin && in.text[begin] == '0'
		if needless || in.at-begin == mostDigits {
			return 0, in.fail(begin, api.ErrSyntax)
		}
		number = 10*number + int(in.next()-'0')
		in.at++
	}
	if in.at == begin {
		return 0, in.fail(begin, api.ErrSyntax)
	}
	return number, true
}

// count reads the number ahead of a tag, if there is one.
func (in *reader) count() bool {
	in.begin, in.times = in.at, 1
	if !in.isDigit() {
		return true
	}
	times, ok := in.number()
	if ok && times < 2 {
		ok = in.fail(in.begin, api.ErrSyntax)
	}
	in.times = times
	return ok
}

// cells goes on by a run of like cells. Rows are counted by `$` alone, so a row behind the last one is reached only where there is none at all.
func (in *reader) cells(cell int) bool {
	if in.down == in.pattern.High || in.right+in.times > in.pattern.Wide {
		return in.fail(in.begin, api.ErrRange)
	}
	for range in.times {
		in.pattern.Cells[in.down*in.pattern.Wide+in.right] = cell
		in.right++
	}
	in.at++
	return true
}

// rows goes on by a run of rows' ends, behind each of which there is another row.
func (in *reader) rows() bool {
	if in.down+in.times >= in.pattern.High {
		return in.fail(in.begin, api.ErrRange)
	}
	in.right = 0
	in.down += in.times
	in.at++
	return true
}

// end goes behind the `!`, ahead of which no number may stand.
func (in *reader) end() bool {
	if in.at != in.begin {
		return in.fail(in.at, api.ErrSyntax)
	}
	in.at++
	return true
}
