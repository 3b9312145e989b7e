package rules

import (
	"strings"

	"eden/api"
)

// Parse reads a rule.
func Parse(text string) (out api.Rule, at int, err error) {
	in := reader{text: text}
	defer func() {
		if recover() != nil {
			out, at, err = api.Rule{}, in.at, api.ErrSyntax
		}
	}()
	out = in.rule()
	return out, 0, nil
}

// reader goes through a text from the left. The first fault ends it by a panic that Parse recovers, so that what reads a part need not ask after each byte.
type reader struct {
	text string
	at   int
}

// fail ends the reading, and leaves at where the fault is.
func (in *reader) fail(at int) {
	in.at = at
	panic(api.ErrSyntax)
}

func (in *reader) ended() bool {
	return in.at == len(in.text)
}

// within tells whether a byte from low to high comes next.
func (in *reader) within(low, high byte) bool {
	return !in.ended() && low <= in.text[in.at] && in.text[in.at] <= high
}

// take goes on by a byte that has to be from low to high.
func (in *reader) take(low, high byte) byte {
	if !in.within(low, high) {
		in.fail(in.at)
	}
	in.at++
	return in.text[in.at-1]
}

func (in *reader) expect(b byte) {
	in.take(b, b)
}

func (in *reader) rule() api.Rule {
	r := in.ofKind()
	if !in.ended() {
		in.fail(in.at)
	}
	return r
}

func (in *reader) ofKind() api.Rule {
	switch in.take(0, 255) {
	case 'B':
		return in.life()
	case 'W':
		return in.numbered()
	case 'L':
		return in.tabled()
	case 'T':
		return in.ant()
	}
	in.fail(0)
	return api.Rule{}
}

func (in *reader) life() api.Rule {
	born := in.bits()
	in.expect('/')
	in.expect('S')
	return api.Rule{Kind: api.Life, Born: born, Stay: in.bits()}
}

// bits reads digits as long as they rise: one that does not is left to be found where something else has to stand.
func (in *reader) bits() int {
	bits := 0
	low := byte('0')
	for in.within(low, '8') {
		digit := in.take(low, '8')
		bits |= 1 << (digit - '0')
		low = digit + 1
	}
	return bits
}

func (in *reader) numbered() api.Rule {
	number := in.number(0, 255)
	table := make([]int, entriesOf(2, 1))
	for i := range table {
		table[i] = number >> i & 1
	}
	return api.Rule{Kind: api.Line, States: 2, Radius: 1, Table: table}
}

func (in *reader) tabled() api.Rule {
	in.expect(' ')
	states := in.number(2, api.MaxStates)
	in.expect(' ')
	radius := in.number(0, api.MaxRadius)
	in.expect(' ')
	table := make([]int, entriesOf(states, radius))
	last := byte('0' + states - 1)
	for i := range table {
		table[i] = int(in.take('0', last) - '0')
	}
	return api.Rule{Kind: api.Line, States: states, Radius: radius, Table: table}
}

func (in *reader) ant() api.Rule {
	in.expect(' ')
	begin := in.at
	for !in.ended() && in.at-begin < api.MaxTurns && isTurn(in.text[in.at]) {
		in.at++
	}
	if in.at == begin {
		in.fail(begin)
	}
	// A piece of the text would keep all of it.
	return api.Rule{Kind: api.Ant, Turns: strings.Clone(in.text[begin:in.at])}
}

// number reads all digits that stand there as one number, from least to most; whatever is wrong with it is told where it begins.
func (in *reader) number(least, most int) int {
	begin := in.at
	number := 0
	for in.within('0', '9') {
		digit := int(in.take('0', '9') - '0')
		if number <= most { // once above it stays there, however many digits follow
			number = 10*number + digit
		}
	}
	needless := in.at-begin > 1 && in.text[begin] == '0'
	if in.at == begin || needless || number < least || number > most {
		in.fail(begin)
	}
	return number
}
