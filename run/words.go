package run

import (
	"strings"

	"eden/api"
)

// mostDigits is how many digits a number has at most.
const mostDigits = 9

// words of a line that are not read yet. Each call takes what it needs from the left, and fails if it is not there.
type words struct {
	left []string
}

// fail ends the reading of a line.
func fail() {
	panic("bad")
}

func (in *words) next() string {
	if len(in.left) == 0 {
		fail()
	}
	out := in.left[0]
	in.left = in.left[1:]
	return out
}

// end fails if a word is left.
func (in *words) end() {
	if len(in.left) > 0 {
		fail()
	}
}

func (in *words) rest() []string {
	out := in.left
	in.left = nil
	return out
}

func (in *words) cells() []int {
	return readDigits(in.next(), '3')
}

func (in *words) number() int {
	return readNumber(in.next())
}

func (in *words) numbers() []int {
	return readNumbers(in.next(), readNumber)
}

// signed takes numbers that may be below 0.
func (in *words) signed() []int {
	return readNumbers(in.next(), readSigned)
}

func (in *words) pattern() api.Pattern {
	rows := strings.Split(in.next(), "/")
	p := api.Pattern{Wide: len(rows[0]), High: len(rows)}
	for _, row := range rows {
		if len(row) != p.Wide {
			fail()
		}
		p.Cells = append(p.Cells, readDigits(row, '1')...)
	}
	return p
}

func (in *words) graph() api.Graph {
	g := api.Graph{Places: in.number()}
	for _, text := range in.rest() {
		g.Edges = append(g.Edges, readEdge(text))
	}
	return g
}

// readEdge needs not ask whether `-` and `:` are there: what is missing behind them is no number.
func readEdge(text string) api.Edge {
	a, behind, _ := strings.Cut(text, "-")
	b, times, _ := strings.Cut(behind, ":")
	return api.Edge{A: readNumber(a), B: readNumber(b), Times: readNumber(times)}
}

func readNumbers(text string, read func(string) int) []int {
	var out []int
	for _, piece := range strings.Split(text, ",") {
		out = append(out, read(piece))
	}
	return out
}

// readSigned takes no `-0`: a `-` stands ahead of what is below 0 alone.
func readSigned(text string) int {
	behind, below := strings.CutPrefix(text, "-")
	if !below {
		return readNumber(text)
	}
	n := readNumber(behind)
	if n == 0 {
		fail()
	}
	return -n
}

func readNumber(text string) int {
	if len(text) > mostDigits || len(text) > 1 && text[0] == '0' {
		fail()
	}
	n := 0
	for _, digit := range readDigits(text, '9') {
		n = 10*n + digit
	}
	return n
}

// readDigits takes digits up to most, at least one.
func readDigits(text string, most byte) []int {
	if text == "" {
		fail()
	}
	out := make([]int, len(text))
	for i := range out {
		if text[i] < '0' || text[i] > most {
			fail()
		}
		out[i] = int(text[i] - '0')
	}
	return out
}
