package counter

import (
	"strconv"
	"strings"

	"eden/api"
)

// longest is how many numbers a line has at most: A, To and Else.
const longest = 3

// mostDigits is how many digits a number in a text has at most.
const mostDigits = 6

// words of the Ops.
var words = [...]string{api.Inc: "inc", api.Dec: "dec", api.Halt: "halt"}

// used is how many of A, To and Else an Op has; the others are 0.
var used = [...]int{api.Inc: 2, api.Dec: 3, api.Halt: 0}

// Print writes a machine.
func Print(code []api.Ins) (string, error) {
	if err := Check(code); err != nil {
		return "", err
	}
	var out strings.Builder
	for _, in := range code {
		out.WriteString(words[in.Op])
		for i, n := range numbersOf(in) {
			if i < used[in.Op] {
				out.WriteString(" " + strconv.Itoa(n))
			}
		}
		out.WriteByte('\n')
	}
	return out.String(), nil
}

// Parse reads a machine.
func Parse(text string) ([]api.Ins, int, error) {
	code, lines, err := readLines(text)
	if err == nil {
		err = Check(code)
	}
	if err != nil {
		return nil, lines, err
	}
	return code, 0, nil
}

// readLines counts the lines up to the first that is none. It keeps one more of them than a machine may have, which is enough for Check to tell that they are too many.
func readLines(text string) ([]api.Ins, int, error) {
	var code []api.Ins
	lines := 0
	for text != "" {
		line, rest, ended := strings.Cut(text, "\n")
		in, err := readLine(line)
		if err != nil {
			return nil, lines, err
		}
		if !ended {
			return nil, lines, api.ErrSyntax
		}
		if len(code) <= api.MaxCode {
			code = append(code, in)
		}
		lines++
		text = rest
	}
	return code, lines, nil
}

func readLine(line string) (api.Ins, error) {
	// One piece more than a line may have: there the rest of it stands, however long it is.
	pieces := strings.SplitN(line, " ", longest+2)
	op := opOf(pieces[0])
	if op == 0 || len(pieces) != 1+used[op] {
		return api.Ins{}, api.ErrSyntax
	}
	var numbers [longest]int
	for i, piece := range pieces[1:] {
		n, err := readNumber(piece)
		if err != nil {
			return api.Ins{}, err
		}
		numbers[i] = n
	}
	return api.Ins{Op: op, A: numbers[0], To: numbers[1], Else: numbers[2]}, nil
}

// opOf gives 0 for what is no word.
func opOf(word string) int {
	for op := api.Inc; op <= api.Halt; op++ {
		if words[op] == word {
			return op
		}
	}
	return 0
}

func readNumber(piece string) (int, error) {
	if piece == "" || len(piece) > mostDigits {
		return 0, api.ErrSyntax
	}
	if piece[0] == '0' && piece != "0" {
		return 0, api.ErrSyntax
	}
	n := 0
	for i := range len(piece) {
		if piece[i] < '0' || piece[i] > '9' {
			return 0, api.ErrSyntax
		}
		n = 10*n + int(piece[i]-'0')
	}
	return n, nil
}

// numbersOf gives the numbers of a line in the order in which they are written.
func numbersOf(in api.Ins) [longest]int {
	return [longest]int{in.A, in.To, in.Else}
}
