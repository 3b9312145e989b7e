package counter_test

import (
	"math/rand"
	"regexp"
	"slices"
	"strconv"
	"strings"
	"testing"

	"eden/api"
	"eden/counter"
	"eden/plain"
)

// reads asks that Parse reads a text as a machine.
func reads(t *testing.T, text string, want ...api.Ins) {
	t.Helper()
	code, at, err := counter.Parse(text)
	if err != nil || at != 0 || !slices.Equal(code, want) {
		t.Errorf("Parse(%q): %v, %d, %v, want %v", text, code, at, err, want)
	}
}

// wrong asks that Parse tells an error and a line's number, and answers nothing beside them.
func wrong(t *testing.T, text string, want api.Errno, line int) {
	t.Helper()
	code, at, err := counter.Parse(text)
	if plain.Told(err) != want || at != line || len(code) != 0 {
		t.Errorf("Parse(%.200q): %v, %d, %v, want %v at %d", text, code, at, err, want, line)
	}
}

// TestPrint: C1: how each line is written.
func TestPrint(t *testing.T) {
	cases := []struct {
		code []api.Ins
		want string
	}{
		{adder(), "dec 0 1 2\ninc 1 0\nhalt\n"},
		{halts(1), "halt\n"},
		{halts(12), strings.Repeat("halt\n", 12)},
		{[]api.Ins{inc(0, 0)}, "inc 0 0\n"},
		{[]api.Ins{dec(0, 0, 0)}, "dec 0 0 0\n"},
		{[]api.Ins{halt(), inc(3, 1), dec(2, 0, 1)}, "halt\ninc 3 1\ndec 2 0 1\n"},
		{with(12, 3, dec(3, 10, 11)), "halt\nhalt\nhalt\ndec 3 10 11\n" + strings.Repeat("halt\n", 8)},
	}
	for _, c := range cases {
		if text, err := counter.Print(c.code); err != nil || text != c.want {
			t.Errorf("Print(%v): %q, %v, want %q", c.code, text, err, c.want)
		}
		reads(t, c.want, c.code...)
	}
}

// TestParseOfPrint: C1: Parse gives what Print wrote, of every line there may be, and Print what Parse read.
func TestParseOfPrint(t *testing.T) {
	same := func(code []api.Ins) {
		text, err := counter.Print(code)
		if err != nil {
			t.Fatalf("Print(%v): %v", code, err)
		}
		reads(t, text, code...)
		if strings.Count(text, "\n") != len(code) || !strings.HasSuffix(text, "\n") {
			t.Errorf("Print(%v): %q", code, text)
		}
	}
	for lines := 1; lines <= api.MaxCode; lines++ {
		for _, in := range everyLine(lines) {
			same(with(lines, 0, in))
			same(with(lines, lines-1, in))
		}
	}
	random := rand.New(rand.NewSource(1))
	for range 500 {
		same(anyMachine(random, 1+random.Intn(api.MaxCode)))
	}
}

// TestNoLine: C1: what is no line, wherever it stands.
func TestNoLine(t *testing.T) {
	lines := []string{
		"", " ", "  ", "\t", "\x00", "\xff", "\r", "é",
		"halt ", " halt", "halt 0", "halt 0 0", "halt 0 0 0", "halt\r", "halt\t", "halt\x00", "Halt", "HALT", "hal", "halts", "haltt", "h", "stop", "h alt", "haltinc 0 0",
		"inc", "inc ", "inc 0", "inc 0 ", "inc 0 0 ", " inc 0 0", "inc  0 0", "inc 0  0", "inc 0 0 0", "inc 0 0 0 0", "inc 0 0 halt", "inc0 0", "inc 00", "inc\t0 0", "inc 0\t0", "inc 0,0", "Inc 0 0", "INC 0 0", "in 0 0", "incr 0 0", "ins 0 0", "nc 0 0", "0 0", "0 inc 0",
		"dec", "dec ", "dec 0", "dec 0 0", "dec 0 0 ", "dec 0 0  0", "dec  0 0 0", "dec 0  0 0", "dec 0 0 0 ", " dec 0 0 0", "dec 0 0 0 0", "dec 0 0 0 0 0", "dec 0 0 0 x", "dec 0 00", "dec0 0 0", "Dec 0 0 0", "DEC 0 0 0", "decr 0 0 0", "de 0 0 0", "dec 0 0 0\r",
		strings.Repeat(" ", 10000), strings.Repeat("halt", 1000), "inc 0 0" + strings.Repeat(" ", 1000), "inc 0 0" + strings.Repeat(" 0", 1000),
	}
	for _, line := range lines {
		wrong(t, line+"\n", api.ErrSyntax, 0)
		wrong(t, line+"\nhalt\n", api.ErrSyntax, 0)
		wrong(t, "halt\n"+line+"\n", api.ErrSyntax, 1)
		wrong(t, "halt\ninc 0 0\n"+line+"\nhalt\n", api.ErrSyntax, 2)
		// The first one is told.
		wrong(t, "halt\n"+line+"\nhalt\n"+line+"\n", api.ErrSyntax, 1)
		wrong(t, "halt\n"+line+"\nhalt\nx", api.ErrSyntax, 1)
		wrong(t, strings.Repeat("halt\n", 11)+line+"\n", api.ErrSyntax, 11)
	}
}

// TestNumbers: C1: numbers have no needless 0, no sign, and at most six digits; each number of a line is asked.
func TestNumbers(t *testing.T) {
	for _, n := range []string{"", "-", "+", "-1", "+1", "-0", "+0", "00", "01", "000000", "012345", "0000001", "1000000", "9999999", "12345678901234567890", strings.Repeat("1", 1000), strings.Repeat("0", 1000), "x", "1x", "x1", "0x1", "1_0", "1.0", "1e1", "1\r", "\t1", "٣", "１", "\x001", "/", ":", "1/", "1:"} {
		for _, line := range []string{"inc # 0", "inc 0 #", "dec # 0 0", "dec 0 # 0", "dec 0 0 #"} {
			line = strings.Replace(line, "#", n, 1)
			wrong(t, line+"\n", api.ErrSyntax, 0)
			wrong(t, "halt\n"+line+"\nhalt\n", api.ErrSyntax, 1)
		}
	}
	// Of up to six digits a number may be written, so that Check has to say that it is none.
	for _, n := range []string{"4", "9", "10", "12", "99", "123", "1000", "54321", "100000", "999999"} {
		for _, line := range []string{"inc # 0", "inc 0 #", "dec # 0 0", "dec 0 # 0", "dec 0 0 #"} {
			line = strings.Replace(line, "#", n, 1)
			wrong(t, line+"\n", api.ErrRange, 1)
			wrong(t, "halt\n"+line+"\nhalt\n", api.ErrRange, 3)
		}
	}
	for n := range 12 {
		digits := strconv.Itoa(n)
		reads(t, "dec 1 "+digits+" 3\n"+strings.Repeat("halt\n", 11), with(12, 0, dec(1, n, 3))...)
		reads(t, "dec 2 3 "+digits+"\n"+strings.Repeat("halt\n", 11), with(12, 0, dec(2, 3, n))...)
		reads(t, "inc 3 "+digits+"\n"+strings.Repeat("halt\n", 11), with(12, 0, inc(3, n))...)
	}
}

// TestNotEnded: C1: a last line without byte 10 is wrong, whatever it is.
func TestNotEnded(t *testing.T) {
	for _, last := range []string{"halt", "inc 0 0", "dec 0 0 0", "x", " ", "h", "inc 9 9"} {
		wrong(t, last, api.ErrSyntax, 0)
		for lines := 1; lines < 20; lines++ {
			wrong(t, strings.Repeat("halt\n", lines)+last, api.ErrSyntax, lines)
		}
	}
	wrong(t, "halt\ninc 9 9\nhalt", api.ErrSyntax, 2)
}

// TestParseCheck: C1: what Check says is told behind ErrSyntax, with how many lines there are.
func TestParseCheck(t *testing.T) {
	wrong(t, "", api.ErrFull, 0)
	wrong(t, "\n", api.ErrSyntax, 0)
	wrong(t, "\n\n", api.ErrSyntax, 0)
	reads(t, strings.Repeat("halt\n", 12), halts(12)...)
	for _, lines := range []int{13, 14, 15, 100, 1000000} {
		wrong(t, strings.Repeat("halt\n", lines), api.ErrFull, lines)
		wrong(t, strings.Repeat("inc 9 99\n", lines), api.ErrFull, lines)
		wrong(t, strings.Repeat("halt\n", lines)+"x\nhalt\n", api.ErrSyntax, lines)
		wrong(t, strings.Repeat("halt\n", lines)+"\n", api.ErrSyntax, lines)
	}
	for lines := 1; lines <= 12; lines++ {
		for at := range lines {
			text := strings.Repeat("halt\n", at) + "inc 0 " + strconv.Itoa(lines) + "\n" + strings.Repeat("halt\n", lines-1-at)
			wrong(t, text, api.ErrRange, lines)
			wrong(t, text+"x\n", api.ErrSyntax, lines)
			wrong(t, strings.Replace(text, "inc 0", "inc 4", 1), api.ErrRange, lines)
		}
	}
	// What is no line behind one that Check would refuse is told first.
	wrong(t, "inc 4 0\nhalt\nx\n", api.ErrSyntax, 2)
	wrong(t, "inc 4 0\nhalt\nhalt", api.ErrSyntax, 2)
}

// shape is that of a line.
var shape = regexp.MustCompile(`^(?:halt|inc (0|[1-9][0-9]{0,5}) (0|[1-9][0-9]{0,5})|dec (0|[1-9][0-9]{0,5}) (0|[1-9][0-9]{0,5}) (0|[1-9][0-9]{0,5}))$`)

// asked says by a regular expression what Parse has to answer.
func asked(text string) ([]api.Ins, int, api.Errno) {
	number := func(s string) int {
		n, _ := strconv.Atoi(s)
		return n
	}
	var code []api.Ins
	lines := strings.Split(text, "\n")
	for i, line := range lines[:len(lines)-1] {
		m := shape.FindStringSubmatch(line)
		switch {
		case m == nil:
			return nil, i, api.ErrSyntax
		case line == "halt":
			code = append(code, halt())
		case m[1] != "":
			code = append(code, inc(number(m[1]), number(m[2])))
		default:
			code = append(code, dec(number(m[3]), number(m[4]), number(m[5])))
		}
	}
	if lines[len(lines)-1] != "" {
		return nil, len(lines) - 1, api.ErrSyntax
	}
	if err := counter.Check(code); err != nil {
		return nil, len(code), plain.Told(err)
	}
	return code, 0, api.OK
}

func heldAgainst(t *testing.T, text string) {
	t.Helper()
	code, at, err := counter.Parse(text)
	if want, line, bad := asked(text); plain.Told(err) != bad || at != line || !slices.Equal(code, want) {
		t.Errorf("Parse(%q): %v, %d, %v, want %v, %d, %v", text, code, at, err, want, line, bad)
	}
	if err != nil {
		return
	}
	if again, err := counter.Print(code); err != nil || again != text {
		t.Errorf("Print of Parse(%q): %q, %v", text, again, err)
	}
}

// TestChanged: C1: machines' texts with pieces put in, taken out and exchanged, against a regular expression.
func TestChanged(t *testing.T) {
	random := rand.New(rand.NewSource(2))
	pieces := []string{"\n", " ", "0", "1", "-", "9", "x", "99999", "inc 0 0\n", "dec", "halt\n", "h", "3", "\r", "12"}
	for range 20000 {
		text, err := counter.Print(anyMachine(random, 1+random.Intn(api.MaxCode)))
		if err != nil {
			t.Fatal(err)
		}
		for range random.Intn(3) {
			a := random.Intn(len(text) + 1)
			b := min(len(text), a+random.Intn(3))
			text = text[:a] + pieces[random.Intn(len(pieces))] + text[b:]
		}
		heldAgainst(t, text)
		heldAgainst(t, text[:random.Intn(len(text)+1)])
	}
}

// FuzzParse: C1: any text, against a regular expression.
func FuzzParse(f *testing.F) {
	for _, text := range []string{"", "halt\n", "dec 0 1 2\ninc 1 0\nhalt\n", "inc 0 999999\n", "halt", "\n", "inc  0 0\n"} {
		f.Add(text)
	}
	f.Fuzz(func(t *testing.T, text string) { heldAgainst(t, text) })
}
