package rules_test

import (
	"reflect"
	"regexp"
	"slices"
	"strconv"
	"strings"
	"testing"

	"eden/api"
	"eden/plain"
	"eden/rules"
)

// takes asks that Parse reads a text as a rule.
func takes(t *testing.T, text string, want api.Rule) {
	t.Helper()
	r, at, err := rules.Parse(text)
	if err != nil || at != 0 || !reflect.DeepEqual(r, want) {
		t.Errorf("Parse(%q): %v, %d, %v, want %v", text, r, at, err, want)
	}
}

// refuses asks that Parse finds a text's first fault at a place, and answers nothing beside it.
func refuses(t *testing.T, text string, want int) {
	t.Helper()
	r, at, err := rules.Parse(text)
	if plain.Told(err) != api.ErrSyntax || at != want || !reflect.DeepEqual(r, api.Rule{}) {
		t.Errorf("Parse(%q): %v, %d, %v, want ErrSyntax at %d", text, r, at, err, want)
	}
}

// TestParse: R3: texts that are rules.
func TestParse(t *testing.T) {
	takes(t, "B3/S23", life(8, 12))
	takes(t, "B/S", life(0, 0))
	takes(t, "B012345678/S012345678", life(511, 511))
	takes(t, "B08/S", life(257, 0))
	takes(t, "W110", api.Rule{Kind: api.Line, States: 2, Radius: 1, Table: []int{0, 1, 1, 1, 0, 1, 1, 0}})
	takes(t, "L 2 1 01110110", api.Rule{Kind: api.Line, States: 2, Radius: 1, Table: []int{0, 1, 1, 1, 0, 1, 1, 0}})
	takes(t, "L 2 0 10", api.Rule{Kind: api.Line, States: 2, Table: []int{1, 0}})
	takes(t, "L 3 0 120", api.Rule{Kind: api.Line, States: 3, Table: []int{1, 2, 0}})
	takes(t, "L 4 0 3333", api.Rule{Kind: api.Line, States: 4, Table: []int{3, 3, 3, 3}})
	takes(t, "T RL", ant("RL"))
	takes(t, "T L", ant("L"))
	takes(t, "T "+strings.Repeat("R", 26), ant(strings.Repeat("R", 26)))
}

// TestParseFaults: R3: where the first fault is.
func TestParseFaults(t *testing.T) {
	long := strings.Repeat("1", 1000)
	cases := []struct {
		text string
		at   int
	}{
		{"", 0}, {" ", 0}, {"b3/S23", 0}, {"\n", 0}, {"\x00", 0}, {"\xff", 0}, {"é", 0}, {"3", 0}, {" W1", 0},

		{"B", 1}, {"B3", 2}, {"B3/", 3}, {"B3S23", 2}, {"B3//S", 3}, {"B3/s23", 3}, {"B/3", 2},
		{"B32/S", 2}, {"B33/S", 2}, {"B9/S", 1}, {"B39/S", 2}, {"B80/S", 2}, {"B 3/S", 1}, {"B-1/S", 1},
		{"B3/S32", 5}, {"B3/S22", 5}, {"B3/S9", 4}, {"B3/S23 ", 6}, {"B3/S23\n", 6}, {"B3/S2/", 5}, {"B012345678/S0123456789", 21},

		{"W", 1}, {"W256", 1}, {"W300", 1}, {"W999", 1}, {"W1000", 1}, {"W" + long, 1}, {"W18446744073709551726", 1},
		{"W012", 1}, {"W00", 1}, {"W0255", 1}, {"W0x", 2}, {"W36x", 3}, {"W256x", 1}, {"W00x", 1}, {"W 1", 1}, {"W-1", 1}, {"W+1", 1}, {"W110 ", 4}, {"W1W1", 2},

		{"L", 1}, {"L ", 2}, {"L2", 1}, {"L  2 0 10", 2}, {"L x", 2}, {"L 2", 3}, {"L 2 ", 4}, {"L 2x0 10", 3}, {"L 2  0 10", 4},
		{"L 0 0 0", 2}, {"L 1 0 0", 2}, {"L 5 0 01234", 2}, {"L 02 0 10", 2}, {"L 22 0 10", 2}, {"L 10", 2}, {"L " + long + " 0 10", 2}, {"L -2 0 10", 2},
		{"L 2 0", 5}, {"L 2 0 ", 6}, {"L 2 0x", 5}, {"L 2 00 10", 4}, {"L 2 01 10", 4}, {"L 2 -1 0", 4}, {"L 2 x", 4},
		{"L 2 3 " + strings.Repeat("0", 128), 4}, {"L 3 3 0", 4}, {"L 4 3", 4}, {"L 2 " + long + " 0", 4}, {"L 2 10", 4},
		{"L 2 0 1", 7}, {"L 2 0 101", 8}, {"L 2 0 10 ", 8}, {"L 2 0 12", 7}, {"L 3 0 123", 8}, {"L 4 0 0124", 9}, {"L 4 0 1/11", 7}, {"L 2 0  10", 6},
		{"L 2 1 0111011", 13}, {"L 2 1 011101100", 14},
		{"L 4 2 " + strings.Repeat("3", 1023), 1029}, {"L 4 2 " + strings.Repeat("3", 1025), 1030},

		{"T", 1}, {"T ", 2}, {"TR", 1}, {"T  R", 2}, {"T r", 2}, {"T RLx", 4}, {"T RL ", 4}, {"T M", 2},
		{"T " + strings.Repeat("L", 27), 28}, {"T " + strings.Repeat("L", 26) + "x", 28},
	}
	for _, c := range cases {
		refuses(t, c.text, c.at)
	}
}

// TestParseNumbers: R3: of all short texts behind `W` just the numbers from 0 to 255 are taken.
func TestParseNumbers(t *testing.T) {
	const bytes = "0123456789 "
	texts := []string{""}
	for first := 0; len(texts[first]) < 4; first++ {
		for i := range len(bytes) {
			texts = append(texts, texts[first]+bytes[i:i+1])
		}
	}
	taken := 0
	for _, text := range texts {
		digits, _, cut := strings.Cut(text, " ")
		n, err := strconv.Atoi(digits)
		switch {
		case err != nil || n > 255 || strconv.Itoa(n) != digits:
			refuses(t, "W"+text, 1)
		case cut:
			refuses(t, "W"+text, 1+len(digits))
		default:
			taken++
			table := make([]int, 8)
			for i := range table {
				table[i] = n >> i & 1
			}
			takes(t, "W"+text, api.Rule{Kind: api.Line, States: 2, Radius: 1, Table: table})
		}
	}
	if taken != 256 {
		t.Errorf("%d numbers are taken, want 256", taken)
	}
}

// TestParseLife: R3: a text of Life is faulty behind the longest piece with which a good one begins.
func TestParseLife(t *testing.T) {
	const rising = "0?1?2?3?4?5?6?7?8?"
	begins := regexp.MustCompile("^(B" + rising + "(/(S" + rising + ")?)?)?$")
	const bytes = "0389/S"
	texts := []string{"B", "B38/S"}
	for i := 0; i < len(texts); i++ {
		if len(texts[i]) < 8 {
			for j := range len(bytes) {
				texts = append(texts, texts[i]+bytes[j:j+1])
			}
		}
	}
	for _, text := range texts {
		at := len(text)
		for !begins.MatchString(text[:at]) {
			at--
		}
		if at < len(text) || !strings.Contains(text, "/S") {
			refuses(t, text, at)
		} else if _, _, err := rules.Parse(text); err != nil {
			t.Errorf("Parse(%q): %v", text, err)
		}
	}
}

// TestParsePrinted: R3: Parse takes what Print gives, and gives it back.
func TestParsePrinted(t *testing.T) {
	var printed []api.Rule
	for bits := range 512 {
		printed = append(printed, life(bits, 511-bits), life(bits, 8), life(12, bits))
	}
	for n := range 256 {
		table := make([]int, 8)
		for i := range table {
			table[i] = n >> i & 1
		}
		printed = append(printed, api.Rule{Kind: api.Line, States: 2, Radius: 1, Table: table})
	}
	for states := 2; states <= 4; states++ {
		for radius := range 3 {
			printed = append(printed, line(states, radius))
		}
	}
	for n := 1; n <= 26; n++ {
		printed = append(printed, ant(strings.Repeat("RLL", 9)[:n]))
	}
	seen := map[string]bool{}
	for _, r := range printed {
		text, err := rules.Print(r)
		if err != nil {
			t.Errorf("Print(%v): %v", r, err)
			continue
		}
		seen[text] = true
		takes(t, text, r)
	}
	if len(seen) < 256+512+256 {
		t.Errorf("only %d texts are unlike", len(seen))
	}
}

// asPrinted asks of any text: what is taken is what Print gives; else nothing ahead of the fault is one.
func asPrinted(t *testing.T, text string) {
	t.Helper()
	r, at, err := rules.Parse(text)
	if err == nil {
		again, bad := rules.Print(r)
		if at != 0 || bad != nil || again != text && !strings.HasPrefix(text, "L 2 1 ") {
			t.Errorf("Parse(%q): at %d, is printed %q, %v", text, at, again, bad)
		}
		return
	}
	if plain.Told(err) != api.ErrSyntax || at < 0 || at > len(text) || !reflect.DeepEqual(r, api.Rule{}) {
		t.Errorf("Parse(%q): %v, %d, %v", text, r, at, err)
		return
	}
	if _, ahead, err := rules.Parse(text[:at]); err != nil && ahead != at {
		t.Errorf("Parse(%q): fault at %d, but at %d of what is ahead", text, at, ahead)
	}
}

// TestParseChanged: R3, and P1 of the document: each text that is one byte off a good one.
func TestParseChanged(t *testing.T) {
	const bytes = "BSWLTR/ 0123456789x\n\x00\xff"
	for _, text := range []string{"B3/S23", "B/S", "W110", "W0", "W25", "L 3 0 120", "L 2 1 01110110", "L 4 0 3012", "L 2 2 01110011101000000110110011010110", "T RL", "T " + strings.Repeat("L", 26)} {
		for i := range len(text) + 1 {
			asPrinted(t, text[:i])
			asPrinted(t, text[i:])
			for _, b := range []byte(bytes) {
				asPrinted(t, text[:i]+string([]byte{b})+text[i:])
				if i < len(text) {
					asPrinted(t, text[:i]+string([]byte{b})+text[i+1:])
				}
			}
			if i < len(text) {
				asPrinted(t, text[:i]+text[i+1:])
			}
		}
	}
}

// TestParseFresh: P2 of the document: two answers share no list.
func TestParseFresh(t *testing.T) {
	for _, text := range []string{"W110", "L 3 0 120"} {
		a, _, _ := rules.Parse(text)
		b, _, _ := rules.Parse(text)
		want := slices.Clone(b.Table)
		for i := range a.Table {
			a.Table[i] = 9
		}
		if !slices.Equal(b.Table, want) {
			t.Errorf("two answers to %q share a list", text)
		}
	}
}

// FuzzParse asks the same of any text.
func FuzzParse(f *testing.F) {
	for _, text := range []string{"", "B3/S23", "W110", "L 3 0 120", "T RL"} {
		f.Add(text)
	}
	f.Fuzz(asPrinted)
}
