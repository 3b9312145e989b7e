package pattern_test

import (
	"regexp"
	"strconv"
	"strings"
	"testing"

	"eden/api"
	"eden/pattern"
	"eden/plain"
)

// TestParseRuns: P2: texts that are patterns.
func TestParseRuns(t *testing.T) {
	cases := []struct {
		text string
		want api.Pattern
	}{
		{"x = 3, y = 2\nbo$3o!\n", rows("010/111")},
		{"x = 3, y = 2\nbo$3o!", rows("010/111")},
		{"x = 3, y = 2\nbob$ooo!", rows("010/111")},
		{"x = 3, y = 2\nbo$2oo!", rows("010/111")},
		{"x = 3, y = 2\nbo$o2o! \n\n  \n ", rows("010/111")},
		{"x = 3, y = 2\n\n \nb o\n$ 3o\n!", rows("010/111")},
		{"x = 3, y = 2\n  bo  $\n\n3o !\n", rows("010/111")},
		{"x = 3, y = 2\n2b!", rows("000/000")},
		{"x = 3, y = 2\n3b!", rows("000/000")},
		{"x = 3, y = 2\nb2b!", rows("000/000")},
		{"x = 3, y = 2\n!", rows("000/000")},
		{"x = 3, y = 2\n$!", rows("000/000")},
		{"x = 3, y = 2\n3o$3o!", rows("111/111")},
		{"x = 3, y = 2\no!", rows("100/000")},
		{"x = 2, y = 4\n$$$bo!", rows("00/00/00/01")},
		{"x = 2, y = 4\n3$bo!", rows("00/00/00/01")},
		{"x = 2, y = 4\n2$$bo!", rows("00/00/00/01")},
		{"x = 2, y = 4\no$b2$2b!", rows("10/00/00/00")},
		{"x = 0, y = 0\n!\n", api.Pattern{}},
		{"x = 0, y = 0\n \n!\n", api.Pattern{}},
		{"x = 5, y = 0\n!", api.Pattern{Wide: 5}},
		{"x = 0, y = 5\n!", api.Pattern{High: 5}},
		{"x = 0, y = 5\n4$!", api.Pattern{High: 5}},
		{"x = 0, y = 5\n$2$$!", api.Pattern{High: 5}},
		{"x = 100, y = 100\n99$99bo!", last(100, 100)},
		{"x = 100, y = 1\n100o!", full(100, 1)},
		{"x = 1, y = 100\n" + strings.Repeat("o$", 99) + "o!", full(1, 100)},
	}
	for _, c := range cases {
		p, at, err := pattern.ParseRuns(c.text)
		if err != nil || at != 0 || !same(p, c.want) {
			t.Errorf("ParseRuns(%q): %v, %d, %v, want %v", c.text, p, at, err, c.want)
		}
	}
}

type fault struct {
	text string
	at   int
	want api.Errno
}

// refuses asks that a text's first fault is found, and that nothing is answered beside it.
func refuses(t *testing.T, name string, parse func(string) (api.Pattern, int, error), faults []fault) {
	t.Helper()
	for _, f := range faults {
		p, at, err := parse(f.text)
		if plain.Told(err) != f.want || at != f.at || !zero(p) {
			t.Errorf("%s(%.80q): %v, %d, %v, want %v at %d", name, f.text, p, at, err, f.want, f.at)
		}
	}
}

// TestParseRunsHeader: P2: faults ahead of the tags.
func TestParseRunsHeader(t *testing.T) {
	refuses(t, "ParseRuns", pattern.ParseRuns, []fault{
		{"", 0, api.ErrSyntax},
		{"\x00", 0, api.ErrSyntax},
		{"X = 1, y = 1\n!", 0, api.ErrSyntax},
		{" x = 1, y = 1\n!", 0, api.ErrSyntax},
		{"\nx = 1, y = 1\n!", 0, api.ErrSyntax},
		{"x", 1, api.ErrSyntax},
		{"x= 1, y = 1\n!", 1, api.ErrSyntax},
		{"x =1, y = 1\n!", 3, api.ErrSyntax},
		{"x = ", 4, api.ErrSyntax},
		{"x =  1, y = 1\n!", 4, api.ErrSyntax},
		{"x = , y = 1\n!", 4, api.ErrSyntax},
		{"x = -1, y = 1\n!", 4, api.ErrSyntax},
		{"x = +1, y = 1\n!", 4, api.ErrSyntax},
		{"x = 01, y = 1\n!", 4, api.ErrSyntax},
		{"x = 00, y = 1\n!", 4, api.ErrSyntax},
		{"x = 0101", 4, api.ErrSyntax},
		{"x = 00x", 4, api.ErrSyntax},
		{"x = 101, y = 1\n!", 4, api.ErrRange},
		{"x = 101", 4, api.ErrRange},
		{"x = 101x", 4, api.ErrRange},
		{"x = 999999, y = 1\n!", 4, api.ErrRange},
		{"x = 1000000, y = 1\n!", 4, api.ErrSyntax},
		{"x = 0000001, y = 1\n!", 4, api.ErrSyntax},
		{"x = 18446744073709551617, y = 1\n!", 4, api.ErrSyntax},
		{"x = " + strings.Repeat("1", 39000), 4, api.ErrSyntax},
		{"x = 101, y = 01\n!", 4, api.ErrRange},
		{"x = 1", 5, api.ErrSyntax},
		{"x = 1 , y = 1\n!", 5, api.ErrSyntax},
		{"x = 1x, y = 1\n!", 5, api.ErrSyntax},
		{"x = 1,y = 1\n!", 6, api.ErrSyntax},
		{"x = 1,  y = 1\n!", 7, api.ErrSyntax},
		{"x = 1, y = ", 11, api.ErrSyntax},
		{"x = 1, y = \n!", 11, api.ErrSyntax},
		{"x = 1, y = -1\n!", 11, api.ErrSyntax},
		{"x = 1, y = 01\n!", 11, api.ErrSyntax},
		{"x = 100, y = 101\n!", 13, api.ErrRange},
		{"x = 100, y = 101", 13, api.ErrRange},
		{"x = 1, y = 1000000\n!", 11, api.ErrSyntax},
		{"x = 1, y = 1", 12, api.ErrSyntax},
		{"x = 1, y = 1!", 12, api.ErrSyntax},
		{"x = 1, y = 1 \n!", 12, api.ErrSyntax},
		{"x = 1, y = 1\r\n!", 12, api.ErrSyntax},
		{"x = 1, y = 1, rule = B3/S23\n!", 12, api.ErrSyntax},
	})
}

// TestParseRunsTags: P2: faults of tags, and of their numbers.
func TestParseRunsTags(t *testing.T) {
	refuses(t, "ParseRuns", pattern.ParseRuns, []fault{
		{"x = 1, y = 1\n", 13, api.ErrSyntax},
		{"x = 1, y = 1\no", 14, api.ErrSyntax},
		{"x = 1, y = 1\no \n", 16, api.ErrSyntax},
		{"x = 9, y = 9\n2", 14, api.ErrSyntax},
		{"x = 9, y = 9\nx", 13, api.ErrSyntax},
		{"x = 9, y = 9\nB!", 13, api.ErrSyntax},
		{"x = 9, y = 9\n\x00!", 13, api.ErrSyntax},
		{"x = 9, y = 9\n\xff!", 13, api.ErrSyntax},
		{"x = 9, y = 9\n\t!", 13, api.ErrSyntax},
		{"x = 9, y = 9\no\ro!", 14, api.ErrSyntax},
		{"x = 9, y = 9\n-2b!", 13, api.ErrSyntax},
		{"x = 9, y = 9\n2 b!", 14, api.ErrSyntax},
		{"x = 9, y = 9\n2\nb!", 14, api.ErrSyntax},
		{"x = 9, y = 9\n2x!", 14, api.ErrSyntax},
		{"x = 9, y = 9\n50 b!", 15, api.ErrSyntax},
		{"x = 9, y = 9\n2!", 14, api.ErrSyntax},
		{"x = 9, y = 9\n12!", 15, api.ErrSyntax},
		{"x = 9, y = 9\n0b!", 13, api.ErrSyntax},
		{"x = 9, y = 9\n1b!", 13, api.ErrSyntax},
		{"x = 9, y = 9\n0o!", 13, api.ErrSyntax},
		{"x = 9, y = 9\n1$!", 13, api.ErrSyntax},
		{"x = 9, y = 9\n1 b!", 13, api.ErrSyntax},
		{"x = 9, y = 9\n0!", 13, api.ErrSyntax},
		{"x = 9, y = 9\n1", 13, api.ErrSyntax},
		{"x = 9, y = 9\nb 1o!", 15, api.ErrSyntax},
		{"x = 9, y = 9\n02b!", 13, api.ErrSyntax},
		{"x = 9, y = 9\n00b!", 13, api.ErrSyntax},
		{"x = 9, y = 9\n1000000b!", 13, api.ErrSyntax},
		{"x = 9, y = 9\n0000002b!", 13, api.ErrSyntax},
		{"x = 9, y = 9\n100000000000000000000b!", 13, api.ErrSyntax},
		{"x = 9, y = 9\n!x", 14, api.ErrSyntax},
		{"x = 9, y = 9\n!!", 14, api.ErrSyntax},
		{"x = 9, y = 9\n! \no", 16, api.ErrSyntax},
		{"x = 9, y = 9\n!2", 14, api.ErrSyntax},
		{"x = 9, y = 9\n!\x00", 14, api.ErrSyntax},
		{"x = 9, y = 9\n!\t", 14, api.ErrSyntax},
	})
}

// TestParseRunsRange: P2: rows that would be too long, and what stands behind the last one.
func TestParseRunsRange(t *testing.T) {
	refuses(t, "ParseRuns", pattern.ParseRuns, []fault{
		{"x = 2, y = 1\n3b!", 13, api.ErrRange},
		{"x = 1, y = 1\n$!", 13, api.ErrRange},
		{"x = 2, y = 1\n3o!", 13, api.ErrRange},
		{"x = 2, y = 1\n999999b!", 13, api.ErrRange},
		{"x = 2, y = 1\n2bb!", 15, api.ErrRange},
		{"x = 2, y = 1\no b o!", 17, api.ErrRange},
		{"x = 2, y = 1\no 2b!", 15, api.ErrRange},
		{"x = 2, y = 1\no\n \n2o!", 17, api.ErrRange},
		{"x = 2, y = 1\noo$!", 15, api.ErrRange},
		{"x = 2, y = 2\noo$oo$!", 18, api.ErrRange},
		{"x = 2, y = 2\n$$!", 14, api.ErrRange},
		{"x = 2, y = 2\n2$!", 13, api.ErrRange},
		{"x = 2, y = 2\no$ 2$!", 16, api.ErrRange},
		{"x = 2, y = 2\n999999$!", 13, api.ErrRange},
		{"x = 2, y = 2\noo$oob!", 18, api.ErrRange},
		{"x = 2, y = 9\n$3o$x", 14, api.ErrRange},
		{"x = 0, y = 0\nb!", 13, api.ErrRange},
		{"x = 0, y = 0\n$!", 13, api.ErrRange},
		{"x = 5, y = 0\nb!", 13, api.ErrRange},
		{"x = 5, y = 0\n2o!", 13, api.ErrRange},
		{"x = 5, y = 0\n$!", 13, api.ErrRange},
		{"x = 0, y = 5\no!", 13, api.ErrRange},
		{"x = 0, y = 5\n4$b!", 15, api.ErrRange},
		{"x = 0, y = 5\n5$!", 13, api.ErrRange},
		{"x = 100, y = 100\n101o!", 17, api.ErrRange},
		{"x = 100, y = 100\n99$100oo!", 24, api.ErrRange},
		{"x = 100, y = 100\n100$!", 17, api.ErrRange},
		{"x = 2, y = 1\n3bx", 13, api.ErrRange},
		{"x = 2, y = 1\nx3b", 13, api.ErrSyntax},
	})
}

// TestParseRunsFull: P2: no more than MaxText bytes, whatever they are.
func TestParseRunsFull(t *testing.T) {
	short := "x = 1, y = 1\no!"
	text := short + strings.Repeat("\n", api.MaxText-len(short))
	if p, at, err := pattern.ParseRuns(text); err != nil || at != 0 || !same(p, rows("1")) {
		t.Errorf("ParseRuns of MaxText bytes: %v, %d, %v", p, at, err)
	}
	refuses(t, "ParseRuns", pattern.ParseRuns, []fault{
		{text + "\n", 0, api.ErrFull},
		{text + "x", 0, api.ErrFull},
		{"x = 7" + text, 0, api.ErrFull},
		{strings.Repeat("x", 40001), 0, api.ErrFull},
	})
}

var runForm = regexp.MustCompile(`^x = (0|[1-9][0-9]{0,5}), y = (0|[1-9][0-9]{0,5})\n((?:[ \n]*(?:[2-9]|[1-9][0-9]{1,5})?[bo$])*)[ \n]*![ \n]*$`)

var oneRun = regexp.MustCompile(`([0-9]*)([bo$])`)

// fits tells, by other means than the program's, whether a text is a pattern's runs.
func fits(text string) bool {
	parts := runForm.FindStringSubmatch(text)
	if parts == nil || len(text) > 40000 {
		return false
	}
	wide, _ := strconv.Atoi(parts[1])
	high, _ := strconv.Atoi(parts[2])
	if wide > 100 || high > 100 {
		return false
	}
	long := oneRun.ReplaceAllStringFunc(parts[3], func(run string) string {
		times, err := strconv.Atoi(run[:len(run)-1])
		if err != nil {
			times = 1
		}
		return strings.Repeat(run[len(run)-1:], min(times, 101))
	})
	long = strings.NewReplacer(" ", "", "\n", "").Replace(long)
	lines := strings.Split(long, "$")
	if long != "" && len(lines) > high {
		return false
	}
	for _, line := range lines {
		if len(line) > wide {
			return false
		}
	}
	return true
}

// FuzzParseRuns: P2: a text is taken just where it has the form, and what is taken is a pattern that Runs writes and ParseRuns reads again; else a place within the text is told.
func FuzzParseRuns(f *testing.F) {
	for _, text := range []string{"", "x = 3, y = 2\nbo$3o!\n", "x = 2, y = 1\n3b!", "x = 1, y = 1\n$!", "x = 0, y = 0\n!", "x = 100, y = 100\n99$ 99b\no! \n", "x = 101, y = 2\n", "x = 9, y = 9\n1b02o3$2b$$!x", "x = 5, y = 0\n!", "x = 5, y = 0\no!"} {
		f.Add(text)
	}
	f.Fuzz(func(t *testing.T, text string) {
		p, at, err := pattern.ParseRuns(text)
		if (err == nil) != fits(text) {
			t.Fatalf("ParseRuns(%q): %v, %d, %v", text, p, at, err)
		}
		if err != nil {
			told := plain.Told(err)
			if !zero(p) || at < 0 || at > len(text) || told != api.ErrSyntax && told != api.ErrRange && told != api.ErrFull {
				t.Fatalf("ParseRuns(%q): %v, %d, %v", text, p, at, err)
			}
			return
		}
		again, err := pattern.Runs(p)
		if at != 0 || err != nil {
			t.Fatalf("ParseRuns(%q): %v, %d, and Runs of it: %v", text, p, at, err)
		}
		if q, _, err := pattern.ParseRuns(again); err != nil || !same(p, q) {
			t.Fatalf("ParseRuns(%q): %v, %v, want %v", again, q, err, p)
		}
	})
}
