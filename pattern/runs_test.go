package pattern_test

import (
	"strings"
	"testing"

	"eden/api"
	"eden/pattern"
)

// full is a pattern of which every cell lives.
func full(wide, high int) api.Pattern {
	p := empty(wide, high)
	for i := range p.Cells {
		p.Cells[i] = 1
	}
	return p
}

// last is a pattern of which only the last cell lives.
func last(wide, high int) api.Pattern {
	p := empty(wide, high)
	p.Cells[len(p.Cells)-1] = 1
	return p
}

// TestRuns: P2: how a pattern is written.
func TestRuns(t *testing.T) {
	cases := []struct {
		p    api.Pattern
		want string
	}{
		{rows("010/111"), "x = 3, y = 2\nbo$3o!\n"},
		{api.Pattern{}, "x = 0, y = 0\n!\n"},
		{api.Pattern{Wide: 7}, "x = 7, y = 0\n!\n"},
		{api.Pattern{High: 7}, "x = 0, y = 7\n!\n"},
		{rows("0"), "x = 1, y = 1\n!\n"},
		{rows("1"), "x = 1, y = 1\no!\n"},
		{empty(100, 100), "x = 100, y = 100\n!\n"},
		{last(100, 100), "x = 100, y = 100\n99$99bo!\n"},
		{full(100, 2), "x = 100, y = 2\n100o$100o!\n"},
		{rows("10/00/00/01"), "x = 2, y = 4\no3$bo!\n"},
		{rows("00/10/00"), "x = 2, y = 3\n$o!\n"},
		{rows("00/00/11/00/00"), "x = 2, y = 5\n2$2o!\n"},
		{rows("1001100/0000000/1110001"), "x = 7, y = 3\no2b2o2$3o3bo!\n"},
		{rows("0011"), "x = 4, y = 1\n2b2o!\n"},
		{rows("1100/0000"), "x = 4, y = 2\n2o!\n"},
	}
	for _, c := range cases {
		got, err := pattern.Runs(c.p)
		if err != nil || got != c.want {
			t.Errorf("Runs(%v): %q, %v, want %q", c.p, got, err, c.want)
		}
	}
}

// TestRunsBack: P2: what Runs writes, ParseRuns reads; and nothing of it could be shorter.
func TestRunsBack(t *testing.T) {
	for _, p := range some() {
		text, err := pattern.Runs(p)
		if err != nil {
			t.Fatal(err)
		}
		q, at, err := pattern.ParseRuns(text)
		if err != nil || at != 0 || !same(p, q) {
			t.Errorf("ParseRuns(%q): %v, %d, %v, want %v", text, q, at, err, p)
		}
		_, tags, _ := strings.Cut(text, "\n")
		for _, needless := range []string{"bb", "oo", "$$", "b$", "b!", "$!", " "} {
			if strings.Contains(tags, needless) {
				t.Errorf("Runs of %d by %d has %q: %.80q", p.Wide, p.High, needless, text)
			}
		}
	}
}
