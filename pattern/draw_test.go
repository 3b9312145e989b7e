package pattern_test

import (
	"strings"
	"testing"

	"eden/api"
	"eden/pattern"
	"eden/plain"
)

// drawn writes dots and circles for 0 and 1, and byte 10 for /.
func drawn(text string) string {
	return strings.NewReplacer("0", "\u00b7", "1", "\u25cf", "/", "\n").Replace(text)
}

// TestDraw: P3: a rune a cell, and byte 10 behind each row; and ParseDraw reads it.
func TestDraw(t *testing.T) {
	cases := []struct {
		p    api.Pattern
		want string
	}{
		{rows("010/111"), "\xc2\xb7\xe2\x97\x8f\xc2\xb7\n\xe2\x97\x8f\xe2\x97\x8f\xe2\x97\x8f\n"},
		{rows("0"), "\xc2\xb7\n"},
		{rows("1"), "\xe2\x97\x8f\n"},
		{rows("1/0"), "\xe2\x97\x8f\n\xc2\xb7\n"},
		{api.Pattern{}, ""},
		{api.Pattern{High: 1}, "\n"},
		{api.Pattern{High: 3}, "\n\n\n"},
		{api.Pattern{High: 100}, strings.Repeat("\n", 100)},
		{full(100, 100), strings.Repeat(strings.Repeat("\xe2\x97\x8f", 100)+"\n", 100)},
	}
	for _, c := range cases {
		text, err := pattern.Draw(c.p)
		if err != nil || text != c.want {
			t.Errorf("Draw of %d by %d: %q, %v, want %q", c.p.Wide, c.p.High, text, err, c.want)
		}
		p, at, err := pattern.ParseDraw(c.want)
		if err != nil || at != 0 || !same(p, c.p) {
			t.Errorf("ParseDraw(%q): %v, %d, %v, want %v", c.want, p, at, err, c.p)
		}
	}
	if text, err := pattern.Draw(api.Pattern{Wide: 5}); text != "" || err != nil {
		t.Errorf("Draw of 5 by 0: %q, %v", text, err)
	}
}

// TestDrawBack: P3: what Draw writes, ParseDraw reads.
func TestDrawBack(t *testing.T) {
	for _, p := range some() {
		text, err := pattern.Draw(p)
		if err != nil {
			t.Fatal(err)
		}
		if p.High == 0 {
			p.Wide = 0 // without a row no text tells how wide it is
		}
		q, at, err := pattern.ParseDraw(text)
		if err != nil || at != 0 || !same(p, q) {
			t.Errorf("ParseDraw(%q): %v, %d, %v, want %v", text, q, at, err, p)
		}
	}
}

// TestParseDrawSyntax: P3: bytes that begin nothing, and an end without byte 10.
func TestParseDrawSyntax(t *testing.T) {
	refuses(t, "ParseDraw", pattern.ParseDraw, []fault{
		{"x", 0, api.ErrSyntax},
		{" \n", 0, api.ErrSyntax},
		{"\x00", 0, api.ErrSyntax},
		{"\r\n", 0, api.ErrSyntax},
		{"0\n", 0, api.ErrSyntax},
		{"o\n", 0, api.ErrSyntax},
		{"\xff\n", 0, api.ErrSyntax},
		{"\xb7\n", 0, api.ErrSyntax},
		{"\xc2\n", 0, api.ErrSyntax},
		{"\xc2", 0, api.ErrSyntax},
		{"\xe2\x97\n", 0, api.ErrSyntax},
		{"\xe2\x97", 0, api.ErrSyntax},
		{"\u25cb\n", 0, api.ErrSyntax},
		{"\u00b8\n", 0, api.ErrSyntax},
		{"\ufffd\n", 0, api.ErrSyntax},
		{"\xe0\x82\xb7\n", 0, api.ErrSyntax}, // U+00B7 in three bytes, which is no rune
		{drawn("0") + "\xe2", 2, api.ErrSyntax},
		{drawn("01") + "\xc2\n", 5, api.ErrSyntax},
		{drawn("01/1") + " " + drawn("/"), 9, api.ErrSyntax},
		{drawn("0"), 2, api.ErrSyntax},
		{drawn("1"), 3, api.ErrSyntax},
		{drawn("01/01"), 11, api.ErrSyntax},
		{drawn("01/0"), 8, api.ErrSyntax},
		{drawn("01/010"), 13, api.ErrSyntax},
		{drawn("1/11") + "x\n", 10, api.ErrSyntax},
		{drawn("11/1") + "x\n", 10, api.ErrSyntax},
		{drawn("/") + "x", 1, api.ErrSyntax},
		{strings.Repeat("\n", 100) + "x", 100, api.ErrSyntax},
		{strings.Repeat(drawn("0"), 100), 200, api.ErrSyntax},
		{strings.Repeat(drawn("0"), 100) + "x", 200, api.ErrSyntax},
	})
}

// TestParseDrawShape: P3: rows that are not as long as the first one.
func TestParseDrawShape(t *testing.T) {
	refuses(t, "ParseDraw", pattern.ParseDraw, []fault{
		{drawn("01/0/"), 6, api.ErrShape},
		{drawn("01/010/"), 6, api.ErrShape},
		{drawn("01/01//"), 12, api.ErrShape},
		{drawn("01//01/"), 6, api.ErrShape},
		{drawn("/0/"), 1, api.ErrShape},
		{drawn("//1/"), 2, api.ErrShape},
		{drawn("1/11/") + "x", 4, api.ErrShape},
		{drawn("1/11/111/"), 4, api.ErrShape},
		{drawn("1//") + strings.Repeat(drawn("1"), 101) + "\n", 4, api.ErrShape},
	})
}

// TestParseDrawRange: P3: sides above MaxSide are told where they come to be, ahead of what is found at a row's end.
func TestParseDrawRange(t *testing.T) {
	wide := strings.Repeat(drawn("1"), 100)
	high := strings.Repeat(drawn("0/"), 100)
	refuses(t, "ParseDraw", pattern.ParseDraw, []fault{
		{wide + drawn("1/"), 300, api.ErrRange},
		{wide + drawn("0"), 300, api.ErrRange},
		{wide + drawn("0") + "x", 300, api.ErrRange},
		{drawn("0/") + wide + drawn("1/"), 303, api.ErrRange},
		{drawn("/") + wide + drawn("1"), 301, api.ErrRange},
		{wide + drawn("/") + wide + drawn("0x"), 601, api.ErrRange},
		{high + drawn("0/"), 300, api.ErrRange},
		{high + drawn("1"), 300, api.ErrRange},
		{high + drawn("/"), 300, api.ErrRange},
		{high + drawn("00/"), 300, api.ErrRange},
		{high + drawn("0") + "x", 300, api.ErrRange},
		{strings.Repeat("\n", 101), 100, api.ErrRange},
		{strings.Repeat("\n", 40000), 100, api.ErrRange},
	})
}

// TestParseDrawFull: P3: no more than MaxText bytes, whatever they are.
func TestParseDrawFull(t *testing.T) {
	refuses(t, "ParseDraw", pattern.ParseDraw, []fault{
		{strings.Repeat("x", 40000), 0, api.ErrSyntax},
		{strings.Repeat("x", 40001), 0, api.ErrFull},
		{strings.Repeat("\n", 40001), 0, api.ErrFull},
		{strings.Repeat(drawn("1"), 13334), 0, api.ErrFull},
	})
}

// FuzzParseDraw: P3: what is taken is just what Draw writes; else a place within the text is told.
func FuzzParseDraw(f *testing.F) {
	for _, text := range []string{"", "010/111/", "01/0/", "01/01", "/", "//0/", "x", "0/x"} {
		f.Add(drawn(text))
	}
	f.Add("\xc2\n\xe2\x97\n")
	f.Fuzz(func(t *testing.T, text string) {
		p, at, err := pattern.ParseDraw(text)
		if err != nil {
			told := plain.Told(err)
			if !zero(p) || at < 0 || at > len(text) || told < api.ErrRange || told > api.ErrFull {
				t.Fatalf("ParseDraw(%q): %v, %d, %v", text, p, at, err)
			}
			return
		}
		if again, err := pattern.Draw(p); err != nil || at != 0 || again != text {
			t.Fatalf("ParseDraw(%q): %v, %d, and Draw of it: %q, %v", text, p, at, again, err)
		}
	})
}
