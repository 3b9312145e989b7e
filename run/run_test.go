package run_test

import (
	"strings"
	"sync"
	"testing"

	"eden/run"
)

// says asks what a text of lines is answered, with byte 10 behind each of them, and without it behind the last.
func says(t *testing.T, lines, want []string) {
	t.Helper()
	text, all := strings.Join(lines, "\n"), strings.Join(want, "\n")+"\n"
	if got := run.Run(text + "\n"); got != all {
		t.Errorf("Run(%.300q): %.300q, want %.300q", text+"\n", got, all)
	}
	if got := run.Run(text); lines[len(lines)-1] != "" && got != all {
		t.Errorf("Run(%.300q): %.300q, want %.300q", text, got, all)
	}
}

// pair is a line and its answer.
type pair struct{ line, want string }

// told asks each line alone, behind a line that sets a rule (of an empty text: none does), and then all of them in one text.
func told(t *testing.T, rule string, pairs []pair) {
	t.Helper()
	var lines, want []string
	if rule != "" {
		lines, want = []string{"rule " + rule}, []string{rule}
	}
	first := len(lines)
	for _, p := range pairs {
		says(t, append(lines[:first:first], p.line), append(want[:first:first], p.want))
		lines, want = append(lines, p.line), append(want, p.want)
	}
	says(t, lines, want)
}

// TestExample: the chapter's example.
func TestExample(t *testing.T) {
	says(t, []string{"rule W90", "step 0001000 2", "onto", "fly"}, []string{"W90", "0100010", "yes", "bad"})
}

// TestTooLong: X1: what is longer than MaxRun is answered at once, whatever stands there.
func TestTooLong(t *testing.T) {
	lines := strings.Repeat("\n", 12000)
	if got := run.Run(lines); got != strings.Repeat("bad\n", 12000) {
		t.Errorf("12000 lines: %.100q", got)
	}
	one := "parent 1\n"
	full := one + strings.Repeat("x", 12000-len(one))
	if got := run.Run(full); got != "000/000/111\nbad\n" {
		t.Errorf("12000 bytes: %.100q", got)
	}
	for _, text := range []string{lines + "\n", full + "x", full + "\n", strings.Repeat("x", 12001), strings.Repeat("parent 1\n", 2000), strings.Repeat("\x00", 1<<20)} {
		if got := run.Run(text); got != "too long\n" {
			t.Errorf("%d bytes: %.100q", len(text), got)
		}
	}
}

// TestPieces: X1: lines are cut at byte 10, and a last piece that is empty is none.
func TestPieces(t *testing.T) {
	cases := []struct{ text, want string }{
		{"", ""},
		{"\n", "bad\n"},
		{"\n\n", "bad\nbad\n"},
		{" ", "bad\n"},
		{" \n", "bad\n"},
		{"parent 1", "000/000/111\n"},
		{"parent 1\n", "000/000/111\n"},
		{"parent 1\n\n", "000/000/111\nbad\n"},
		{"\nparent 1", "bad\n000/000/111\n"},
		{"parent 1\n\n\nparent 0", "000/000/111\nbad\nbad\n000/000/000\n"},
		{"parent 1\r\nparent 1\n", "bad\n000/000/111\n"},
		{"parent 1\x00\nparent\t1\nparent\u00a01\nparent 1\v", "bad\nbad\nbad\nbad\n"},
		{"word 1 \nword 1 \n", "\n\n"},
	}
	for _, c := range cases {
		if got := run.Run(c.text); got != c.want {
			t.Errorf("Run(%q): %q, want %q", c.text, got, c.want)
		}
	}
}

// rows has a line of each row that can be read with the rule named ahead of it, but for rule and word, which take any text behind their last blank.
func rows() []pair {
	return []pair{
		{"W110", "step 0010 1"},
		{"W110", "onto"},
		{"W110", "one"},
		{"B3/S23", "grow 111 1"},
		{"B3/S23", "again 111 2"},
		{"B3/S23", "parent 1"},
		{"B3/S23", "jump 010/001/111 2"},
		{"T RL", "walk 5"},
		{"T RL", "settle 0 0,2,1 3 0-1:1 1-2:1 2-0:1"},
		{"T RL", "rank 1,0,0 3 0-1:1 1-2:1 2-0:1"},
	}
}

// TestBlanks: X1: one blank stands between two words, and none elsewhere.
func TestBlanks(t *testing.T) {
	for _, row := range rows() {
		rule, line := row.line, row.want
		for _, wrong := range []string{" " + line, line + " ", "  " + line, line + "  ", " " + line + " ", "\t" + line} {
			told(t, rule, []pair{{wrong, "bad"}})
		}
		for at := range len(line) {
			if line[at] == ' ' {
				told(t, rule, []pair{{line[:at] + " " + line[at:], "bad"}, {line[:at] + "\t" + line[at+1:], "bad"}, {line[:at] + line[at+1:], "bad"}})
			}
		}
	}
	told(t, "", []pair{
		{" rule W110", "bad"}, {"rule  W110", "ErrSyntax"}, {"rule W110 ", "ErrSyntax"}, {"rule\tW110", "bad"},
		{" word 1 a", "bad"}, {"word  1 a", "bad"}, {"word 1  a", ""}, {"word 1  b", ""}, {"word 1  c", "ErrSyntax"}, {"word 1 ab ", "ab"}, {"word 2 ab ", "ab"}, {"word 1  ", ""},
	})
}

// TestHowManyWords: X1: a line has as many words as its row says.
func TestHowManyWords(t *testing.T) {
	for _, row := range rows() {
		rule, line := row.line, row.want
		for _, more := range []string{" 1", " 0", " x", " -", " " + line} {
			told(t, rule, []pair{{line + more, "bad"}})
		}
		words := strings.Split(line, " ")
		least := len(words)
		switch words[0] { // edges may be missing: a graph of three places falls apart then, which is an error
		case "settle":
			least = 4
		case "rank":
			least = 3
		}
		for n := 1; n < least; n++ {
			told(t, rule, []pair{{strings.Join(words[:n], " "), "bad"}})
		}
		if least < len(words) {
			told(t, rule, []pair{{strings.Join(words[:least], " "), "ErrShape"}})
		}
	}
	told(t, "", []pair{{"rule", "bad"}, {"word", "bad"}, {"word ", "bad"}, {"word 1", "ErrRange"}})
}

// TestOtherLines: X1: whatever else a line is, is bad.
func TestOtherLines(t *testing.T) {
	for _, line := range []string{"fly", "", " ", "Onto", "ONTO", "ont", "ontoo", "onto.", "one1", "rules W90", "rul W90", "Rule W90", "Step 0 1", "gro 1 1", "run", "settle", "bad", "too long", "#", "onto;one", "onto,", "\xff", "onto\xff", "●", "-", "cycle 0 1", "torus 1", "trees 1"} {
		told(t, "W90", []pair{{line, "bad"}, {"onto", "yes"}})
	}
}

// TestNothingIsKept: P2: what one text sets is not known to the next one, and texts may be answered at one time.
func TestNothingIsKept(t *testing.T) {
	var group sync.WaitGroup
	for range 8 {
		group.Go(func() {
			for _, p := range []pair{{"rule W90\nonto\n", "W90\nyes\n"}, {"onto\n", "ErrRange\n"}, {"parent 1\n", "000/000/111\n"}, {"rule T RL\nwalk 5\n", "T RL\n-1 0 3 3\n"}, {"walk 5\n", "ErrRange\n"}, {"rule W90\nfly\n", "W90\nbad\n"}, {"parent 1\n", "000/000/111\n"}} {
				if got := run.Run(p.line); got != p.want {
					t.Errorf("Run(%q): %q, want %q", p.line, got, p.want)
				}
			}
		})
	}
	group.Wait()
}
