package run_test

import (
	"strings"
	"testing"
)

// TestRule: X1: a rule is told by Print, and holds for all lines behind it; a text that is none changes nothing.
func TestRule(t *testing.T) {
	wide := "L 4 2 " + strings.Repeat("0123", 256)
	says(t, []string{"rule B3/S23", "rule W0", "rule W255", "rule L 3 0 120", "rule T RL", "rule B/S", "rule B012345678/S012345678", "rule " + wide, "rule T " + strings.Repeat("LR", 13)},
		[]string{"B3/S23", "W0", "W255", "L 3 0 120", "T RL", "B/S", "B012345678/S012345678", wide, "T " + strings.Repeat("LR", 13)})
	// The one text that Print does not give back.
	says(t, []string{"rule L 2 1 01110110", "step 0010 1"}, []string{"W110", "0110"})
	for _, text := range []string{"", " ", "W", "W256", "W01", "w90", " W90", "W90 ", "W90 W90", "B32/S", "B3/S9", "B3", "L 2 0 1", "L 5 0 01234", "L 2 3 0", "L 3 0 12", "T", "T ", "T RLo", "T " + strings.Repeat("R", 27), "x", "\xff", "rule W90"} {
		says(t, []string{"rule W90", "rule " + text, "step 0001000 2", "onto", "one"}, []string{"W90", "ErrSyntax", "0100010", "yes", "no"})
		says(t, []string{"rule " + text, "again 111 2"}, []string{"ErrSyntax", "2 0 0"})
	}
	says(t, []string{"rule", "rule W110", "rule", "onto", "rule W90", "onto", "rule W110", "onto"}, []string{"bad", "W110", "bad", "no 01010", "W90", "yes", "W110", "no 01010"})
}

// TestFirstRule: X1: at first the rule is B3/S23, and what needs another kind of rule says so.
func TestFirstRule(t *testing.T) {
	says(t, []string{"again 010/001/111 8", "grow 1/1/1 1", "grow 11/11 5", "grow 11/11/11 1", "grow 1111 1", "grow 11 1"}, []string{"4 1 1", "111 -1 1", "11/11 0 0", "0110/1001/0110 -1 0", "11/11/11 1 -1", "- 0 0"})
	says(t, []string{"step 0 0", "onto", "one", "walk 0"}, []string{"ErrRange", "ErrRange", "ErrRange", "ErrRange"})
}

// TestOtherKinds: X1: a line that needs another kind of rule than there is; what it says is read nevertheless.
func TestOtherKinds(t *testing.T) {
	life := []pair{{"grow 1 0", "ErrRange"}, {"again 1 1", "ErrRange"}, {"parent 1", "ErrRange"}, {"jump 1 0", "ErrRange"}, {"grow 2 0", "bad"}, {"again 1 01", "bad"}, {"parent 1/11", "bad"}, {"jump 1 13", "bad"}}
	line := []pair{{"step 0 0", "ErrRange"}, {"onto", "ErrRange"}, {"one", "ErrRange"}, {"step 4 0", "bad"}, {"onto 1", "bad"}, {"one 1", "bad"}}
	walker := []pair{{"walk 0", "ErrRange"}, {"walk -1", "bad"}}
	told(t, "B3/S23", append(line, walker...))
	told(t, "W90", append(life, walker...))
	told(t, "T RL", append(life, line...))
	// And these need none.
	for _, rule := range []string{"B3/S23", "W90", "T RL"} {
		told(t, rule, []pair{{"settle 0 0,2,1 3 0-1:1 1-2:1 2-0:1", "0,1,0"}, {"rank 1,0,0 3 0-1:1 1-2:1 2-0:1", "0"}, {"word 4 ab a", "abaababa"}})
	}
}

// TestStep: X1: a word is digits from 0 to 3, at least one, and is told likewise.
func TestStep(t *testing.T) {
	long := strings.Repeat("01", 500)
	told(t, "W110", []pair{
		{"step 0010 1", "0110"}, {"step 0010 0", "0010"}, {"step 01 2", "00"}, {"step 1 1", "0"}, {"step 0 100000", "0"}, {"step 0 100001", "ErrRange"}, {"step 0 999999999", "ErrRange"},
		{"step 2 1", "ErrRange"}, {"step 3 0", "ErrRange"}, {"step 0123 1", "ErrRange"},
		{"step 4 1", "bad"}, {"step 04 1", "bad"}, {"step 01/10 1", "bad"}, {"step  1", "bad"}, {"step 0,1 1", "bad"}, {"step -1 1", "bad"}, {"step 0a 1", "bad"}, {"step / 1", "bad"},
		{"step 01 -1", "bad"}, {"step 01 01", "bad"}, {"step 01 1000000000", "bad"}, {"step 01 x", "bad"}, {"step 01 ", "bad"},
		{"step " + long + " 0", long}, {"step " + long + "0 0", "ErrFull"}, {"step " + long + "2 0", "ErrFull"}, {"step " + long[1:] + "2 0", "ErrRange"},
	})
	told(t, "L 4 0 1230", []pair{{"step 0123 1", "1230"}, {"step 0123 2", "2301"}, {"step 0123 4", "0123"}, {"step 3 3", "2"}})
	told(t, "L 3 0 120", []pair{{"step 012 1", "120"}, {"step 0123 1", "ErrRange"}})
}

// TestOntoOne: X1: yes, or no, of onto with the orphan.
func TestOntoOne(t *testing.T) {
	told(t, "W110", []pair{{"onto", "no 01010"}, {"one", "no"}})
	told(t, "W90", []pair{{"onto", "yes"}, {"one", "no"}})
	told(t, "W170", []pair{{"onto", "yes"}, {"one", "yes"}})
	told(t, "W0", []pair{{"onto", "no 1"}, {"one", "no"}})
	told(t, "W255", []pair{{"onto", "no 0"}, {"one", "no"}})
	told(t, "L 3 0 120", []pair{{"onto", "yes"}, {"one", "yes"}})
	told(t, "L 4 0 0012", []pair{{"onto", "no 3"}, {"one", "no"}})
	told(t, "L 4 1 "+strings.Repeat("0123", 16), []pair{{"onto", "yes"}, {"one", "yes"}})
	told(t, "L 3 2 "+strings.Repeat("012", 81), []pair{{"onto", "ErrFull"}, {"one", "ErrFull"}})
}

// TestGrow: X1: the pattern, or a dash, and how far away it is.
func TestGrow(t *testing.T) {
	side := strings.Repeat("0", 99) + "1"
	told(t, "B3/S23", []pair{
		{"grow 111 1", "1/1/1 1 -1"}, {"grow 010/001/111 400", "010/001/111 100 100"}, {"grow 010/001/111 100000", "010/001/111 25000 25000"}, {"grow 010/001/111 100001", "ErrRange"},
		{"grow 1 1", "- 0 0"}, {"grow 1 0", "1 0 0"}, {"grow 0 0", "- 0 0"}, {"grow 000/000 5", "- 0 0"}, {"grow 0000/0011/0011 9", "11/11 2 1"},
		{"grow " + side + " 0", "1 99 0"}, {"grow 0" + side + " 0", "ErrRange"}, {"grow " + strings.Repeat("0/", 99) + "1 0", "1 0 99"}, {"grow " + strings.Repeat("0/", 100) + "1 0", "ErrRange"},
	})
	told(t, "B1/S", []pair{{"grow 1 1", "111/101/111 -1 -1"}, {"grow 1 50", "ErrFull"}})
	told(t, "B0/S", []pair{{"grow 1 0", "ErrRange"}})
	told(t, "", wrongPatterns("grow", " 1"))
}

// wrongPatterns are lines whose pattern cannot be read.
func wrongPatterns(name, behind string) []pair {
	var out []pair
	for _, p := range []string{"", "/", "//", "1/", "/1", "1//1", "11/1", "1/11", "11/11/1", "2", "12", "1/2", "a", "1,1", "1 1", "-", "1-1", "·", "11·11", "●", "1|1", "0x1", "1\\1", "bo$3o!", "1\x00"} {
		out = append(out, pair{name + " " + p + behind, "bad"})
	}
	return out
}

// wrongNumbers are lines that end with a number that cannot be read.
func wrongNumbers(ahead string) []pair {
	var out []pair
	for _, n := range []string{"", "00", "01", "007", "-1", "-0", "+1", "1.0", "1,1", "1e1", "0x1", "1_0", "a", "1a", "a1", "·", "1000000000", "0000000001", "9223372036854775808", "18446744073709551617", "340282366920938463463374607431768211457"} {
		out = append(out, pair{ahead + n, "bad"})
	}
	return out
}

// TestNumbers: X1: a number has no needless 0, no sign, and at most nine digits; one of nine is read, and then too great.
func TestNumbers(t *testing.T) {
	for _, ahead := range []string{"step 0 ", "grow 1 ", "again 1 ", "jump 1 ", "walk ", "settle 0 0 ", "rank 0 ", "word "} {
		told(t, "", wrongNumbers(ahead))
	}
	told(t, "", []pair{{"grow 1 999999999", "ErrRange"}, {"again 1 999999999", "ErrRange"}, {"jump 1 999999999", "bad"}, {"word 999999999 a", "ErrRange"}, {"settle 0 0 999999999", "ErrRange"}, {"settle 999999999 0 1", "ErrRange"}, {"rank 0 999999999", "ErrRange"}})
	told(t, "T RL", []pair{{"walk 999999999", "ErrRange"}})
	told(t, "W90", []pair{{"step 0 999999999", "ErrRange"}})
}

// TestAgain: X1: Period, Right, Down.
func TestAgain(t *testing.T) {
	told(t, "B3/S23", []pair{
		{"again 010/001/111 8", "4 1 1"}, {"again 010/001/111 4", "4 1 1"}, {"again 010/001/111 3", "ErrNone"}, {"again 111 2", "2 0 0"}, {"again 11/11 1", "1 0 0"}, {"again 111/100/010 4", "4 -1 -1"},
		{"again 10010/00001/10001/01111 4", "4 2 0"}, {"again 0101/1000/1000/1001/1110 4", "4 0 2"},
		{"again 0 1", "ErrNone"}, {"again 111 0", "ErrRange"}, {"again 111 64", "2 0 0"}, {"again 111 65", "ErrRange"},
	})
	told(t, "B1/S", []pair{{"again 1 49", "ErrNone"}, {"again 1 64", "ErrFull"}})
	told(t, "B0/S", []pair{{"again 1 1", "ErrRange"}})
	told(t, "", wrongPatterns("again", " 1"))
}

// TestParent: X1: the pattern alone.
func TestParent(t *testing.T) {
	told(t, "B3/S23", []pair{
		{"parent 1", "000/000/111"}, {"parent 0", "000/000/000"}, {"parent 00/00", "0000/0000/0000/0000"}, {"parent 111111", "ErrFull"}, {"parent 1/1/1/1/1/1", "ErrFull"}, {"parent 00000", "0000000/0000000/0000000"},
		{"parent " + strings.Repeat("0", 101), "ErrRange"},
	})
	told(t, "B/S", []pair{{"parent 1", "ErrNone"}, {"parent 0", "000/000/000"}})
	told(t, "B0/S", []pair{{"parent 1", "000/000/000"}})
	told(t, "", wrongPatterns("parent", ""))
}

// TestJump: X1: how many live, and the box, behind a jump of up to 12.
func TestJump(t *testing.T) {
	told(t, "B3/S23", []pair{
		{"jump 010/001/111 0", "5 0 1 3 3"}, {"jump 010/001/111 2", "5 1 1 3 3"}, {"jump 010/001/111 11", "5 512 512 3 3"}, {"jump 010/001/111 12", "5 1024 1024 3 3"}, {"jump 010/001/111 13", "bad"}, {"jump 010/001/111 40", "bad"}, {"jump 010/001/111 41", "bad"},
		{"jump 1 0", "0 0 0 0 0"}, {"jump 0 12", "0 0 0 0 0"}, {"jump 0 13", "bad"}, {"jump 111 0", "3 1 -1 1 3"}, {"jump 000/011/011 5", "4 1 1 2 2"},
		{"jump " + strings.Repeat("0", 100) + " 1", "0 0 0 0 0"}, {"jump " + strings.Repeat("0", 101) + " 1", "ErrRange"}, {"jump " + strings.Repeat("0", 101) + " 13", "bad"},
	})
	told(t, "B1357/S1357", []pair{{"jump 1 12", "8 -4096 -4096 8193 8193"}})
	told(t, "B0/S", []pair{{"jump 1 1", "ErrRange"}, {"jump 1 13", "bad"}})
	told(t, "", wrongPatterns("jump", " 1"))
}

// TestWalk: X1: where the walker is, where it faces, and how many spots there are.
func TestWalk(t *testing.T) {
	told(t, "T RL", []pair{{"walk 0", "0 0 0 0"}, {"walk 1", "1 0 1 1"}, {"walk 2", "1 1 2 2"}, {"walk 4", "0 0 0 4"}, {"walk 5", "-1 0 3 3"}, {"walk 100001", "ErrRange"}})
	told(t, "T L", []pair{{"walk 1", "-1 0 3 0"}, {"walk 3", "0 1 1 0"}, {"walk 100000", "0 0 0 0"}})
	told(t, "T LR", []pair{{"walk 1", "-1 0 3 1"}, {"walk 5", "1 0 1 3"}})
}

// TestSettle: X1: the chips, with commas between.
func TestSettle(t *testing.T) {
	ring := " 3 0-1:1 1-2:1 2-0:1"
	told(t, "", []pair{
		{"settle 0 0,2,1" + ring, "0,1,0"}, {"settle 1 2,0,1" + ring, "1,0,0"}, {"settle 2 0,0,0" + ring, "0,0,0"}, {"settle 0 0 1", "0"}, {"settle 0 0,10000 2 0-1:100", "0,0"}, {"settle 0 0,10000 2 0-1:99", "0,1"}, {"settle 0 0,12 2 0-1:10", "0,2"},
		{"settle 3 0,2,1" + ring, "ErrRange"}, {"settle 0 0,2" + ring, "ErrShape"}, {"settle 0 0,2,1,1" + ring, "ErrShape"}, {"settle 0 1,2,1" + ring, "ErrRange"}, {"settle 0 0,10001,1" + ring, "ErrRange"}, {"settle 0 0,999999999,1" + ring, "ErrRange"},
		{"settle 0 0 0", "ErrRange"}, {"settle 0 0 11", "ErrRange"}, {"settle 0 0,0 2", "ErrShape"}, {"settle 0 0,0 2 0-1:0", "ErrRange"}, {"settle 0 0,0 2 0-1:101", "ErrRange"}, {"settle 0 0,0 2 0-2:1", "ErrRange"}, {"settle 0 0,0 2 1-1:1", "ErrRange"}, {"settle 0 0,0 2 999999999-1:1", "ErrRange"},
		{"settle 0 0,45 2" + strings.Repeat(" 0-1:1", 40), "0,5"}, {"settle 0 0,45 2" + strings.Repeat(" 0-1:1", 41), "ErrFull"},
		{"settle  0,2,1" + ring, "bad"}, {"settle -0 0,2,1" + ring, "bad"}, {"settle 00 0,2,1" + ring, "bad"}, {"settle x 0,2,1" + ring, "bad"},
		{"settle 0 0,2,1 3x 0-1:1 1-2:1 2-0:1", "bad"}, {"settle 0 0,2,1 03 0-1:1 1-2:1 2-0:1", "bad"}, {"settle 0 0,2,1 0-1:1 1-2:1 2-0:1", "bad"}, {"settle 0 0,-2,1" + ring, "bad"},
	})
	told(t, "", wrongLists("settle 0 ", " 3 0-1:1 1-2:1 2-0:1"))
	told(t, "", wrongEdges("settle 0 0,2,1 3 0-1:1 1-2:1"))
}

// wrongLists are lines with numbers that cannot be read, whether they may be below 0 or not.
func wrongLists(ahead, behind string) []pair {
	var out []pair
	for _, numbers := range []string{"", ",", "0,", ",0", "0,,1", "0,2,1,", ",0,2,1", "0,02,1", "0,2,01", "00,2,1", "0,2,x", "0,2,1000000000", "0;2;1", "0,+2,1", "0,--2,1", "0,2-,1", "0,-,1", "-", "0,-02,1", "0,-0,1", "-1000000000,2,1", "0, 2,1", "0.2.1", "0,2,·"} {
		out = append(out, pair{ahead + numbers + behind, "bad"})
	}
	return out
}

// wrongEdges are lines with an edge that cannot be read, at the end and ahead of one that can be.
func wrongEdges(ahead string) []pair {
	var out []pair
	for _, edge := range []string{"", "2", "2-0", "2-0:", "2:0-1", "-0:1", "2-:1", "2-0:1:1", "2-0-1", "2-0-1:1", "2--0:1", "-2-0:1", "2-0:-1", "02-0:1", "2-00:1", "2-0:01", "2-0:1,", "x-0:1", "2-x:1", "2-0:x", "2-0:1000000000", "1000000000-0:1", "2-1000000000:1", "2_0:1", "2-0;1", "20:1", "2-01", "2-0:●1", ":", "-", "-:", ":1-2"} {
		out = append(out, pair{ahead + " " + edge, "bad"}, pair{ahead + " " + edge + " 2-0:1", "bad"})
	}
	return out
}

// TestRank: X1: the number alone, of a divisor whose numbers may be below 0.
func TestRank(t *testing.T) {
	ring := " 3 0-1:1 1-2:1 2-0:1"
	told(t, "", []pair{
		{"rank 1,0,0" + ring, "0"}, {"rank 1,-1,0" + ring, "-1"}, {"rank 0,0,0" + ring, "0"}, {"rank -1,-1,3" + ring, "0"}, {"rank 3,0,0" + ring, "2"}, {"rank 2,2,-1" + ring, "2"}, {"rank -1,0,0" + ring, "-1"}, {"rank 0 1", "0"}, {"rank 12 1", "12"}, {"rank 13 1", "ErrFull"}, {"rank -1 1", "-1"}, {"rank -1000 1", "-1"}, {"rank 1000,-1000 2 0-1:1", "0"},
		{"rank -1001 1", "ErrRange"}, {"rank 1001 1", "ErrRange"}, {"rank -999999999 1", "ErrRange"}, {"rank 999999999 1", "ErrRange"}, {"rank 1,0" + ring, "ErrShape"}, {"rank 1,0,0,0" + ring, "ErrShape"}, {"rank 0 0", "ErrRange"}, {"rank 0,0 2", "ErrShape"}, {"rank 0,0 2 0-1:101", "ErrRange"},
		{"rank 0,0,0,0,0,0 6 0-1:1 0-2:1 0-3:1 0-4:1 0-5:1", "0"}, {"rank 0,0,0,0,0,0,0 7 0-1:1 0-2:1 0-3:1 0-4:1 0-5:1 0-6:1", "ErrFull"},
		{"rank 0,0 2" + strings.Repeat(" 0-1:1", 41), "ErrFull"},
		{"rank 1,0,0 -3 0-1:1 1-2:1 2-0:1", "bad"}, {"rank 1,0,0 0-1:1 1-2:1 2-0:1", "bad"}, {"rank -0 1", "bad"}, {"rank 0,-0 2 0-1:1", "bad"},
	})
	told(t, "", wrongLists("rank ", " 3 0-1:1 1-2:1 2-0:1"))
	told(t, "", wrongEdges("rank 1,0,0 3 0-1:1 1-2:1"))
}

// TestWord: X1: what grows of a, by words that may be empty, of which there may be none.
func TestWord(t *testing.T) {
	told(t, "", []pair{
		{"word 4 ab a", "abaababa"}, {"word 0 ab a", "a"}, {"word 3 ab ba", "abbabaab"}, {"word 2 abc ac b", "abcacb"}, {"word 60 a", "a"}, {"word 61 a", "ErrRange"},
		{"word 0", "ErrRange"}, {"word 61", "ErrRange"}, {"word 0 ", "a"}, {"word 1 ", ""}, {"word 60 ", ""}, {"word 1 b ", "b"}, {"word 2 b ", ""}, {"word 2 bc  a", "a"}, {"word 1 bc  a", "bc"}, {"word 1   ", ""},
		{"word 1 A", "ErrSyntax"}, {"word 1 b", "ErrSyntax"}, {"word 1 a c", "ErrSyntax"}, {"word 1 1", "ErrSyntax"}, {"word 1 a/a", "ErrSyntax"}, {"word 1 ·", "ErrSyntax"}, {"word 1 \xff", "ErrSyntax"}, {"word 1 a\t", "ErrSyntax"},
		{"word 1 h a a a a a a a", "h"}, {"word 1 a a a a a a a a a", "ErrRange"}, {"word 1" + strings.Repeat(" ", 8), ""}, {"word 1" + strings.Repeat(" ", 9), "ErrRange"},
		{"word 1 " + strings.Repeat("a", 12), strings.Repeat("a", 12)}, {"word 1 " + strings.Repeat("a", 13), "ErrFull"}, {"word 15 aa", strings.Repeat("a", 1<<15)}, {"word 16 aa", "ErrFull"},
		{"word a ab a", "bad"}, {"word -1 ab", "bad"}, {"word 04 ab", "bad"}, {"word 1000000000 ab", "bad"}, {"word ab a", "bad"}, {"word  ab", "bad"},
	})
}
