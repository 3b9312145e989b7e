package grow_test

import (
	"fmt"
	"math/rand"
	"strings"
	"testing"

	"eden/api"
	"eden/grow"
)

// slowTwice tries all ends, and of each all lengths.
func slowTwice(text string, more int) (int, int, bool) {
	for end := range len(text) + 1 {
		for long := 1; 2*long+more <= end; long++ {
			piece := text[end-2*long-more : end]
			if piece[long:] == piece[:long+more] {
				return end - 2*long - more, long, true
			}
		}
	}
	return 0, 0, false
}

// asTold holds Square and Overlap against all ends and lengths.
func asTold(t *testing.T, text string) {
	t.Helper()
	begin, long, ok := slowTwice(text, 0)
	if b, n, is := grow.Square(text); b != begin || n != long || is != ok {
		t.Errorf("Square(%.80q): %d, %d, %v, want %d, %d, %v", text, b, n, is, begin, long, ok)
	}
	begin, long, ok = slowTwice(text, 1)
	if b, n, is := grow.Overlap(text); b != begin || n != long || is != ok {
		t.Errorf("Overlap(%.80q): %d, %d, %v, want %d, %d, %v", text, b, n, is, begin, long, ok)
	}
}

// noSquare and noOverlap ask that there is none, and nothing is told beside it.
func noSquare(t *testing.T, text string) {
	t.Helper()
	if b, n, is := grow.Square(text); b != 0 || n != 0 || is {
		t.Errorf("Square of %d bytes, %.40q: %d, %d, %v", len(text), text, b, n, is)
	}
}

func noOverlap(t *testing.T, text string) {
	t.Helper()
	if b, n, is := grow.Overlap(text); b != 0 || n != 0 || is {
		t.Errorf("Overlap of %d bytes, %.40q: %d, %d, %v", len(text), text, b, n, is)
	}
}

// TestTwiceKnown: W3: the least end, of these the shortest, of any bytes.
func TestTwiceKnown(t *testing.T) {
	cases := []struct{ text, square, overlap string }{
		{"abcbcb", "1 2 true", "1 2 true"},
		{"", "0 0 false", "0 0 false"},
		{"a", "0 0 false", "0 0 false"},
		{"aa", "0 1 true", "0 0 false"},
		{"aaa", "0 1 true", "0 1 true"},
		{"aaaaaaa", "0 1 true", "0 1 true"},
		{"ab", "0 0 false", "0 0 false"},
		{"aba", "0 0 false", "0 0 false"},
		{"abab", "0 2 true", "0 0 false"},
		{"ababa", "0 2 true", "0 2 true"},
		{"abcabc", "0 3 true", "0 0 false"},
		{"abcabca", "0 3 true", "0 3 true"},
		{"abcabcc", "0 3 true", "0 0 false"}, // the longer one ends sooner
		{"abcabcaaa", "0 3 true", "0 3 true"},
		{"abbabbb", "1 1 true", "4 1 true"},
		{"abaabaa", "2 1 true", "0 3 true"},
		{"abcaabcaa", "3 1 true", "0 4 true"},
		{"xyaabaabaa", "2 1 true", "2 3 true"},
		{"xyzxyzz", "0 3 true", "0 0 false"},
		{"abcdefgg", "6 1 true", "0 0 false"},
		{"\x00\x00", "0 1 true", "0 0 false"},
		{"\xff\xfe\xff\xfe\xff", "0 2 true", "0 2 true"},
		{"\xc3\xc3", "0 1 true", "0 0 false"},
		{"\u00e4\u00e4", "0 2 true", "0 0 false"}, // a rune of two bytes
		{"\u00e4\u00f6", "0 0 false", "0 0 false"},
		{"\u00e4\u00e4\u00f6", "0 2 true", "0 2 true"}, // both runes begin with the same byte
		{"Z Z \n", "0 2 true", "0 0 false"},
		{"Z Z\n", "0 0 false", "0 0 false"},
	}
	for _, c := range cases {
		asTold(t, c.text)
		if s := fmt.Sprint(grow.Square(c.text)); s != c.square {
			t.Errorf("Square(%q): %s, want %s", c.text, s, c.square)
		}
		if s := fmt.Sprint(grow.Overlap(c.text)); s != c.overlap {
			t.Errorf("Overlap(%q): %s, want %s", c.text, s, c.overlap)
		}
	}
}

// TestTwiceAll: W3: all short texts of two, three and four letters, and longer ones at random.
func TestTwiceAll(t *testing.T) {
	for _, c := range []struct{ letters, long int }{{2, 12}, {3, 8}, {4, 6}} {
		all := []string{""}
		for len(all) > 0 {
			asTold(t, all[0])
			if len(all[0]) < c.long {
				for i := range c.letters {
					all = append(all, all[0]+string(rune('a'+i)))
				}
			}
			all = all[1:]
		}
	}
	random := rand.New(rand.NewSource(4))
	for range 2000 {
		text := make([]byte, random.Intn(120))
		kinds := 1 + random.Intn(256)
		for i := range text {
			text[i] = byte(random.Intn(kinds))
		}
		asTold(t, string(text))
	}
}

// TestTwiceLaid: W3: pieces of words that have none, so that what is found is long, and stands far behind.
func TestTwiceLaid(t *testing.T) {
	random := rand.New(rand.NewSource(5))
	morse, free := grown(t, thue(), "a", 12), grown(t, ternary(), "a", 11)
	piece := func(of string, long int) string {
		at := random.Intn(len(of) - long)
		return of[at : at+long]
	}
	for range 300 {
		word := piece(free, 1+random.Intn(80))
		asTold(t, piece(free, random.Intn(200))+word+word+word[:1]+piece(free, random.Intn(30)))
		word = piece(morse, 1+random.Intn(80))
		asTold(t, piece(morse, random.Intn(200))+word+word+word[:1]+piece(morse, random.Intn(30)))
		asTold(t, piece(morse, random.Intn(100))+piece(free, random.Intn(100)))
	}
}

// TestThueMorse: W4: no word that grows of a has an Overlap, nor has a piece of one.
func TestThueMorse(t *testing.T) {
	for n := range 16 {
		noOverlap(t, grown(t, thue(), "a", n))
		noOverlap(t, grown(t, thue(), "b", n))
	}
	for n := range 8 {
		word := grown(t, thue(), "a", n)
		for at := range len(word) {
			noOverlap(t, word[at:])
			noOverlap(t, word[:at])
		}
	}
	if s := fmt.Sprint(grow.Square(grown(t, thue(), "a", 15))); s != "1 1 true" {
		t.Errorf("Square: %s", s)
	}
}

// TestThue: W4: no word that grows of a has a Square, nor has a piece of one.
func TestThue(t *testing.T) {
	for n := range 15 {
		word := grown(t, ternary(), "a", n)
		noSquare(t, word)
		noOverlap(t, word)
	}
	for n := range 7 {
		word := grown(t, ternary(), "a", n)
		for at := range len(word) {
			noSquare(t, word[at:])
			noSquare(t, word[:at])
		}
	}
}

// TestTwiceLong: W3, W4: texts of 40000 bytes are looked at to their end, and of longer ones none is told.
func TestTwiceLong(t *testing.T) {
	free := (grown(t, ternary(), "a", 14) + grown(t, ternary(), "b", 14))[:api.MaxText]
	morse := (grown(t, thue(), "a", 15) + grown(t, thue(), "b", 15))[:api.MaxText]
	noSquare(t, free)
	noOverlap(t, free)
	noOverlap(t, morse)
	half, less := "x"+free[:19999], "x"+free[:19998]
	for _, c := range []struct{ text, square, overlap string }{
		{strings.Repeat("a", 40000), "0 1 true", "0 1 true"},
		{strings.Repeat("a", 40001), "0 0 false", "0 0 false"},
		{strings.Repeat("ab", 40000), "0 0 false", "0 0 false"},
		{free[:39998] + "xx", "39998 1 true", "0 0 false"},
		{free[:39997] + "xxx", "39997 1 true", "39997 1 true"},
		{free[:39999] + "xx", "0 0 false", "0 0 false"},
		{morse[:39997] + "xxx", "1 1 true", "39997 1 true"},
		{half + half, "0 20000 true", "0 0 false"},
		{less + less + "x", "0 19999 true", "0 19999 true"},
		{"y" + less + less + "x", "1 19999 true", "1 19999 true"},
		{"y" + half + half, "0 0 false", "0 0 false"},
	} {
		if s := fmt.Sprint(grow.Square(c.text)); s != c.square {
			t.Errorf("Square of %d bytes, %.20q: %s, want %s", len(c.text), c.text, s, c.square)
		}
		if s := fmt.Sprint(grow.Overlap(c.text)); s != c.overlap {
			t.Errorf("Overlap of %d bytes, %.20q: %s, want %s", len(c.text), c.text, s, c.overlap)
		}
	}
}
