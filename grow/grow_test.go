package grow_test

import (
	"math"
	"slices"
	"strings"
	"testing"

	"eden/api"
	"eden/grow"
	"eden/plain"
)

func thue() []string      { return []string{"ab", "ba"} }
func fibonacci() []string { return []string{"ab", "a"} }
func ternary() []string   { return []string{"abc", "ac", "b"} }

// letters are the first so many.
func letters(n int) string { return "abcdefgh"[:n] }

// same is a substitution of so many letters, each of which becomes the same word.
func same(n int, image string) []string {
	return slices.Repeat([]string{image}, n)
}

// with is a substitution with one of its words put in place of another.
func with(images []string, at int, image string) []string {
	out := slices.Clone(images)
	out[at] = image
	return out
}

// refused asks that each call that goes rounds tells an error, and answers nothing beside it.
func refused(t *testing.T, images []string, word string, n, at int, want api.Errno) {
	t.Helper()
	if s, err := grow.Grow(images, word, n); plain.Told(err) != want || s != "" {
		t.Errorf("Grow(%.60q, %.60q, %d): %.60q, %v, want %v", images, word, n, s, err, want)
	}
	if c, err := grow.Count(images, word, n); plain.Told(err) != want || len(c) != 0 {
		t.Errorf("Count(%.60q, %.60q, %d): %v, %v, want %v", images, word, n, c, err, want)
	}
	if s, err := grow.Letter(images, word, n, at); plain.Told(err) != want || s != "" {
		t.Errorf("Letter(%.60q, %.60q, %d, %d): %.60q, %v, want %v", images, word, n, at, s, err, want)
	}
}

// notChecked asks that Check tells an error, and so does each call that goes rounds, whatever else is wrong.
func notChecked(t *testing.T, images []string, want api.Errno) {
	t.Helper()
	if err := grow.Check(images); plain.Told(err) != want {
		t.Errorf("Check(%.60q): %v, want %v", images, err, want)
	}
	for _, word := range []string{"", "a", "Z", strings.Repeat("a", api.MaxText+1), strings.Repeat("Z", api.MaxText+1)} {
		for _, n := range []int{0, 1, -1, api.MaxDepth + 1} {
			refused(t, images, word, n, 0, want)
			refused(t, images, word, n, -1, want)
		}
	}
}

// checked asks that Check finds nothing wrong, nor do the calls with a word that may be.
func checked(t *testing.T, images []string) {
	t.Helper()
	if err := grow.Check(images); err != nil {
		t.Errorf("Check(%q): %v", images, err)
	}
	for i, image := range images {
		word := string(rune('a' + i))
		if s, err := grow.Grow(images, word, 1); err != nil || s != image {
			t.Errorf("Grow(%q, %q, 1): %q, %v", images, word, s, err)
		}
		if c, err := grow.Count(images, word, 0); err != nil || len(c) != len(images) || c[i] != 1 {
			t.Errorf("Count(%q, %q, 0): %v, %v", images, word, c, err)
		}
		if s, err := grow.Letter(images, word, 0, 0); err != nil || s != word {
			t.Errorf("Letter(%q, %q, 0, 0): %q, %v", images, word, s, err)
		}
	}
}

// TestHowMany: W1: how many words a substitution may have.
func TestHowMany(t *testing.T) {
	for n := 1; n <= api.MaxLetter; n++ {
		checked(t, same(n, ""))
		checked(t, same(n, "a"))
		checked(t, same(n, letters(n)))
	}
	for _, images := range [][]string{nil, {}, same(9, "a"), same(9, ""), same(10, "a"), same(1000, "a"), same(3, "a")[:0]} {
		notChecked(t, images, api.ErrRange)
	}
	// How many there are is named ahead of what they are.
	notChecked(t, same(9, "aaaaaaaaaaaaa"), api.ErrRange)
	notChecked(t, same(9, "z"), api.ErrRange)
	notChecked(t, with(same(9, ""), 8, "i"), api.ErrRange)
}

// TestImages: W1: how many letters a word may have, and which.
func TestImages(t *testing.T) {
	for n := 1; n <= api.MaxLetter; n++ {
		for at := range n {
			for _, long := range []int{0, 1, 11, 12} {
				checked(t, with(same(n, "a"), at, strings.Repeat(letters(n)[n-1:], long)))
			}
			for _, long := range []int{13, 14, 100000} {
				notChecked(t, with(same(n, "a"), at, strings.Repeat("a", long)), api.ErrFull)
				notChecked(t, with(same(n, ""), at, strings.Repeat("z", long)), api.ErrFull)
			}
			for b := range 256 {
				one := string([]byte{byte(b)})
				if strings.Contains(letters(n), one) {
					checked(t, with(same(n, ""), at, one))
					continue
				}
				for _, image := range []string{one, "aaa" + one, one + "aaa", "aaaaaaaaaaa" + one} {
					if err := grow.Check(with(same(n, "a"), at, image)); plain.Told(err) != api.ErrSyntax {
						t.Errorf("Check of %q at %d of %d: %v", image, at, n, err)
					}
				}
			}
			for _, image := range []string{"`", string(rune('a' + n)), "A", " ", "\x00", "\x80", "\xff", "\xc1\xa1", "\u00e4", "\uff41", "\U0001d41a", "a\n", "a b"} {
				notChecked(t, with(same(n, "a"), at, image), api.ErrSyntax)
			}
		}
	}
	// A letter is a byte: seven runes of two bytes are too many, six are not, but none of the letters.
	notChecked(t, []string{strings.Repeat("\u00e4", 7)}, api.ErrFull)
	notChecked(t, []string{strings.Repeat("\u00e4", 6)}, api.ErrSyntax)
	// A letter may be one of those ahead of it, itself, or one of those behind it.
	checked(t, []string{"c", "b", "a"})
}

// TestWordByWord: W1: the first word that is wrong tells its fault, of one word ErrFull first.
func TestWordByWord(t *testing.T) {
	long, bad := strings.Repeat("a", 13), "z"
	both := strings.Repeat("z", 13)
	cases := []struct {
		images []string
		want   api.Errno
	}{
		{[]string{long, bad}, api.ErrFull},
		{[]string{bad, long}, api.ErrSyntax},
		{[]string{"a", bad, long}, api.ErrSyntax},
		{[]string{"a", long, bad}, api.ErrFull},
		{[]string{both, bad}, api.ErrFull},
		{[]string{bad, both}, api.ErrSyntax},
		{[]string{"a", "b", "c", "d", "e", "f", "c" + bad, both}, api.ErrSyntax},
		{[]string{"a", "b", "c", "d", "e", "f", both, "c" + bad}, api.ErrFull},
	}
	for _, c := range cases {
		notChecked(t, c.images, c.want)
	}
}

// TestWords: W1: how many letters a word that grows may have, and which; and how many rounds.
func TestWords(t *testing.T) {
	full := strings.Repeat("a", api.MaxText)
	for n := 1; n <= api.MaxLetter; n++ {
		images := same(n, "a")
		for _, rounds := range []int{0, 1, 59, 60} {
			if s, err := grow.Grow(images, full, rounds); err != nil || s != full {
				t.Errorf("Grow of %d letters: %d, %v", len(full), len(s), err)
			}
			if c, err := grow.Count(images, full, rounds); err != nil || len(c) != n || c[0] != api.MaxText {
				t.Errorf("Count of %d letters: %v, %v", len(full), c, err)
			}
			if s, err := grow.Letter(images, full, rounds, api.MaxText-1); err != nil || s != "a" {
				t.Errorf("Letter of %d letters: %q, %v", len(full), s, err)
			}
		}
		for _, rounds := range []int{0, 60, -1, 61} {
			for _, at := range []int{0, -1, api.MaxText} {
				refused(t, images, full+"a", rounds, at, api.ErrFull)
				refused(t, images, full+"z", rounds, at, api.ErrFull)
				refused(t, images, "z"+full, rounds, at, api.ErrFull)
				refused(t, images, full[1:]+"z", rounds, at, api.ErrSyntax)
				refused(t, images, "`", rounds, at, api.ErrSyntax)
				refused(t, images, string(rune('a'+n)), rounds, at, api.ErrSyntax)
			}
		}
		for b := range 256 {
			if one := string([]byte{byte(b)}); !strings.Contains(letters(n), one) {
				refused(t, images, one, 1, 0, api.ErrSyntax)
				refused(t, images, "aa"+one, 1, 0, api.ErrSyntax)
				refused(t, images, one+"aa", 1, 0, api.ErrSyntax)
			}
		}
	}
	refused(t, thue(), strings.Repeat("\u00e4", api.MaxText/2), 0, 0, api.ErrSyntax)
	refused(t, thue(), strings.Repeat("\u00e4", api.MaxText/2)+"a", 0, 0, api.ErrFull)
}

// TestRounds: W1: how many rounds there may be; that is told ahead of what becomes of them.
func TestRounds(t *testing.T) {
	for _, n := range []int{-1, -2, 61, 62, math.MinInt, math.MaxInt, 1 << 32, -1 << 32} {
		for _, word := range []string{"", "a", "aab", strings.Repeat("a", api.MaxText)} {
			for _, at := range []int{0, -1, 5, math.MaxInt} {
				refused(t, thue(), word, n, at, api.ErrRange)
			}
		}
	}
}

// TestGiven: P2, P4: nothing that is handed in is written into, what lies behind a list's length does not count, and what comes out is fresh.
func TestGiven(t *testing.T) {
	images := append(fibonacci(), "zzzzzzzzzzzzzzzzz", "q")
	kept := slices.Clone(images)
	var before []int
	for range 2 {
		c, err := grow.Count(images[:2], "a", 4)
		if err != nil || !slices.Equal(c, []int{5, 3}) {
			t.Errorf("Count: %v, %v", c, err)
		}
		if before != nil && !slices.Equal(before, []int{-9, -9}) {
			t.Errorf("shared: %v", before)
		}
		c[0], c[1] = -9, -9
		before = c
		if s, err := grow.Grow(images[:2], "a", 4); err != nil || s != "abaababa" {
			t.Errorf("Grow: %q, %v", s, err)
		}
		if s, err := grow.Letter(images[:2], "a", 4, 6); err != nil || s != "b" {
			t.Errorf("Letter: %q, %v", s, err)
		}
	}
	if !slices.Equal(images, kept) {
		t.Errorf("written into: %q", images)
	}
}
