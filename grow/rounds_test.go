package grow_test

import (
	"math"
	"math/big"
	"math/bits"
	"math/rand"
	"slices"
	"strings"
	"testing"

	"eden/api"
	"eden/grow"
	"eden/plain"
)

const mostGrown = 1_000_000_000_000_000_000 // the most letters of a word that is counted

// anySubstitution has so many letters, and words of up to so many.
func anySubstitution(random *rand.Rand, n, long int) []string {
	out := make([]string, n)
	for i := range out {
		out[i] = anyWord(random, n, random.Intn(long+1))
	}
	return out
}

func anyWord(random *rand.Rand, n, long int) string {
	out := make([]byte, long)
	for i := range out {
		out[i] = byte('a' + random.Intn(n))
	}
	return string(out)
}

// slowly writes a word behind n rounds down, letter by letter; false: one on the way has more than 40000.
func slowly(images []string, word string, n int) (string, bool) {
	for range n {
		var next []byte
		for i := range len(word) {
			next = append(next, images[word[i]-'a']...)
		}
		if word = string(next); len(word) > 40000 {
			return "", false
		}
	}
	return word, true
}

// bigCounts are the counts of letters behind 0 rounds up to n, however great.
func bigCounts(images []string, word string, n int) [][]*big.Int {
	now := make([]*big.Int, len(images))
	for i := range now {
		now[i] = big.NewInt(int64(strings.Count(word, string(rune('a'+i)))))
	}
	out := [][]*big.Int{now}
	for range n {
		next := make([]*big.Int, len(images))
		for i := range next {
			next[i] = new(big.Int)
			for from, image := range images {
				times := big.NewInt(int64(strings.Count(image, string(rune('a'+i)))))
				next[i].Add(next[i], times.Mul(times, now[from]))
			}
		}
		now = next
		out = append(out, now)
	}
	return out
}

func bigSum(numbers []*big.Int) *big.Int {
	out := new(big.Int)
	for _, n := range numbers {
		out.Add(out, n)
	}
	return out
}

// grown is a word behind n rounds, which must be one.
func grown(t *testing.T, images []string, word string, n int) string {
	t.Helper()
	s, err := grow.Grow(images, word, n)
	if err != nil {
		t.Fatalf("Grow(%q, %.60q, %d): %v", images, word, n, err)
	}
	return s
}

// growTells, countTells and letterTells ask for an error, and for nothing beside it.
func growTells(t *testing.T, images []string, word string, n int, want api.Errno) {
	t.Helper()
	if s, err := grow.Grow(images, word, n); plain.Told(err) != want || err != nil && s != "" {
		t.Errorf("Grow(%q, %.60q, %d): %.60q, %v, want %v", images, word, n, s, err, want)
	}
}

func countTells(t *testing.T, images []string, word string, n int, want api.Errno) {
	t.Helper()
	if c, err := grow.Count(images, word, n); plain.Told(err) != want || err != nil && len(c) != 0 {
		t.Errorf("Count(%q, %.60q, %d): %v, %v, want %v", images, word, n, c, err, want)
	}
}

func letterTells(t *testing.T, images []string, word string, n, at int, want api.Errno) {
	t.Helper()
	if s, err := grow.Letter(images, word, n, at); plain.Told(err) != want || err != nil && s != "" || err == nil && len(s) != 1 {
		t.Errorf("Letter(%q, %.60q, %d, %d): %q, %v, want %v", images, word, n, at, s, err, want)
	}
}

// TestTable: the document's examples.
func TestTable(t *testing.T) {
	if s, err := grow.Grow(fibonacci(), "a", 4); err != nil || s != "abaababa" {
		t.Errorf("Grow: %q, %v", s, err)
	}
	if c, err := grow.Count(fibonacci(), "a", 50); err != nil || !slices.Equal(c, []int{20365011074, 12586269025}) {
		t.Errorf("Count: %v, %v", c, err)
	}
	if s, err := grow.Letter(fibonacci(), "a", 4, 6); err != nil || s != "b" {
		t.Errorf("Letter: %q, %v", s, err)
	}
}

// TestGrowKnown: W2: no rounds, no letters, letters that become nothing.
func TestGrowKnown(t *testing.T) {
	cases := []struct {
		images []string
		word   string
		n      int
		want   string
	}{
		{thue(), "abba", 0, "abba"},
		{thue(), "", 0, ""},
		{thue(), "", 60, ""},
		{[]string{""}, "", 60, ""},
		{[]string{""}, "aaa", 0, "aaa"},
		{[]string{""}, "aaa", 1, ""},
		{[]string{""}, "aaa", 60, ""},
		{[]string{"a"}, "aaa", 60, "aaa"},
		{[]string{"b", "c", ""}, "abc", 1, "bc"},
		{[]string{"b", "c", ""}, "abc", 2, "c"},
		{[]string{"b", "c", ""}, "abc", 3, ""},
		{[]string{"b", "c", "a"}, "abc", 1, "bca"},
		{[]string{"b", "c", "a"}, "abc", 60, "abc"},
		{[]string{"ab", ""}, "a", 60, "ab"},
		{[]string{"a", "ab"}, "b", 60, strings.Repeat("a", 60) + "b"},
		{thue(), "a", 3, "abbabaab"},
		{ternary(), "a", 3, "abcacbabcbac"},
		{[]string{"b", "c", "d", "e", "f", "g", "h", "abcdefgh"}, "h", 2, "bcdefghabcdefgh"},
	}
	for _, c := range cases {
		if s, err := grow.Grow(c.images, c.word, c.n); err != nil || s != c.want {
			t.Errorf("Grow(%q, %q, %d): %q, %v, want %q", c.images, c.word, c.n, s, err, c.want)
		}
	}
}

// TestGrowFull: W2: words of just 40000 letters, and of more, at the end and on the way.
func TestGrowFull(t *testing.T) {
	images := []string{"bbbbbbbbbb", "", "c", "bbbbbbbbbbbb"}
	full, over := strings.Repeat("a", 4000), strings.Repeat("a", 4001)
	if s := grown(t, images, full, 1); s != strings.Repeat("b", 40000) {
		t.Errorf("%d letters", len(s))
	}
	if s := grown(t, images, full, 2); s != "" {
		t.Errorf("%d letters", len(s))
	}
	for n := 1; n <= api.MaxDepth; n++ {
		growTells(t, images, full, n, api.OK)
		growTells(t, images, over, n, api.ErrFull) // behind the second round nothing would be left
		growTells(t, images, full+"c", n, api.ErrFull)
		growTells(t, images, full[:3999]+"cccccccccc", n, api.OK)
		growTells(t, images, strings.Repeat("d", 3334), n, api.ErrFull)
		growTells(t, images, strings.Repeat("d", 40000), n, api.ErrFull)
		growTells(t, images, strings.Repeat("d", 3333)+"cccc", n, api.OK)
		growTells(t, images, strings.Repeat("d", 3333)+"ccccc", n, api.ErrFull)
	}
	growTells(t, images, strings.Repeat("d", 40000), 0, api.OK)
	growTells(t, []string{"a"}, strings.Repeat("a", 40000), 60, api.OK)
	// A letter more each round: the last round alone is one too many.
	turns := []string{"b", "a", "ca"}
	growTells(t, turns, "c"+strings.Repeat("a", 39939), 60, api.OK)
	growTells(t, turns, "c"+strings.Repeat("a", 39940), 59, api.OK)
	growTells(t, turns, "c"+strings.Repeat("a", 39940), 60, api.ErrFull)
	if s := grown(t, thue(), "a", 15); len(s) != 32768 {
		t.Errorf("%d letters", len(s))
	}
	for n := 16; n <= api.MaxDepth; n++ {
		growTells(t, thue(), "a", n, api.ErrFull)
	}
}

// TestSmall: W2: what any substitutions do, against words that are written down, and counts that are as great as they like.
func TestSmall(t *testing.T) {
	random := rand.New(rand.NewSource(1))
	told := map[api.Errno]int{}
	for range 4000 {
		letters := 1 + random.Intn(8)
		images := anySubstitution(random, letters, 1+random.Intn(12))
		word, n := anyWord(random, letters, random.Intn(8)), random.Intn(10)
		if random.Intn(4) == 0 {
			n = random.Intn(61)
		}
		s, err := grow.Grow(images, word, n)
		want, ok := slowly(images, word, n)
		if s != want || ok != (err == nil) || !ok && plain.Told(err) != api.ErrFull {
			t.Errorf("Grow(%q, %q, %d): %.60q, %v, want %.60q", images, word, n, s, err, want)
		}
		told[counted(t, images, word, n)]++
		if !ok {
			continue
		}
		for at := -1; at <= len(s); at += 1 + len(s)/50 {
			looked(t, images, word, n, at, want)
		}
		looked(t, images, word, n, len(s)-1, want)
		looked(t, images, word, n, len(s), want)
	}
	if told[api.OK] < 500 || told[api.ErrFull] < 200 {
		t.Errorf("counts, or too many: %v", told)
	}
}

// counted holds Count against great counts, and gives what must be told.
func counted(t *testing.T, images []string, word string, n int) api.Errno {
	t.Helper()
	all := bigCounts(images, word, n)
	want := api.OK
	for _, counts := range all {
		if bigSum(counts).Cmp(big.NewInt(mostGrown)) > 0 {
			want = api.ErrFull
		}
	}
	c, err := grow.Count(images, word, n)
	if plain.Told(err) != want || err != nil && len(c) != 0 || err == nil && len(c) != len(images) {
		t.Errorf("Count(%q, %.60q, %d): %v, %v, want %v", images, word, n, c, err, want)
		return want
	}
	for i := range c {
		if all[n][i].Cmp(big.NewInt(int64(c[i]))) != 0 {
			t.Errorf("Count(%q, %.60q, %d): %v, want %v", images, word, n, c, all[n])
		}
	}
	told(t, images, word, n, bigSum(all[n]), want)
	return want
}

// told asks which error Letter tells, near both ends of a word and far beyond: ErrRange where there is no letter, else what Count tells.
func told(t *testing.T, images []string, word string, n int, size *big.Int, count api.Errno) {
	t.Helper()
	ats := []int{math.MinInt, -1, 0, 1, mostGrown - 1, mostGrown, math.MaxInt - 1, math.MaxInt}
	if size.IsInt64() {
		end := int(size.Int64())
		ats = append(ats, end/2, end/3, end-2, end-1, end)
	}
	for _, at := range ats {
		want := count
		if at < 0 || size.Cmp(big.NewInt(int64(at))) <= 0 {
			want = api.ErrRange
		}
		letterTells(t, images, word, n, at, want)
	}
}

// looked holds Letter against the word that it looks into.
func looked(t *testing.T, images []string, word string, n, at int, in string) {
	t.Helper()
	want, tells := "", api.ErrRange
	if at >= 0 && at < len(in) {
		want, tells = in[at:at+1], api.OK
	}
	if s, err := grow.Letter(images, word, n, at); s != want || plain.Told(err) != tells {
		t.Errorf("Letter(%q, %q, %d, %d): %q, %v, want %q", images, word, n, at, s, err, want)
	}
}

// TestCountKnown: W2: many rounds, no letters, and letters that become nothing.
func TestCountKnown(t *testing.T) {
	a, b := 1, 0
	for n := range api.MaxDepth + 1 {
		if c, err := grow.Count(fibonacci(), "a", n); err != nil || !slices.Equal(c, []int{a, b}) {
			t.Errorf("Count of Fibonacci by %d: %v, %v, want %d, %d", n, c, err, a, b)
		}
		a, b = a+b, a
		if c, err := grow.Count(fibonacci(), "", n); err != nil || !slices.Equal(c, []int{0, 0}) {
			t.Errorf("Count of nothing by %d: %v, %v", n, c, err)
		}
		if c, err := grow.Count(same(8, ""), "hhgab", n); err != nil || len(c) != 8 || n > 0 && !slices.Equal(c, make([]int, 8)) {
			t.Errorf("Count of what becomes nothing by %d: %v, %v", n, c, err)
		}
	}
	if c, err := grow.Count(thue(), "a", 59); err != nil || !slices.Equal(c, []int{1 << 58, 1 << 58}) {
		t.Errorf("Count of Thue and Morse: %v, %v", c, err)
	}
	countTells(t, thue(), "a", 60, api.ErrFull) // 2 to the power of 60
}

// TestCountFull: W2: words of just 10^18 letters, and of more, at the end and on the way.
func TestCountFull(t *testing.T) {
	tens := []string{"aaaaaaaaaa", "b", "", "d"}
	for _, word := range []string{"a", "ac", "cccac"} {
		if c, err := grow.Count(tens, word, 18); err != nil || !slices.Equal(c, []int{mostGrown, 0, 0, 0}) {
			t.Errorf("Count of %q by 18: %v, %v", word, c, err)
		}
		countTells(t, tens, word, 19, api.ErrFull)
	}
	for _, word := range []string{"ab", "ba", "adc", "aa", strings.Repeat("a", 40000)} {
		countTells(t, tens, word, 18, api.ErrFull)
	}
	if c, err := grow.Count(tens, "abcd", 17); err != nil || !slices.Equal(c, []int{mostGrown / 10, 1, 0, 1}) {
		t.Errorf("Count by 17: %v, %v", c, err)
	}
	twelves := same(8, "abcdefghabcd")
	for n := range api.MaxDepth + 1 {
		counted(t, twelves, "a", n)
		counted(t, twelves, strings.Repeat("abcdefgh", 5000), n)
		counted(t, []string{"aaaaaaaaaaaa"}, strings.Repeat("a", 40000), n)
	}
}

// TestFewerLater: W2: a word on the way has more than 10^18 letters, though the next one would have fewer.
func TestFewerLater(t *testing.T) {
	images := []string{"bbbbbbbbbbbc", "a", ""} // of an a comes 12, then 11, then 132, then 121
	word := strings.Repeat("a", 20)
	sizes := bigCounts(images, word, 33)
	if bigSum(sizes[31]).Cmp(big.NewInt(mostGrown)) <= 0 || bigSum(sizes[32]).Cmp(big.NewInt(mostGrown)) >= 0 {
		t.Fatalf("%v, %v", sizes[31], sizes[32])
	}
	for n := range 34 {
		want := api.OK
		if n > 30 {
			want = api.ErrFull
		}
		if got := counted(t, images, word, n); got != want {
			t.Errorf("by %d: %v", n, got)
		}
	}
	end := int(bigSum(sizes[32]).Int64())
	countTells(t, images, word, 32, api.ErrFull)
	letterTells(t, images, word, 32, end-1, api.ErrFull)
	letterTells(t, images, word, 32, end, api.ErrRange)
}

// TestRangeOrFull: W2: Letter tells ErrRange, where there is no letter, ahead of ErrFull, to the greatest number.
func TestRangeOrFull(t *testing.T) {
	doubles := []string{"aa"}
	for _, n := range []int{1, 2, 3, 4, 7} { // words of so many times 2^60 letters
		word := strings.Repeat("a", n)
		letterTells(t, doubles, word, 60, -1, api.ErrRange)
		letterTells(t, doubles, word, 60, 0, api.ErrFull)
		letterTells(t, doubles, word, 60, n<<60-1, api.ErrFull)
		letterTells(t, doubles, word, 60, n<<60, api.ErrRange)
		letterTells(t, doubles, word, 60, math.MaxInt, api.ErrRange)
	}
	for _, n := range []int{8, 9, 15, 16, 17, 32, 40000} {
		letterTells(t, doubles, strings.Repeat("a", n), 60, math.MaxInt, api.ErrFull)
		letterTells(t, doubles, strings.Repeat("a", n), 60, math.MinInt, api.ErrRange)
	}
	more := []string{"aab", "b"} // of an a come 2^61 - 1 letters
	letterTells(t, more, "aaaabb", 60, math.MaxInt-1, api.ErrRange)
	letterTells(t, more, "aaaabbb", 60, math.MaxInt-1, api.ErrFull)
	letterTells(t, more, "aaaabbb", 60, math.MaxInt, api.ErrRange)
	letterTells(t, more, "aaaabbbb", 60, math.MaxInt, api.ErrFull)
	// A word of just as many letters as there may be has a last one.
	tens := []string{"aaaaaaaaaa", "b"}
	letterTells(t, tens, "a", 18, mostGrown-1, api.OK)
	letterTells(t, tens, "a", 18, mostGrown, api.ErrRange)
	letterTells(t, tens, "ab", 18, 0, api.ErrFull)
	letterTells(t, tens, "ab", 18, mostGrown, api.ErrFull)
	letterTells(t, tens, "ab", 18, mostGrown+1, api.ErrRange)
}

// TestLetterFar: W2: letters of words that nobody writes down: known by their number alone.
func TestLetterFar(t *testing.T) {
	random := rand.New(rand.NewSource(2))
	for range 3000 {
		n := 1 + random.Intn(59)
		at := random.Intn(1 << n)
		want := letters(2)[bits.OnesCount(uint(at))%2:][:1]
		if s, err := grow.Letter(thue(), "a", n, at); err != nil || s != want {
			t.Errorf("Letter of Thue and Morse by %d at %d: %q, %v", n, at, s, err)
		}
	}
	fib := []int{1, 2}
	for len(fib) < 62 {
		fib = append(fib, fib[len(fib)-1]+fib[len(fib)-2])
	}
	for range 3000 {
		n := 1 + random.Intn(60)
		at := random.Intn(fib[n])
		if random.Intn(10) == 0 {
			at = fib[n] - 1
		}
		// A letter is b just where its number, as a sum of numbers of Fibonacci, the greatest first, needs 1.
		want, left := "a", at
		for i := 61; i >= 0; i-- {
			if left >= fib[i] {
				left -= fib[i]
				if i == 0 {
					want = "b"
				}
			}
		}
		if s, err := grow.Letter(fibonacci(), "a", n, at); err != nil || s != want {
			t.Errorf("Letter of Fibonacci by %d at %d: %q, %v, want %q", n, at, s, err, want)
		}
		letterTells(t, fibonacci(), "a", n, fib[n], api.ErrRange)
	}
}

// TestLetterNothing: W2: letters that become nothing are passed over.
func TestLetterNothing(t *testing.T) {
	images := []string{"cac", "b", ""}
	word := strings.Repeat("c", 19999) + "a" + strings.Repeat("c", 19999) + "b"
	for _, n := range []int{1, 2, 60} {
		s := grown(t, images, word, n)
		if s != "cacb" {
			t.Errorf("Grow by %d: %.60q", n, s)
		}
		for at := -1; at <= len(s); at++ {
			looked(t, images, word, n, at, s)
		}
	}
	letterTells(t, []string{""}, strings.Repeat("a", 40000), 1, 0, api.ErrRange)
	letterTells(t, []string{""}, "", 0, 0, api.ErrRange)
	letterTells(t, []string{"b", ""}, "a", 2, 0, api.ErrRange)
	letterTells(t, []string{"b", ""}, "a", 1, 0, api.OK)
}

// TestAddUp: W2: rounds add up: of words, of counts, and of letters; and words one behind the other grow each for itself.
func TestAddUp(t *testing.T) {
	random := rand.New(rand.NewSource(3))
	for range 1500 {
		letters := 1 + random.Intn(8)
		images := anySubstitution(random, letters, 1+random.Intn(4))
		word, other := anyWord(random, letters, 1+random.Intn(5)), anyWord(random, letters, random.Intn(5))
		first, then := random.Intn(4), random.Intn(4)
		between := grown(t, images, word, first)
		end := grown(t, images, word, first+then)
		if s := grown(t, images, between, then); s != end {
			t.Errorf("%q, %q: by %d and %d %.60q, by both %.60q", images, word, first, then, s, end)
		}
		if s := grown(t, images, word+other, first); s != between+grown(t, images, other, first) {
			t.Errorf("%q, %q and %q: %.60q", images, word, other, s)
		}
		more := 10 + random.Intn(20)
		a, failA := grow.Count(images, word, first+more)
		b, failB := grow.Count(images, between, more)
		if plain.Told(failA) != plain.Told(failB) || !slices.Equal(a, b) {
			t.Errorf("%q, %q: counts by %d and %d %v, %v; by both %v, %v", images, word, first, more, b, failB, a, failA)
		}
		size := 0
		for _, n := range a {
			size += n
		}
		for _, at := range []int{0, size / 2, size - 1, size} {
			x, failX := grow.Letter(images, word, first+more, at)
			y, failY := grow.Letter(images, between, more, at)
			if plain.Told(failX) != plain.Told(failY) || x != y || failA == nil && (failX == nil) != (at >= 0 && at < size) {
				t.Errorf("%q, %q: letter %d by %d and %d %q, %v; by both %q, %v", images, word, at, first, more, y, failY, x, failX)
			}
		}
	}
}
