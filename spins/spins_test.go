package spins_test

import (
	"math"
	"slices"
	"sync"
	"testing"

	"eden/api"
	"eden/plain"
	"eden/spins"
)

// face is a call by its name, with how many cells it takes.
type face struct {
	name string
	most int
	call func(wide, high int) ([]int, error)
}

// cross is Crossings, with corners or without them.
func cross(corners bool) func(wide, high int) ([]int, error) {
	return func(wide, high int) ([]int, error) { return spins.Crossings(wide, high, corners) }
}

func faces() []face {
	return []face{
		{"Free", 30, spins.Free},
		{"Energies", 30, spins.Energies},
		{"Crossings", 16, cross(false)},
		{"Crossings, corners", 16, cross(true)},
	}
}

// sizes are all that may be, of at most so many cells.
func sizes(most int) [][2]int {
	var out [][2]int
	for wide := 1; wide <= 6; wide++ {
		for high := 1; high <= 6; high++ {
			if wide*high <= most {
				out = append(out, [2]int{wide, high})
			}
		}
	}
	return out
}

// counted gives what a call counts, where nothing may be wrong.
func counted(t *testing.T, call func(int, int) ([]int, error), wide, high int) []int {
	t.Helper()
	out, err := call(wide, high)
	if err != nil {
		t.Fatalf("%d by %d: %v", wide, high, err)
	}
	return out
}

// is asks for those counts.
func is(t *testing.T, what string, wide, high int, got []int, want ...int) {
	t.Helper()
	if !slices.Equal(got, want) {
		t.Errorf("%s of %d by %d: %v, want %v", what, wide, high, got, want)
	}
}

func tells(t *testing.T, f face, wide, high int, want api.Errno) {
	t.Helper()
	out, err := f.call(wide, high)
	if plain.Told(err) != want || (err == nil) != (len(out) > 0) {
		t.Errorf("%s of %d by %d: %v, %v, want %v", f.name, wide, high, out, err, want)
	}
}

// choose is how many sets of k of n there are.
func choose(n, k int) int {
	if k < 0 || k > n {
		return 0
	}
	out := 1
	for i := range k {
		out = out * (n - i) / (i + 1)
	}
	return out
}

func sum(counts []int) int {
	out := 0
	for _, n := range counts {
		out += n
	}
	return out
}

// TestTable: the document's examples.
func TestTable(t *testing.T) {
	is(t, "Free", 2, 1, counted(t, spins.Free, 2, 1), 2, 2)
	is(t, "Energies", 2, 1, counted(t, spins.Energies, 2, 1), 2, 0, 2, 0, 0)
	is(t, "Energies", 1, 1, counted(t, spins.Energies, 1, 1), 2, 0, 0)
	is(t, "Crossings", 1, 2, counted(t, cross(false), 1, 2), 0, 0, 1)
	is(t, "Crossings", 2, 2, counted(t, cross(false), 2, 2), 0, 0, 2, 4, 1)
}

// TestSides: E1: which sides there may be, and how many cells.
func TestSides(t *testing.T) {
	for _, f := range faces() {
		for wide := -2; wide <= 9; wide++ {
			for high := -2; high <= 9; high++ {
				want := api.OK
				switch {
				case wide < 1 || wide > 6 || high < 1 || high > 6:
					want = api.ErrRange
				case wide*high > f.most:
					want = api.ErrFull
				}
				tells(t, f, wide, high, want)
			}
		}
	}
}

// TestEdges: E1: the sizes beside the bounds, one by one.
func TestEdges(t *testing.T) {
	cases := []struct {
		wide, high      int
		paired, crossed api.Errno
	}{
		{1, 1, api.OK, api.OK},
		{6, 1, api.OK, api.OK},
		{1, 6, api.OK, api.OK},
		{5, 3, api.OK, api.OK},
		{3, 5, api.OK, api.OK},
		{4, 4, api.OK, api.OK},
		{6, 3, api.OK, api.ErrFull},
		{3, 6, api.OK, api.ErrFull},
		{5, 4, api.OK, api.ErrFull},
		{4, 5, api.OK, api.ErrFull},
		{5, 6, api.OK, api.ErrFull},
		{6, 5, api.OK, api.ErrFull},
		{6, 6, api.ErrFull, api.ErrFull},
		{7, 1, api.ErrRange, api.ErrRange},
		{1, 7, api.ErrRange, api.ErrRange},
		{7, 6, api.ErrRange, api.ErrRange},
		{6, 7, api.ErrRange, api.ErrRange},
		{7, 7, api.ErrRange, api.ErrRange},
		{0, 6, api.ErrRange, api.ErrRange},
		{6, 0, api.ErrRange, api.ErrRange},
		{-6, -5, api.ErrRange, api.ErrRange},
	}
	for _, c := range cases {
		for _, f := range faces() {
			want := c.paired
			if f.most == 16 {
				want = c.crossed
			}
			tells(t, f, c.wide, c.high, want)
		}
	}
}

// TestFarSides: E1: sides whose product is not to be known are told as ErrRange, too.
func TestFarSides(t *testing.T) {
	for _, f := range faces() {
		for _, bad := range []int{math.MinInt, math.MinInt + 1, -1 << 32, 1 << 31, 1 << 32, 1<<32 + 1, 1 << 62, 1<<63 - 6, math.MaxInt} {
			for _, other := range []int{1, 2, 6, 0, -1, 7, bad} {
				tells(t, f, bad, other, api.ErrRange)
				tells(t, f, other, bad, api.ErrRange)
			}
		}
	}
}

// TestLengths: E2, E3: as many numbers as there are pairs, or cells, and one.
func TestLengths(t *testing.T) {
	for _, size := range sizes(30) {
		wide, high := size[0], size[1]
		if got, want := len(counted(t, spins.Free, wide, high)), len(pairs(wide, high, false))+1; got != want {
			t.Errorf("Free of %d by %d: %d numbers, want %d", wide, high, got, want)
		}
		if got, want := len(counted(t, spins.Energies, wide, high)), 2*wide*high+1; got != want {
			t.Errorf("Energies of %d by %d: %d numbers, want %d", wide, high, got, want)
		}
		for _, corners := range []bool{false, true} {
			if wide*high > 16 {
				continue
			}
			if got, want := len(counted(t, cross(corners), wide, high)), wide*high+1; got != want {
				t.Errorf("Crossings of %d by %d, %v: %d numbers, want %d", wide, high, corners, got, want)
			}
		}
	}
}

// TestFresh: P2: what came out is the caller's: what is written there changes nothing that comes out later.
func TestFresh(t *testing.T) {
	for _, f := range faces() {
		for _, size := range sizes(f.most) {
			a := counted(t, f.call, size[0], size[1])
			b := counted(t, f.call, size[0], size[1])
			kept := slices.Clone(b)
			a = a[:cap(a)]
			for i := range a {
				a[i] = -7
			}
			is(t, f.name+", kept,", size[0], size[1], b, kept...)
			is(t, f.name+", again,", size[0], size[1], counted(t, f.call, size[0], size[1]), kept...)
		}
	}
}

// TestAtOnce: P2: calls at the same time do not see each other.
func TestAtOnce(t *testing.T) {
	for _, f := range faces() {
		all := sizes(f.most)
		got := make([][]int, len(all))
		var crew sync.WaitGroup
		for i, size := range all {
			crew.Go(func() { got[i], _ = f.call(size[0], size[1]) })
		}
		crew.Wait()
		for i, size := range all {
			is(t, f.name, size[0], size[1], got[i], counted(t, f.call, size[0], size[1])...)
		}
	}
}
