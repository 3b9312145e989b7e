package wang

import "testing"

// TestCloses: T2: a way round is found from whichever side it begins, the first and the last of each 64 among them; one that ends at another side is none.
func TestCloses(t *testing.T) {
	for _, count := range []int{1, 2, 63, 64, 65, 127, 128, 129, 200} {
		sides := []int{count, 1, count + 3}
		for i := range count {
			round := [][]step{{{i, 0}}, {{0, i + 3}}, {{i + 3, i}}}
			if !closes(round, sides) || !closes([][]step{{{i, i}}}, sides[:1]) {
				t.Errorf("not closed at %d of %d", i, count)
			}
			for _, other := range []int{0, i - 1, i + 1, i - 64, i + 64, count - 1} {
				if other < 0 || other >= count || other == i {
					continue
				}
				round[2][0].to = other
				if closes(round, sides) || closes([][]step{{{i, other}}}, sides[:1]) {
					t.Errorf("closed from %d to %d of %d", i, other, count)
				}
			}
		}
	}
	if closes([][]step{nil, nil}, []int{0, 0}) || closes([][]step{nil, nil}, []int{5, 5}) || closes([][]step{{}, {{0, 1}, {1, 0}}}, []int{2, 2}) {
		t.Error("closed without steps")
	}
}
