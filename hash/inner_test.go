package hash

import (
	"math/rand"
	"testing"

	"eden/api"
)

func fieldOf(t *testing.T, r api.Rule, wide, high int, random *rand.Rand) (*Space, field) {
	t.Helper()
	s, err := New(r)
	if err != nil {
		t.Fatal(err)
	}
	p := api.Pattern{Wide: wide, High: high, Cells: make([]int, wide*high)}
	for i := range p.Cells {
		p.Cells[i] = random.Intn(2)
	}
	if err := s.Put(p, random.Intn(100)-50, random.Intn(100)-50); err != nil {
		t.Fatal(err)
	}
	s.once.Do(s.fill)
	return s, s.now
}

// placed tells the cells of a field one by one.
func placed(f field) map[[2]int]int {
	out := map[[2]int]int{}
	f = f.trimmed()
	var visit func(at int32, level, x, y int)
	visit = func(at int32, level, x, y int) {
		if at == 0 {
			return
		}
		if level == eightLevel {
			for bit := range 64 {
				if f.stock.squares[at].cells>>bit&1 == 1 {
					out[[2]int{x + bit%8, y + bit/8}]++
				}
			}
			return
		}
		for i, part := range f.stock.squares[at].parts {
			visit(part, level-1, x+i%2<<(level-1), y+i/2<<(level-1))
		}
	}
	visit(f.root, f.level, f.right, f.down)
	return out
}

func sameCells(a, b field) bool {
	x, y := placed(a), placed(b)
	if len(x) != len(y) {
		return false
	}
	for at := range x {
		if y[at] == 0 {
			return false
		}
	}
	return true
}

func TestWalkIsLeap(t *testing.T) {
	random := rand.New(rand.NewSource(1))
	for range 60 {
		r := api.Rule{Kind: api.Life, Born: random.Intn(512) &^ 1, Stay: random.Intn(512)}
		s, f := fieldOf(t, r, 1+random.Intn(30), 1+random.Intn(30), random)
		k := random.Intn(7)
		leapt, ok := leap(f, s.table, k, mostKnown)
		walked, well := walk(f, s.table, k, mostWalked)
		if !ok || !well || !sameCells(leapt, walked) {
			t.Fatalf("rule %v, k %d: leap and walk are not the same (%v, %v)", r, k, ok, well)
		}
	}
}

func TestBoundsOfRoom(t *testing.T) {
	random := rand.New(rand.NewSource(2))
	s, f := fieldOf(t, api.Rule{Kind: api.Life, Born: 4}, 20, 20, random)
	if _, ok := leap(f, s.table, 6, 500); ok {
		t.Error("leap: knows more than it may")
	}
	if _, ok := walk(f, s.table, 6, 50); ok {
		t.Error("walk: takes more than it may")
	}
	if _, ok := walk(f, s.table, 40, 500); ok {
		t.Error("walk: does not end where the room does")
	}
	// A plane that is all alike takes few squares until it is walked over.
	all := field{stock: newKnowingStock(), level: eightLevel}
	for all.root = all.stock.eight(0x1234567890ABCDEF); all.level < 50; all.level++ {
		all.root = all.stock.join(all.root, all.root, all.root, all.root)
	}
	if _, ok := walk(all, s.table, 0, 10000); ok {
		t.Error("walk: of 2 to the power of 50")
	}
	if b := all.box(); b != (span{right: 1 << 50, down: 1 << 50}) {
		t.Errorf("box: %v", b)
	}
}

func TestBoundsOfNumbers(t *testing.T) {
	random := rand.New(rand.NewSource(3))
	const room = 1 << roomLevel
	for _, at := range [][2]int{{room + 1, 0}, {-room - 1, 0}, {0, room + 1}, {0, -room - 1}} {
		s, _ := fieldOf(t, api.Rule{Kind: api.Life, Born: 8, Stay: 12}, 9, 9, random)
		living := s.Living()
		s.now.right, s.now.down = at[0], at[1]
		if err := s.Jump(3); err != api.ErrFull {
			t.Errorf("Jump at %v: %v", at, err)
		}
		if s.Living() != living {
			t.Errorf("Jump at %v: the space is not as it was", at)
		}
		if err := s.Put(api.Pattern{Wide: 1, High: 1, Cells: []int{1}}, farthest, -farthest); err != nil || s.Living() != living+1 {
			t.Errorf("Put: %v, Living %d", err, s.Living())
		}
	}
}

// What was laid over does not stay for ever.
func TestStockHasNotMuchToSpare(t *testing.T) {
	random := rand.New(rand.NewSource(4))
	s, _ := fieldOf(t, api.Rule{Kind: api.Life, Born: 8, Stay: 12}, 50, 50, random)
	p := api.Pattern{Wide: 3, High: 3, Cells: make([]int, 9)}
	for range 3000 {
		p.Cells[random.Intn(9)] ^= 1
		if err := s.Put(p, random.Intn(40)-20, random.Intn(40)-20); err != nil {
			t.Fatal(err)
		}
	}
	if n := len(s.now.stock.squares); n > 1000 {
		t.Errorf("%d squares for 100 by 100 cells", n)
	}
	for range 100 {
		if err := s.Jump(3); err != nil {
			t.Fatal(err)
		}
	}
	if s.now.stock.wholes != nil || s.now.stock.eights != nil || len(s.now.stock.squares) > 5000 {
		t.Error("a space keeps what jumps knew")
	}
}

func TestTableOfFourByFour(t *testing.T) {
	random := rand.New(rand.NewSource(5))
	for range 5 {
		r := api.Rule{Kind: api.Life, Born: random.Intn(512), Stay: random.Intn(512)}
		made := tableOf(r)
		for cells := range made {
			var want uint16
			for i := range 4 {
				x, y, count := 1+i%2, 1+i/2, 0
				for j := range 9 {
					if j != 4 {
						count += cells >> (4*(y+j/3-1) + x + j%3 - 1) & 1
					}
				}
				bits := r.Born
				if cells>>(4*y+x)&1 == 1 {
					bits = r.Stay
				}
				want |= uint16(bits>>count&1) << (8*(y-1) + x - 1)
			}
			if made[cells] != want {
				t.Fatalf("rule %v: of %04x comes %x, want %x", r, cells, made[cells], want)
			}
		}
	}
}
