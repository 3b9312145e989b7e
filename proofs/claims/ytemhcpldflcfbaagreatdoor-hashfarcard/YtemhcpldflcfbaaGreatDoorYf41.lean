/-
  What the last text of this claim leans on, part 41: Gq6.
-/
import Derived.Test.YtemhcpldflcfbaaGreatDoorYf40
import Derived.Test.YtemhcpldflcfbaaGreatDoorYf4
import Derived.Test.YtemhcpldflcfbaaGreatDoorYf6
import Derived.Deep.RegionHeld3
import Derived.BigQuiet
namespace Go.Proofs.YtemhcpldflcfbaaGreatDoor
open Go.RowKit
set_option linter.unusedVariables false
theorem heap_at (w : World) (o : Obj) (k : Nat) (h : k = w.heap.size) : (w.alloc o).heap[k]? = some o := by subst h; exact heap_alloc_new w o
def becR0 (born stay a0 a1 h0 h1 b0 b1 : Nat) : Nat := becW born stay (rgt0 a0) a0 (lft0 a0 a1 1) (rgt0 h0) h0 (lft0 h0 h1 1) (rgt0 b0) b0 (lft0 b0 b1 1)
def becR1 (born stay a0 a1 h0 h1 b0 b1 : Nat) : Nat := becW born stay (rgt1 a0 a1) a1 (lft1 a1 1) (rgt1 h0 h1) h1 (lft1 h1 1) (rgt1 b0 b1) b1 (lft1 b1 1)
structure LX (w w3 wr : World) (x y : Nat) : Prop where
 keep : ∀ k, k < w3.heap.size → k ≠ w.heap.size + 1 + 1 + 1 + 1 + 1 → wr.heap[k]? = w3.heap[k]?
 out : wr.heap[w.heap.size + 1 + 1 + 1 + 1 + 1]? = some (.cells #[.int .u64 (x : Int), .int .u64 (y : Int)] 106 (0, 0))
 below : Below w.heap.size w wr
 size : w3.heap.size ≤ wr.heap.size
theorem LX.next {w w3 wr w' : World} {x y : Nat} (h : LX w w3 wr x y) (b : Below wr.heap.size wr w') : LX w w3 w' x y :=
 ⟨fun k hk hn => (b.block k (Nat.lt_of_lt_of_le hk h.size)).trans (h.keep k hk hn), (b.block _ (lt_of_block h.out)).trans h.out, h.below.trans (b.mono h.below.size), Nat.le_trans h.size b.size⟩
theorem LX.set0 {w w3 wr : World} {x y : Nat} (h : LX w w3 wr x y) (v : Nat) : LX w w3 (wr.setCell ⟨w.heap.size + 1 + 1 + 1 + 1 + 1, 0, none⟩ (.int .u64 (v : Int))) v y :=
 ⟨fun k hk hn => (Below.heap_setCell _ _ _ _ hn).trans (h.keep k hk hn), by rw [heap_setCell_same _ _ _ _ _ _ h.out]; rfl, h.below.setCell (by simp; omega) _, by rw [World.size_setCell]; exact h.size⟩
theorem LX.set1 {w w3 wr : World} {x y : Nat} (h : LX w w3 wr x y) (v : Nat) : LX w w3 (wr.setCell ⟨w.heap.size + 1 + 1 + 1 + 1 + 1, 1, none⟩ (.int .u64 (v : Int))) x v :=
 ⟨fun k hk hn => (Below.heap_setCell _ _ _ _ hn).trans (h.keep k hk hn), by rw [heap_setCell_same _ _ _ _ _ _ h.out]; rfl, h.below.setCell (by simp; omega) _, by rw [World.size_setCell]; exact h.size⟩
set_option maxRecDepth 100000 in
set_option maxHeartbeats 12800000 in
theorem become_any (kd st ra : Int) (born stay : Nat) (ta : Option Addr) (tn tc : Nat) (s : ByteArray) (a0 a1 h0 h1 b0 b1 : Nat) (w : World) (hb : born ≤ 511) (hs : stay ≤ 511) (ha0 : a0 < 18446744073709551616) (ha1 : a1 < 18446744073709551616) (hh0 : h0 < 18446744073709551616) (hh1 : h1 < 18446744073709551616) (hb0 : b0 < 18446744073709551616) (hb1 : b1 < 18446744073709551616) :
  Calls Tryz.prog 76 #[.agg #[.int .i64 kd, .int .i64 (born : Int), .int .i64 (stay : Int), .int .i64 st, .int .i64 ra, .slice ta tn tc, .string s], .agg #[.int .u64 (a0 : Int), .int .u64 (a1 : Int)], .agg #[.int .u64 (h0 : Int), .int .u64 (h1 : Int)], .agg #[.int .u64 (b0 : Int), .int .u64 (b1 : Int)]] w fun e w' => e = .returned (.agg #[.int .u64 ((becR0 born stay a0 a1 h0 h1 b0 b1 : Nat) : Int), .int .u64 ((becR1 born stay a0 a1 h0 h1 b0 b1 : Nat) : Int)]) ∧ Below w.heap.size w w' := by
 obtain ⟨w1, hw1⟩ : ∃ w1, (((((w.alloc (.cells #[.int .i64 kd, .int .i64 (born : Int), .int .i64 (stay : Int), .int .i64 st, .int .i64 ra, .slice ta tn tc, .string s] 24)).alloc (.cells #[.int .u64 (a0 : Int), .int .u64 (a1 : Int)] 106)).alloc (.cells #[.int .u64 (h0 : Int), .int .u64 (h1 : Int)] 106)).alloc (.cells #[.int .u64 (b0 : Int), .int .u64 (b1 : Int)] 106)).alloc (.cells #[.int .u64 0, .int .u64 0] 106)).alloc (.cells #[.int .u64 0, .int .u64 0] 106) = w1 := ⟨_, rfl⟩
 have BB := hide' (show Below w.heap.size w w1 by rw [← hw1]; repeat (first | exact Below.refl _ _ | refine Below.alloc ?_ (by simp; try omega) _))
 have g1 : w1.heap[w.heap.size + 1]? = some (.cells #[.int .u64 (a0 : Int), .int .u64 (a1 : Int)] 106 (0, 0)) := by rw [← hw1, Below.heap_alloc _ _ _ (by simp), Below.heap_alloc _ _ _ (by simp), Below.heap_alloc _ _ _ (by simp), Below.heap_alloc _ _ _ (by simp)]; exact heap_at _ _ _ (by simp)
 have g2 : w1.heap[w.heap.size + 1 + 1]? = some (.cells #[.int .u64 (h0 : Int), .int .u64 (h1 : Int)] 106 (0, 0)) := by rw [← hw1, Below.heap_alloc _ _ _ (by simp), Below.heap_alloc _ _ _ (by simp), Below.heap_alloc _ _ _ (by simp)]; exact heap_at _ _ _ (by simp)
 have g3 : w1.heap[w.heap.size + 1 + 1 + 1]? = some (.cells #[.int .u64 (b0 : Int), .int .u64 (b1 : Int)] 106 (0, 0)) := by rw [← hw1, Below.heap_alloc _ _ _ (by simp), Below.heap_alloc _ _ _ (by simp)]; exact heap_at _ _ _ (by simp)
 obtain ⟨al0, hal0⟩ : ∃ x, rgt0 a0 = x := ⟨_, rfl⟩
 obtain ⟨al1, hal1⟩ : ∃ x, rgt1 a0 a1 = x := ⟨_, rfl⟩
 obtain ⟨hl0, hhl0⟩ : ∃ x, rgt0 h0 = x := ⟨_, rfl⟩
 obtain ⟨hl1, hhl1⟩ : ∃ x, rgt1 h0 h1 = x := ⟨_, rfl⟩
 obtain ⟨bl0, hbl0⟩ : ∃ x, rgt0 b0 = x := ⟨_, rfl⟩
 obtain ⟨bl1, hbl1⟩ : ∃ x, rgt1 b0 b1 = x := ⟨_, rfl⟩
 have CA := hide' (fun w => right_any a0 a1 w ha0 ha1)
 have CH := hide' (fun w => right_any h0 h1 w hh0 hh1)
 have CB := hide' (fun w => right_any b0 b1 w hb0 hb1)
 rw [hal0, hal1] at CA
 rw [hhl0, hhl1] at CH
 rw [hbl0, hbl1] at CB
 obtain ⟨ar0, har0⟩ : ∃ x, lft0 a0 a1 1 = x := ⟨_, rfl⟩
 obtain ⟨ar1, har1⟩ : ∃ x, lft1 a1 1 = x := ⟨_, rfl⟩
 obtain ⟨hr0, hhr0⟩ : ∃ x, lft0 h0 h1 1 = x := ⟨_, rfl⟩
 obtain ⟨hr1, hhr1⟩ : ∃ x, lft1 h1 1 = x := ⟨_, rfl⟩
 obtain ⟨br0, hbr0⟩ : ∃ x, lft0 b0 b1 1 = x := ⟨_, rfl⟩
 obtain ⟨br1, hbr1⟩ : ∃ x, lft1 b1 1 = x := ⟨_, rfl⟩
 have LA := hide' (fun w => left_any a0 a1 1 w ha0 ha1 (by omega))
 have LH := hide' (fun w => left_any h0 h1 1 w hh0 hh1 (by omega))
 have LB := hide' (fun w => left_any b0 b1 1 w hb0 hb1 (by omega))
 rw [har0, har1] at LA
 rw [hhr0, hhr1] at LH
 rw [hbr0, hbr1] at LB
 have G0 := hide' (show w1.heap[w.heap.size]? = some (.cells #[.int .i64 kd, .int .i64 (born : Int), .int .i64 (stay : Int), .int .i64 st, .int .i64 ra, .slice ta tn tc, .string s] 24 (0, 0)) ∧ w1.heap[w.heap.size + 1 + 1 + 1 + 1 + 1]? = some (.cells #[.int .u64 0, .int .u64 0] 106 (0, 0)) ∧ w1.heap[w.heap.size + 1 + 1 + 1 + 1]? = some (.cells #[.int .u64 0, .int .u64 0] 106 (0, 0)) by
  refine ⟨?_, ?_, ?_⟩
  ·rw [← hw1, Below.heap_alloc _ _ _ (by simp; try omega), Below.heap_alloc _ _ _ (by simp; try omega), Below.heap_alloc _ _ _ (by simp; try omega), Below.heap_alloc _ _ _ (by simp; try omega), Below.heap_alloc _ _ _ (by simp; try omega)]; exact heap_at _ _ _ (by simp)
  ·rw [← hw1]; exact heap_at _ _ _ (by simp)
  ·rw [← hw1, Below.heap_alloc _ _ _ (by simp)]; exact heap_at _ _ _ (by simp))
 have BD := hide' (show al0 < 18446744073709551616 ∧ al1 < 18446744073709551616 ∧ ar0 < 18446744073709551616 ∧ ar1 < 18446744073709551616 ∧ bl0 < 18446744073709551616 ∧ bl1 < 18446744073709551616 ∧ br0 < 18446744073709551616 ∧ br1 < 18446744073709551616 ∧ hl0 < 18446744073709551616 ∧ hl1 < 18446744073709551616 ∧ hr0 < 18446744073709551616 ∧ hr1 < 18446744073709551616 from
  ⟨hal0 ▸ rgt0_lt a0, hal1 ▸ rgt1_lt ha0, har0 ▸ lft0_lt ha0 ha1, har1 ▸ lft1_lt ha1, hbl0 ▸ rgt0_lt b0, hbl1 ▸ rgt1_lt hb0, hbr0 ▸ lft0_lt hb0 hb1, hbr1 ▸ lft1_lt hb1, hhl0 ▸ rgt0_lt h0, hhl1 ▸ rgt1_lt hh0, hhr0 ▸ lft0_lt hh0 hh1, hhr1 ▸ lft1_lt hh1⟩)
 obtain ⟨X0, hx0⟩ : ∃ X0, becW born stay al0 a0 ar0 hl0 h0 hr0 bl0 b0 br0 = X0 := ⟨_, rfl⟩
 obtain ⟨X1, hx1⟩ : ∃ X1, becW born stay al1 a1 ar1 hl1 h1 hr1 bl1 b1 br1 = X1 := ⟨_, rfl⟩
 have hX0 := hide' hx0
 have hX1 := hide' hx1
 have HB := hide' hb
 have HS := hide' hs
 unfold becR0 becR1
 rw [hal0, hal1, har0, har1, hhl0, hhl1, hhr0, hhr1, hbl0, hbl1, hbr0, hbr1, hx0, hx1]
 clear hal0 hal1 har0 har1 hhl0 hhl1 hhr0 hhr1 hbl0 hbl1 hbr0 hbr1 hx0 hx1 hb hs
 go_enter Tryz.func76, Tryz.ntmps76
 go_wp2
 refine region3 (by kernel_rfl) (fun v1 u1 v2 u2 v3 u3 x1 x2 x3 => { tmps := #[.agg #[.int .i64 kd, .int .i64 (born : Int), .int .i64 (stay : Int), .int .i64 st, .int .i64 ra, .slice ta tn tc, .string s], .agg #[.int .u64 (a0 : Int), .int .u64 (a1 : Int)], .agg #[.int .u64 (h0 : Int), .int .u64 (h1 : Int)], .agg #[.int .u64 (b0 : Int), .int .u64 (b1 : Int)], .pointer (some ⟨w.heap.size, 0, none⟩), .pointer (some ⟨w.heap.size + 1, 0, none⟩), .pointer (some ⟨w.heap.size + 1 + 1, 0, none⟩), .pointer (some ⟨w.heap.size + 1 + 1 + 1, 0, none⟩), .pointer (some ⟨w.heap.size + 1 + 1 + 1 + 1, 0, none⟩), .pointer (some ⟨w.heap.size + 1 + 1 + 1 + 1 + 1, 0, none⟩), x1, x2, x3, undef, undef, undef, undef, undef, undef, undef, undef, undef, undef, undef, undef, undef, undef, undef, undef, undef, undef, v1, u1, v2, u2, v3, u3, undef, undef, undef, undef, undef, undef, undef, undef, undef, undef, undef, undef, undef, undef, undef, undef, undef, undef, undef, undef, undef, undef, undef, undef, undef, undef, undef, undef, undef, undef, undef, undef, undef, undef, undef, undef, undef, undef, undef, undef, undef, undef, undef, undef, undef, undef, undef, undef, undef, undef, undef, undef, undef, undef, undef, undef, undef, undef, undef, undef, undef, undef, undef, undef, undef, undef, undef, undef, undef, undef, undef, undef, undef, undef, undef, undef, undef, undef, undef, undef, undef, undef, undef, undef, undef], defers := [] }) _ _ _ _ _ _ _ _ _ _ _ _ 106 (.array 2 88) 75 [] _ _ _ _ _ _ _ _ _ (w.heap.size + 1) (w.heap.size + 1 + 1) (w.heap.size + 1 + 1 + 1) #[.int .u64 0, .int .u64 0] #[.int .u64 ((a0 : Nat) : Int), .int .u64 ((a1 : Nat) : Int)] #[.int .u64 ((h0 : Nat) : Int), .int .u64 ((h1 : Nat) : Int)] #[.int .u64 ((b0 : Nat) : Int), .int .u64 ((b1 : Nat) : Int)] #[.int .u64 ((al0 : Nat) : Int), .int .u64 ((al1 : Nat) : Int)] #[.int .u64 ((hl0 : Nat) : Int), .int .u64 ((hl1 : Nat) : Int)] #[.int .u64 ((bl0 : Nat) : Int), .int .u64 ((bl1 : Nat) : Int)] rfl rfl
  (fun _ _ _ _ _ _ _ _ _ _ => rfl) (fun _ _ _ _ _ _ _ _ _ _ => rfl) (fun _ _ _ _ _ _ _ _ _ _ => rfl) (fun _ _ _ _ _ _ _ _ _ _ => rfl) (fun _ _ _ _ _ _ _ _ _ _ => rfl) (fun _ _ _ _ _ _ _ _ _ _ => rfl) (fun _ _ _ _ _ _ _ _ _ _ => rfl) (fun _ _ _ _ _ _ _ _ _ _ => rfl) (fun _ _ _ _ _ _ _ _ _ _ => rfl)
  rfl rfl rfl (fun _ _ _ _ _ _ _ _ _ => rfl) (fun _ _ _ _ _ _ _ _ _ => rfl) (fun _ _ _ _ _ _ _ _ _ => rfl)
  (fun _ _ _ _ _ _ _ _ _ _ => by kernel_rfl) (fun _ _ _ _ _ _ _ _ _ _ => by kernel_rfl) (fun _ _ _ _ _ _ _ _ _ _ => by kernel_rfl)
  (fun _ _ _ _ _ _ _ _ _ _ h => by subst h; kernel_rfl) (fun _ _ _ _ _ _ _ _ _ _ h => by subst h; kernel_rfl) (fun _ _ _ _ _ _ _ _ _ _ h => by subst h; kernel_rfl)
  rfl rfl rfl (fun _ _ _ _ _ _ _ _ _ => ⟨by kernel_rfl, by kernel_rfl⟩) (fun _ _ _ _ _ _ _ _ _ => ⟨by kernel_rfl, by kernel_rfl⟩) (fun _ _ _ _ _ _ _ _ _ => ⟨by kernel_rfl, by kernel_rfl⟩)
  (by kernel_rfl) rfl (by kernel_rfl) rfl rfl rfl rfl rfl rfl (by simp [Value.oneCell']) (by simp [Value.oneCell']) (by simp [Value.oneCell']) g1 g2 g3
  (by kernel_rfl) (by kernel_rfl) CA.out CH.out CB.out ?_
 intro p1 p2 p3 w2 q1 q2 q3 C1 d1 d2 d3 n12 n13 n23
 have s1 : w1.heap.size = w.heap.size + 6 := by rw [← hw1]; simp
 have e1 := (C1.block (w.heap.size + 1) (by omega)).trans g1
 have e2 := (C1.block (w.heap.size + 1 + 1) (by omega)).trans g2
 have e3 := (C1.block (w.heap.size + 1 + 1 + 1) (by omega)).trans g3
 have S1 := hide' s1
 have C1H := hide' C1
 have G := hide' (And.intro g1 (And.intro g2 g3))
 have D := hide' (And.intro d1 (And.intro d2 d3))
 have Nn := hide' (And.intro n12 (And.intro n13 n23))
 have QQ := hide' (And.intro q1 (And.intro q2 q3))
 clear s1 C1 g1 g2 g3 d1 d2 d3 n12 n13 n23 q1 q2 q3 hw1
 go_wp2
 refine region3 (by kernel_rfl) (fun v1 u1 v2 u2 v3 u3 x1 x2 x3 => { tmps := #[.agg #[.int .i64 kd, .int .i64 (born : Int), .int .i64 (stay : Int), .int .i64 st, .int .i64 ra, .slice ta tn tc, .string s], .agg #[.int .u64 (a0 : Int), .int .u64 (a1 : Int)], .agg #[.int .u64 (h0 : Int), .int .u64 (h1 : Int)], .agg #[.int .u64 (b0 : Int), .int .u64 (b1 : Int)], .pointer (some ⟨w.heap.size, 0, none⟩), .pointer (some ⟨w.heap.size + 1, 0, none⟩), .pointer (some ⟨w.heap.size + 1 + 1, 0, none⟩), .pointer (some ⟨w.heap.size + 1 + 1 + 1, 0, none⟩), .pointer (some ⟨w.heap.size + 1 + 1 + 1 + 1, 0, none⟩), .pointer (some ⟨w.heap.size + 1 + 1 + 1 + 1 + 1, 0, none⟩), .pointer (some ⟨p1, 0, none⟩), .pointer (some ⟨p2, 0, none⟩), .pointer (some ⟨p3, 0, none⟩), x1, x2, x3, undef, undef, undef, undef, undef, undef, undef, undef, undef, undef, undef, undef, undef, undef, undef, .agg #[.int .u64 ((a0 : Nat) : Int), .int .u64 ((a1 : Nat) : Int)], .agg #[.int .u64 ((al0 : Nat) : Int), .int .u64 ((al1 : Nat) : Int)], .agg #[.int .u64 ((h0 : Nat) : Int), .int .u64 ((h1 : Nat) : Int)], .agg #[.int .u64 ((hl0 : Nat) : Int), .int .u64 ((hl1 : Nat) : Int)], .agg #[.int .u64 ((b0 : Nat) : Int), .int .u64 ((b1 : Nat) : Int)], .agg #[.int .u64 ((bl0 : Nat) : Int), .int .u64 ((bl1 : Nat) : Int)], v1, u1, v2, u2, v3, u3, undef, undef, undef, undef, undef, undef, undef, undef, undef, undef, undef, undef, undef, undef, undef, undef, undef, undef, undef, undef, undef, undef, undef, undef, undef, undef, undef, undef, undef, undef, undef, undef, undef, undef, undef, undef, undef, undef, undef, undef, undef, undef, undef, undef, undef, undef, undef, undef, undef, undef, undef, undef, undef, undef, undef, undef, undef, undef, undef, undef, undef, undef, undef, undef, undef, undef, undef, undef, undef, undef, undef, undef, undef, undef, undef, undef, undef, undef, undef], defers := [] }) _ _ _ _ _ _ _ _ _ _ _ _ 106 (.array 2 88) 102 [.int .u64 1] _ _ _ _ _ _ _ _ _ (w.heap.size + 1) (w.heap.size + 1 + 1) (w.heap.size + 1 + 1 + 1) #[.int .u64 0, .int .u64 0] #[.int .u64 ((a0 : Nat) : Int), .int .u64 ((a1 : Nat) : Int)] #[.int .u64 ((h0 : Nat) : Int), .int .u64 ((h1 : Nat) : Int)] #[.int .u64 ((b0 : Nat) : Int), .int .u64 ((b1 : Nat) : Int)] #[.int .u64 ((ar0 : Nat) : Int), .int .u64 ((ar1 : Nat) : Int)] #[.int .u64 ((hr0 : Nat) : Int), .int .u64 ((hr1 : Nat) : Int)] #[.int .u64 ((br0 : Nat) : Int), .int .u64 ((br1 : Nat) : Int)] rfl rfl
  (fun _ _ _ _ _ _ _ _ _ _ => rfl) (fun _ _ _ _ _ _ _ _ _ _ => rfl) (fun _ _ _ _ _ _ _ _ _ _ => rfl) (fun _ _ _ _ _ _ _ _ _ _ => rfl) (fun _ _ _ _ _ _ _ _ _ _ => rfl) (fun _ _ _ _ _ _ _ _ _ _ => rfl) (fun _ _ _ _ _ _ _ _ _ _ => rfl) (fun _ _ _ _ _ _ _ _ _ _ => rfl) (fun _ _ _ _ _ _ _ _ _ _ => rfl)
  rfl rfl rfl (fun _ _ _ _ _ _ _ _ _ => rfl) (fun _ _ _ _ _ _ _ _ _ => rfl) (fun _ _ _ _ _ _ _ _ _ => rfl)
  (fun _ _ _ _ _ _ _ _ _ _ => by kernel_rfl) (fun _ _ _ _ _ _ _ _ _ _ => by kernel_rfl) (fun _ _ _ _ _ _ _ _ _ _ => by kernel_rfl)
  (fun _ _ _ _ _ _ _ _ _ _ h => by subst h; kernel_rfl) (fun _ _ _ _ _ _ _ _ _ _ h => by subst h; kernel_rfl) (fun _ _ _ _ _ _ _ _ _ _ h => by subst h; kernel_rfl)
  rfl rfl rfl (fun _ _ _ _ _ _ _ _ _ => ⟨by kernel_rfl, by kernel_rfl⟩) (fun _ _ _ _ _ _ _ _ _ => ⟨by kernel_rfl, by kernel_rfl⟩) (fun _ _ _ _ _ _ _ _ _ => ⟨by kernel_rfl, by kernel_rfl⟩)
  (by kernel_rfl) rfl (by kernel_rfl) rfl rfl rfl rfl rfl rfl (by simp [Value.oneCell']) (by simp [Value.oneCell']) (by simp [Value.oneCell']) e1 e2 e3
  (by kernel_rfl) (by kernel_rfl) LA.out LH.out LB.out ?_
 intro p4 p5 p6 w3 q4 q5 q6 C2 d4 d5 d6 n45 n46 n56
 have z2 := C1H.out.size
 have z1 := S1.out
 have C3 : Below w.heap.size w w3 := BB.out.trans ((C1H.out.trans (C2.mono z2)).mono (by omega))
 have XZ := hide' (show LX w w3 w3 0 0 from ⟨fun _ _ _ => rfl, (C2.block _ (by omega)).trans ((C1H.out.block _ (by omega)).trans G0.out.2.1), C3, Nat.le_refl _⟩)
 have KB := hide' (show w3.heap[w.heap.size]? = some (.cells #[.int .i64 kd, .int .i64 (born : Int), .int .i64 (stay : Int), .int .i64 st, .int .i64 ra, .slice ta tn tc, .string s] 24 (0, 0)) ∧ w3.heap[w.heap.size + 1]? = some (.cells #[.int .u64 (a0 : Int), .int .u64 (a1 : Int)] 106 (0, 0)) ∧ w3.heap[w.heap.size + 1 + 1]? = some (.cells #[.int .u64 (h0 : Int), .int .u64 (h1 : Int)] 106 (0, 0)) ∧ w3.heap[w.heap.size + 1 + 1 + 1]? = some (.cells #[.int .u64 (b0 : Int), .int .u64 (b1 : Int)] 106 (0, 0)) ∧ w3.heap[w.heap.size + 1 + 1 + 1 + 1]? = some (.cells #[.int .u64 0, .int .u64 0] 106 (0, 0)) from
  ⟨(C2.block _ (by omega)).trans ((C1H.out.block _ (by omega)).trans G0.out.1), (C2.block _ (by omega)).trans e1, (C2.block _ (by omega)).trans e2, (C2.block _ (by omega)).trans e3, (C2.block _ (by omega)).trans ((C1H.out.block _ (by omega)).trans G0.out.2.2)⟩)
 have f1 := (C2.block p1 (lt_of_block D.out.1)).trans D.out.1
 have f2 := (C2.block p2 (lt_of_block D.out.2.1)).trans D.out.2.1
 have f3 := (C2.block p3 (lt_of_block D.out.2.2)).trans D.out.2.2
 have KP := hide' (And.intro f1 (And.intro f2 (And.intro f3 (And.intro d4 (And.intro d5 d6)))))
 have PN := hide' (show p1 ≠ w.heap.size + 1 + 1 + 1 + 1 + 1 ∧ p2 ≠ w.heap.size + 1 + 1 + 1 + 1 + 1 ∧ p3 ≠ w.heap.size + 1 + 1 + 1 + 1 + 1 ∧ p4 ≠ w.heap.size + 1 + 1 + 1 + 1 + 1 ∧ p5 ≠ w.heap.size + 1 + 1 + 1 + 1 + 1 ∧ p6 ≠ w.heap.size + 1 + 1 + 1 + 1 + 1 from by
  obtain ⟨y1, y2, y3⟩ := QQ.out
  refine ⟨?_, ?_, ?_, ?_, ?_, ?_⟩ <;> omega)
 clear z1 z2 C3 f1 f2 f3
 clear e1 e2 e3 C2 d4 d5 d6 n45 n46 n56 q4 q5 q6
 go_wp2
 go_loopw [43] (fun iv wr => ∃ (i x y : Nat), iv = .int .i64 (i : Int) ∧ i ≤ 2 ∧ Hid (LX w w3 wr x y) ∧ Hid ((1 ≤ i → x = X0) ∧ (2 ≤ i → y = X1))) (fun iv _ => 2 - (intOf iv).toNat)
 case atStart => exact ⟨0, 0, 0, rfl, by omega, XZ, hide' ⟨fun h => by omega, fun h => by omega⟩⟩
 case round =>
  obtain ⟨i, x, y, rfl, hi, HX, HV⟩ := hrel
  have i3 : i = 0 ∨ i = 1 ∨ i = 2 := by omega
  rcases i3 with rfl | rfl | rfl
  ·obtain ⟨k0, k1, k2, k3, -⟩ := KB.out
   obtain ⟨m1, m2, m3, m4, m5, m6⟩ := KP.out
   obtain ⟨t1, t2, t3, t4, t5, t6⟩ := PN.out
   have CL := hide' (fun (V : World) (x' y' : Nat) (hV : LX w w3 V x' y') => show V.cell? ⟨p1, 0, none⟩ = some (.int .u64 (al0 : Int)) ∧ V.cell? ⟨w.heap.size + 1, 0, none⟩ = some (.int .u64 (a0 : Int)) ∧ V.cell? ⟨p4, 0, none⟩ = some (.int .u64 (ar0 : Int)) ∧ V.cell? ⟨p3, 0, none⟩ = some (.int .u64 (bl0 : Int)) ∧ V.cell? ⟨w.heap.size + 1 + 1 + 1, 0, none⟩ = some (.int .u64 (b0 : Int)) ∧ V.cell? ⟨p6, 0, none⟩ = some (.int .u64 (br0 : Int)) ∧ V.cell? ⟨p2, 0, none⟩ = some (.int .u64 (hl0 : Int)) ∧ V.cell? ⟨p5, 0, none⟩ = some (.int .u64 (hr0 : Int)) ∧ V.cell? ⟨w.heap.size + 1 + 1, 0, none⟩ = some (.int .u64 (h0 : Int)) from
    ⟨cell_of_row V p1 0 _ _ _ ((hV.keep p1 (lt_of_block m1) t1).trans m1), cell_of_row V _ 0 _ _ _ ((hV.keep _ (lt_of_block k1) (by omega)).trans k1), cell_of_row V p4 0 _ _ _ ((hV.keep p4 (lt_of_block m4) t4).trans m4), cell_of_row V p3 0 _ _ _ ((hV.keep p3 (lt_of_block m3) t3).trans m3), cell_of_row V _ 0 _ _ _ ((hV.keep _ (lt_of_block k3) (by omega)).trans k3), cell_of_row V p6 0 _ _ _ ((hV.keep p6 (lt_of_block m6) t6).trans m6), cell_of_row V p2 0 _ _ _ ((hV.keep p2 (lt_of_block m2) t2).trans m2), cell_of_row V p5 0 _ _ _ ((hV.keep p5 (lt_of_block m5) t5).trans m5), cell_of_row V _ 0 _ _ _ ((hV.keep _ (lt_of_block k2) (by omega)).trans k2)⟩)
   have RU := hide' (fun (V : World) (x' y' : Nat) (hV : LX w w3 V x' y') => show V.cell? ⟨w.heap.size, 0, none⟩ = some (.int .i64 kd) ∧ V.cell? ⟨w.heap.size, 1, none⟩ = some (.int .i64 (born : Int)) ∧ V.cell? ⟨w.heap.size, 2, none⟩ = some (.int .i64 (stay : Int)) ∧ V.cell? ⟨w.heap.size, 3, none⟩ = some (.int .i64 st) ∧ V.cell? ⟨w.heap.size, 4, none⟩ = some (.int .i64 ra) ∧ V.cell? ⟨w.heap.size, 5, none⟩ = some (.slice ta tn tc) ∧ V.cell? ⟨w.heap.size, 6, none⟩ = some (.string s) from
    have e := (hV.keep _ (lt_of_block k0) (by omega)).trans k0
    ⟨cell_of_row V _ 0 _ _ _ e, cell_of_row V _ 1 _ _ _ e, cell_of_row V _ 2 _ _ _ e, cell_of_row V _ 3 _ _ _ e, cell_of_row V _ 4 _ _ _ e, cell_of_row V _ 5 _ _ _ e, cell_of_row V _ 6 _ _ _ e⟩)
   clear k0 k1 k2 k3 m1 m2 m3 m4 m5 m6 t1 t2 t3 t4 t5 t6
   obtain ⟨c1, c2, c3, c4, c5, c6, c7, c8, c9⟩ := CL.out wr x y HX.out
   have A1 := hide' (fun w => add_any al0 a0 ar0 w BD.out.1 (by omega) BD.out.2.2.1)
   have A2 := hide' (fun w => add_any bl0 b0 br0 w BD.out.2.2.2.2.1 (by omega) BD.out.2.2.2.2.2.2.1)
   have A3 := hide' (fun w => show Calls Tryz.prog 103 #[.int .u64 (hl0 : Int), .int .u64 (hr0 : Int), .int .u64 0] w _ from add_any hl0 hr0 0 w BD.out.2.2.2.2.2.2.2.2.1 BD.out.2.2.2.2.2.2.2.2.2.2.1 (by omega))
   have L1 := addS_lt (a := al0) (b := a0) (c := ar0) BD.out.1 (by omega) BD.out.2.2.1
   have L2 := addC_lt (a := al0) (b := a0) (c := ar0) BD.out.1 (by omega) BD.out.2.2.1
   have L3 := addS_lt (a := bl0) (b := b0) (c := br0) BD.out.2.2.2.2.1 (by omega) BD.out.2.2.2.2.2.2.1
   have L4 := addC_lt (a := bl0) (b := b0) (c := br0) BD.out.2.2.2.2.1 (by omega) BD.out.2.2.2.2.2.2.1
   have L5 := addS_lt (a := hl0) (b := hr0) (c := 0) BD.out.2.2.2.2.2.2.2.2.1 BD.out.2.2.2.2.2.2.2.2.2.2.1 (by decide)
   have L6 := addC_lt (a := hl0) (b := hr0) (c := 0) BD.out.2.2.2.2.2.2.2.2.1 BD.out.2.2.2.2.2.2.2.2.2.2.1 (by decide)
   have WW := hide' (show becW born stay al0 a0 ar0 hl0 h0 hr0 bl0 b0 br0 = X0 from hX0.out)
   unfold becW at WW
   obtain ⟨s1, j1⟩ : ∃ x, addS al0 a0 ar0 = x := ⟨_, rfl⟩
   obtain ⟨u1, j2⟩ : ∃ x, addC al0 a0 ar0 = x := ⟨_, rfl⟩
   obtain ⟨s2, j3⟩ : ∃ x, addS bl0 b0 br0 = x := ⟨_, rfl⟩
   obtain ⟨u2, j4⟩ : ∃ x, addC bl0 b0 br0 = x := ⟨_, rfl⟩
   obtain ⟨s3, j5⟩ : ∃ x, addS hl0 hr0 0 = x := ⟨_, rfl⟩
   obtain ⟨u3, j6⟩ : ∃ x, addC hl0 hr0 0 = x := ⟨_, rfl⟩
   rw [j1, j2] at A1
   rw [j3, j4] at A2
   rw [j5, j6] at A3
   rw [j1, j2, j3, j4, j5, j6] at WW
   rw [j1] at L1
   rw [j2] at L2
   rw [j3] at L3
   rw [j4] at L4
   rw [j5] at L5
   rw [j6] at L6
   clear j1 j2 j3 j4 j5 j6
   have A4 := hide' (fun w => add_any s1 s2 s3 w L1 L3 L5)
   have A5 := hide' (fun w => add_any u1 u2 u3 w L2 L4 L6)
   have M1 := addS_lt L1 L3 L5
   have M2 := addC_lt L1 L3 L5
   have M3 := addS_lt L2 L4 L6
   have M4 := addC_lt L2 L4 L6
   obtain ⟨one, j1⟩ : ∃ x, addS s1 s2 s3 = x := ⟨_, rfl⟩
   obtain ⟨ct, j2⟩ : ∃ x, addC s1 s2 s3 = x := ⟨_, rfl⟩
   obtain ⟨tw, j3⟩ : ∃ x, addS u1 u2 u3 = x := ⟨_, rfl⟩
   obtain ⟨fo, j4⟩ : ∃ x, addC u1 u2 u3 = x := ⟨_, rfl⟩
   rw [j1, j2] at A4
   rw [j3, j4] at A5
   rw [j1, j2, j3, j4] at WW
   rw [j1] at M1
   rw [j2] at M2
   rw [j3] at M3
   rw [j4] at M4
   clear j1 j2 j3 j4
   have A6 := hide' (fun w => show Calls Tryz.prog 103 #[.int .u64 (tw : Int), .int .u64 (ct : Int), .int .u64 0] w _ from add_any tw ct 0 w M3 M2 (by omega))
   have M5 := addS_lt M3 M2 (show 0 < 2 ^ 64 by decide)
   have M6 := addC_lt M3 M2 (show 0 < 2 ^ 64 by decide)
   obtain ⟨two, j1⟩ : ∃ x, addS tw ct 0 = x := ⟨_, rfl⟩
   obtain ⟨cf, j2⟩ : ∃ x, addC tw ct 0 = x := ⟨_, rfl⟩
   rw [j1, j2] at A6 WW
   rw [j1] at M5
   rw [j2] at M6
   clear j1 j2
   have A7 := hide' (fun w => show Calls Tryz.prog 103 #[.int .u64 (fo : Int), .int .u64 (cf : Int), .int .u64 0] w _ from add_any fo cf 0 w M4 M6 (by omega))
   have M7 := addS_lt M4 M6 (show 0 < 2 ^ 64 by decide)
   have M8 := addC_lt M4 M6 (show 0 < 2 ^ 64 by decide)
   obtain ⟨four, j1⟩ : ∃ x, addS fo cf 0 = x := ⟨_, rfl⟩
   obtain ⟨eight, j2⟩ : ∃ x, addC fo cf 0 = x := ⟨_, rfl⟩
   rw [j1, j2] at A7 WW
   rw [j1] at M7
   rw [j2] at M8
   clear j1 j2
   have CC := hide' (fun w => chosen_any kd st ra born stay ta tn tc s h0 one two four eight w HB.out HS.out (by omega) M1 M5 M7 M8)
   rw [WW.out] at CC
   clear WW L1 L2 L3 L4 L5 L6 M1 M2 M3 M4 M5 M6 M7 M8
   go_wp2
   go_quiet (first | (go_at_call 103; exact Calls.quiet_of_same (A1.out _)))
   go_wp2
   go_region_held3 (fun w' => w'.cell? ⟨p3, 0, none⟩ = some (.int .u64 (bl0 : Int)) ∧ w'.cell? ⟨w.heap.size + 1 + 1 + 1, 0, none⟩ = some (.int .u64 (b0 : Int)) ∧ w'.cell? ⟨p6, 0, none⟩ = some (.int .u64 (br0 : Int))) (exact ⟨c4, c5, c6⟩) (first | (go_at_call 103; refine (A2.out _).mono ?_; rintro e w' ⟨rfl, rfl⟩))
   go_wp2
   go_region_held3 (fun w' => w'.cell? ⟨p2, 0, none⟩ = some (.int .u64 (hl0 : Int)) ∧ w'.cell? ⟨p5, 0, none⟩ = some (.int .u64 (hr0 : Int))) (exact ⟨c7, c8⟩) (first | (go_at_call 103; refine (A3.out _).mono ?_; rintro e w' ⟨rfl, rfl⟩))
   go_wp2_with fail
   refine (A4.out _).mono ?_
   rintro e w' ⟨rfl, rfl⟩
   go_wp2_with fail
   refine (A5.out _).mono ?_
   rintro e w' ⟨rfl, rfl⟩
   go_wp2_with fail
   refine (A6.out _).mono ?_
   rintro e w' ⟨rfl, rfl⟩
   go_wp2_with fail
   refine (A7.out _).mono ?_
   rintro e w' ⟨rfl, rfl⟩
   go_wp2
   have SV := fun (V : World) (x' y' : Nat) (hV : LX w w3 V x' y') => (show V.cell? ⟨w.heap.size, 0, none⟩ = some (.int .i64 kd) ∧ V.cell? ⟨w.heap.size, 1, none⟩ = some (.int .i64 (born : Int)) ∧ V.cell? ⟨w.heap.size, 2, none⟩ = some (.int .i64 (stay : Int)) ∧ V.cell? ⟨w.heap.size, 3, none⟩ = some (.int .i64 st) ∧ V.cell? ⟨w.heap.size, 4, none⟩ = some (.int .i64 ra) ∧ V.cell? ⟨w.heap.size, 5, none⟩ = some (.slice ta tn tc) ∧ V.cell? ⟨w.heap.size, 6, none⟩ = some (.string s) ∧ V.cell? ⟨w.heap.size + 1 + 1, 0, none⟩ = some (.int .u64 (h0 : Int)) ∧ True from
    ⟨(RU.out V x' y' hV).1, (RU.out V x' y' hV).2.1, (RU.out V x' y' hV).2.2.1, (RU.out V x' y' hV).2.2.2.1, (RU.out V x' y' hV).2.2.2.2.1, (RU.out V x' y' hV).2.2.2.2.2.1, (RU.out V x' y' hV).2.2.2.2.2.2, (CL.out V x' y' hV).2.2.2.2.2.2.2.2, trivial⟩)
   have SVH := hide' SV
   clear SV c1 c2 c3 c4 c5 c6 c7 c8 c9
   go_region_held3 (fun V => V.cell? ⟨w.heap.size, 0, none⟩ = some (.int .i64 kd) ∧ V.cell? ⟨w.heap.size, 1, none⟩ = some (.int .i64 (born : Int)) ∧ V.cell? ⟨w.heap.size, 2, none⟩ = some (.int .i64 (stay : Int)) ∧ V.cell? ⟨w.heap.size, 3, none⟩ = some (.int .i64 st) ∧ V.cell? ⟨w.heap.size, 4, none⟩ = some (.int .i64 ra) ∧ V.cell? ⟨w.heap.size, 5, none⟩ = some (.slice ta tn tc) ∧ V.cell? ⟨w.heap.size, 6, none⟩ = some (.string s) ∧ V.cell? ⟨w.heap.size + 1 + 1, 0, none⟩ = some (.int .u64 (h0 : Int)) ∧ True) (first | exact SVH.out _ _ _ H2.out | exact SVH.out _ _ _ H1.out | exact SVH.out _ x y ⟨HX.out.keep, HX.out.out, ⟨HX.out.below.os, HX.out.below.tape, HX.out.below.output, HX.out.below.size, HX.out.below.block⟩, HX.out.size⟩ | fail)
    (first
     | (go_at_call 104; refine (CC.out _).mono ?_; rintro e w' ⟨rfl, hb1⟩; have H1 := hide' (LX.next HX.out (show Below wr.heap.size wr w' from ⟨hb1.os, hb1.tape, hb1.output, hb1.size, hb1.block⟩)); have cz : w'.cell? ⟨w.heap.size + 1 + 1 + 1 + 1 + 1, 0, none⟩ = some (.int .u64 (x : Int)) := cell_of_row w' _ 0 _ _ _ H1.out.out; have fz : w'.frozen? ⟨w.heap.size + 1 + 1 + 1 + 1 + 1, 0, none⟩ = false := frozen_of_row w' _ 0 _ _ H1.out.out; have H2 := hide' (LX.set0 H1.out X0); clear hb1)
     | fail)
   go_wp2
   exact ⟨⟨0 + 1, X0, y, by go_num, by omega, H2, hide' ⟨fun _ => rfl, fun h => by omega⟩⟩, by simp [intOf]⟩
  ·obtain ⟨k0, k1, k2, k3, -⟩ := KB.out
   obtain ⟨m1, m2, m3, m4, m5, m6⟩ := KP.out
   obtain ⟨t1, t2, t3, t4, t5, t6⟩ := PN.out
   have CL := hide' (fun (V : World) (x' y' : Nat) (hV : LX w w3 V x' y') => show V.cell? ⟨p1, 1, none⟩ = some (.int .u64 (al1 : Int)) ∧ V.cell? ⟨w.heap.size + 1, 1, none⟩ = some (.int .u64 (a1 : Int)) ∧ V.cell? ⟨p4, 1, none⟩ = some (.int .u64 (ar1 : Int)) ∧ V.cell? ⟨p3, 1, none⟩ = some (.int .u64 (bl1 : Int)) ∧ V.cell? ⟨w.heap.size + 1 + 1 + 1, 1, none⟩ = some (.int .u64 (b1 : Int)) ∧ V.cell? ⟨p6, 1, none⟩ = some (.int .u64 (br1 : Int)) ∧ V.cell? ⟨p2, 1, none⟩ = some (.int .u64 (hl1 : Int)) ∧ V.cell? ⟨p5, 1, none⟩ = some (.int .u64 (hr1 : Int)) ∧ V.cell? ⟨w.heap.size + 1 + 1, 1, none⟩ = some (.int .u64 (h1 : Int)) from
    ⟨cell_of_row V p1 1 _ _ _ ((hV.keep p1 (lt_of_block m1) t1).trans m1), cell_of_row V _ 1 _ _ _ ((hV.keep _ (lt_of_block k1) (by omega)).trans k1), cell_of_row V p4 1 _ _ _ ((hV.keep p4 (lt_of_block m4) t4).trans m4), cell_of_row V p3 1 _ _ _ ((hV.keep p3 (lt_of_block m3) t3).trans m3), cell_of_row V _ 1 _ _ _ ((hV.keep _ (lt_of_block k3) (by omega)).trans k3), cell_of_row V p6 1 _ _ _ ((hV.keep p6 (lt_of_block m6) t6).trans m6), cell_of_row V p2 1 _ _ _ ((hV.keep p2 (lt_of_block m2) t2).trans m2), cell_of_row V p5 1 _ _ _ ((hV.keep p5 (lt_of_block m5) t5).trans m5), cell_of_row V _ 1 _ _ _ ((hV.keep _ (lt_of_block k2) (by omega)).trans k2)⟩)
   have RU := hide' (fun (V : World) (x' y' : Nat) (hV : LX w w3 V x' y') => show V.cell? ⟨w.heap.size, 0, none⟩ = some (.int .i64 kd) ∧ V.cell? ⟨w.heap.size, 1, none⟩ = some (.int .i64 (born : Int)) ∧ V.cell? ⟨w.heap.size, 2, none⟩ = some (.int .i64 (stay : Int)) ∧ V.cell? ⟨w.heap.size, 3, none⟩ = some (.int .i64 st) ∧ V.cell? ⟨w.heap.size, 4, none⟩ = some (.int .i64 ra) ∧ V.cell? ⟨w.heap.size, 5, none⟩ = some (.slice ta tn tc) ∧ V.cell? ⟨w.heap.size, 6, none⟩ = some (.string s) from
    have e := (hV.keep _ (lt_of_block k0) (by omega)).trans k0
    ⟨cell_of_row V _ 0 _ _ _ e, cell_of_row V _ 1 _ _ _ e, cell_of_row V _ 2 _ _ _ e, cell_of_row V _ 3 _ _ _ e, cell_of_row V _ 4 _ _ _ e, cell_of_row V _ 5 _ _ _ e, cell_of_row V _ 6 _ _ _ e⟩)
   clear k0 k1 k2 k3 m1 m2 m3 m4 m5 m6 t1 t2 t3 t4 t5 t6
   obtain ⟨c1, c2, c3, c4, c5, c6, c7, c8, c9⟩ := CL.out wr x y HX.out
   have A1 := hide' (fun w => add_any al1 a1 ar1 w BD.out.2.1 (by omega) BD.out.2.2.2.1)
   have A2 := hide' (fun w => add_any bl1 b1 br1 w BD.out.2.2.2.2.2.1 (by omega) BD.out.2.2.2.2.2.2.2.1)
   have A3 := hide' (fun w => show Calls Tryz.prog 103 #[.int .u64 (hl1 : Int), .int .u64 (hr1 : Int), .int .u64 0] w _ from add_any hl1 hr1 0 w BD.out.2.2.2.2.2.2.2.2.2.1 BD.out.2.2.2.2.2.2.2.2.2.2.2 (by omega))
   have L1 := addS_lt (a := al1) (b := a1) (c := ar1) BD.out.2.1 (by omega) BD.out.2.2.2.1
   have L2 := addC_lt (a := al1) (b := a1) (c := ar1) BD.out.2.1 (by omega) BD.out.2.2.2.1
   have L3 := addS_lt (a := bl1) (b := b1) (c := br1) BD.out.2.2.2.2.2.1 (by omega) BD.out.2.2.2.2.2.2.2.1
   have L4 := addC_lt (a := bl1) (b := b1) (c := br1) BD.out.2.2.2.2.2.1 (by omega) BD.out.2.2.2.2.2.2.2.1
   have L5 := addS_lt (a := hl1) (b := hr1) (c := 0) BD.out.2.2.2.2.2.2.2.2.2.1 BD.out.2.2.2.2.2.2.2.2.2.2.2 (by decide)
   have L6 := addC_lt (a := hl1) (b := hr1) (c := 0) BD.out.2.2.2.2.2.2.2.2.2.1 BD.out.2.2.2.2.2.2.2.2.2.2.2 (by decide)
   have WW := hide' (show becW born stay al1 a1 ar1 hl1 h1 hr1 bl1 b1 br1 = X1 from hX1.out)
   unfold becW at WW
   obtain ⟨s1, j1⟩ : ∃ x, addS al1 a1 ar1 = x := ⟨_, rfl⟩
   obtain ⟨u1, j2⟩ : ∃ x, addC al1 a1 ar1 = x := ⟨_, rfl⟩
   obtain ⟨s2, j3⟩ : ∃ x, addS bl1 b1 br1 = x := ⟨_, rfl⟩
   obtain ⟨u2, j4⟩ : ∃ x, addC bl1 b1 br1 = x := ⟨_, rfl⟩
   obtain ⟨s3, j5⟩ : ∃ x, addS hl1 hr1 0 = x := ⟨_, rfl⟩
   obtain ⟨u3, j6⟩ : ∃ x, addC hl1 hr1 0 = x := ⟨_, rfl⟩
   rw [j1, j2] at A1
   rw [j3, j4] at A2
   rw [j5, j6] at A3
   rw [j1, j2, j3, j4, j5, j6] at WW
   rw [j1] at L1
   rw [j2] at L2
   rw [j3] at L3
   rw [j4] at L4
   rw [j5] at L5
   rw [j6] at L6
   clear j1 j2 j3 j4 j5 j6
   have A4 := hide' (fun w => add_any s1 s2 s3 w L1 L3 L5)
   have A5 := hide' (fun w => add_any u1 u2 u3 w L2 L4 L6)
   have M1 := addS_lt L1 L3 L5
   have M2 := addC_lt L1 L3 L5
   have M3 := addS_lt L2 L4 L6
   have M4 := addC_lt L2 L4 L6
   obtain ⟨one, j1⟩ : ∃ x, addS s1 s2 s3 = x := ⟨_, rfl⟩
   obtain ⟨ct, j2⟩ : ∃ x, addC s1 s2 s3 = x := ⟨_, rfl⟩
   obtain ⟨tw, j3⟩ : ∃ x, addS u1 u2 u3 = x := ⟨_, rfl⟩
   obtain ⟨fo, j4⟩ : ∃ x, addC u1 u2 u3 = x := ⟨_, rfl⟩
   rw [j1, j2] at A4
   rw [j3, j4] at A5
   rw [j1, j2, j3, j4] at WW
   rw [j1] at M1
   rw [j2] at M2
   rw [j3] at M3
   rw [j4] at M4
   clear j1 j2 j3 j4
   have A6 := hide' (fun w => show Calls Tryz.prog 103 #[.int .u64 (tw : Int), .int .u64 (ct : Int), .int .u64 0] w _ from add_any tw ct 0 w M3 M2 (by omega))
   have M5 := addS_lt M3 M2 (show 0 < 2 ^ 64 by decide)
   have M6 := addC_lt M3 M2 (show 0 < 2 ^ 64 by decide)
   obtain ⟨two, j1⟩ : ∃ x, addS tw ct 0 = x := ⟨_, rfl⟩
   obtain ⟨cf, j2⟩ : ∃ x, addC tw ct 0 = x := ⟨_, rfl⟩
   rw [j1, j2] at A6 WW
   rw [j1] at M5
   rw [j2] at M6
   clear j1 j2
   have A7 := hide' (fun w => show Calls Tryz.prog 103 #[.int .u64 (fo : Int), .int .u64 (cf : Int), .int .u64 0] w _ from add_any fo cf 0 w M4 M6 (by omega))
   have M7 := addS_lt M4 M6 (show 0 < 2 ^ 64 by decide)
   have M8 := addC_lt M4 M6 (show 0 < 2 ^ 64 by decide)
   obtain ⟨four, j1⟩ : ∃ x, addS fo cf 0 = x := ⟨_, rfl⟩
   obtain ⟨eight, j2⟩ : ∃ x, addC fo cf 0 = x := ⟨_, rfl⟩
   rw [j1, j2] at A7 WW
   rw [j1] at M7
   rw [j2] at M8
   clear j1 j2
   have CC := hide' (fun w => chosen_any kd st ra born stay ta tn tc s h1 one two four eight w HB.out HS.out (by omega) M1 M5 M7 M8)
   rw [WW.out] at CC
   clear WW L1 L2 L3 L4 L5 L6 M1 M2 M3 M4 M5 M6 M7 M8
   go_wp2
   go_quiet (first | (go_at_call 103; exact Calls.quiet_of_same (A1.out _)))
   go_wp2
   go_region_held3 (fun w' => w'.cell? ⟨p3, 1, none⟩ = some (.int .u64 (bl1 : Int)) ∧ w'.cell? ⟨w.heap.size + 1 + 1 + 1, 1, none⟩ = some (.int .u64 (b1 : Int)) ∧ w'.cell? ⟨p6, 1, none⟩ = some (.int .u64 (br1 : Int))) (exact ⟨c4, c5, c6⟩) (first | (go_at_call 103; refine (A2.out _).mono ?_; rintro e w' ⟨rfl, rfl⟩))
   go_wp2
   go_region_held3 (fun w' => w'.cell? ⟨p2, 1, none⟩ = some (.int .u64 (hl1 : Int)) ∧ w'.cell? ⟨p5, 1, none⟩ = some (.int .u64 (hr1 : Int))) (exact ⟨c7, c8⟩) (first | (go_at_call 103; refine (A3.out _).mono ?_; rintro e w' ⟨rfl, rfl⟩))
   go_wp2_with fail
   refine (A4.out _).mono ?_
   rintro e w' ⟨rfl, rfl⟩
   go_wp2_with fail
   refine (A5.out _).mono ?_
   rintro e w' ⟨rfl, rfl⟩
   go_wp2_with fail
   refine (A6.out _).mono ?_
   rintro e w' ⟨rfl, rfl⟩
   go_wp2_with fail
   refine (A7.out _).mono ?_
   rintro e w' ⟨rfl, rfl⟩
   go_wp2
   have SV := fun (V : World) (x' y' : Nat) (hV : LX w w3 V x' y') => (show V.cell? ⟨w.heap.size, 0, none⟩ = some (.int .i64 kd) ∧ V.cell? ⟨w.heap.size, 1, none⟩ = some (.int .i64 (born : Int)) ∧ V.cell? ⟨w.heap.size, 2, none⟩ = some (.int .i64 (stay : Int)) ∧ V.cell? ⟨w.heap.size, 3, none⟩ = some (.int .i64 st) ∧ V.cell? ⟨w.heap.size, 4, none⟩ = some (.int .i64 ra) ∧ V.cell? ⟨w.heap.size, 5, none⟩ = some (.slice ta tn tc) ∧ V.cell? ⟨w.heap.size, 6, none⟩ = some (.string s) ∧ V.cell? ⟨w.heap.size + 1 + 1, 1, none⟩ = some (.int .u64 (h1 : Int)) ∧ True from
    ⟨(RU.out V x' y' hV).1, (RU.out V x' y' hV).2.1, (RU.out V x' y' hV).2.2.1, (RU.out V x' y' hV).2.2.2.1, (RU.out V x' y' hV).2.2.2.2.1, (RU.out V x' y' hV).2.2.2.2.2.1, (RU.out V x' y' hV).2.2.2.2.2.2, (CL.out V x' y' hV).2.2.2.2.2.2.2.2, trivial⟩)
   have SVH := hide' SV
   clear SV c1 c2 c3 c4 c5 c6 c7 c8 c9
   go_region_held3 (fun V => V.cell? ⟨w.heap.size, 0, none⟩ = some (.int .i64 kd) ∧ V.cell? ⟨w.heap.size, 1, none⟩ = some (.int .i64 (born : Int)) ∧ V.cell? ⟨w.heap.size, 2, none⟩ = some (.int .i64 (stay : Int)) ∧ V.cell? ⟨w.heap.size, 3, none⟩ = some (.int .i64 st) ∧ V.cell? ⟨w.heap.size, 4, none⟩ = some (.int .i64 ra) ∧ V.cell? ⟨w.heap.size, 5, none⟩ = some (.slice ta tn tc) ∧ V.cell? ⟨w.heap.size, 6, none⟩ = some (.string s) ∧ V.cell? ⟨w.heap.size + 1 + 1, 1, none⟩ = some (.int .u64 (h1 : Int)) ∧ True) (first | exact SVH.out _ _ _ H2.out | exact SVH.out _ _ _ H1.out | exact SVH.out _ x y ⟨HX.out.keep, HX.out.out, ⟨HX.out.below.os, HX.out.below.tape, HX.out.below.output, HX.out.below.size, HX.out.below.block⟩, HX.out.size⟩ | fail)
    (first
     | (go_at_call 104; refine (CC.out _).mono ?_; rintro e w' ⟨rfl, hb1⟩; have H1 := hide' (LX.next HX.out (show Below wr.heap.size wr w' from ⟨hb1.os, hb1.tape, hb1.output, hb1.size, hb1.block⟩)); have cz : w'.cell? ⟨w.heap.size + 1 + 1 + 1 + 1 + 1, 1, none⟩ = some (.int .u64 (y : Int)) := cell_of_row w' _ 1 _ _ _ H1.out.out; have fz : w'.frozen? ⟨w.heap.size + 1 + 1 + 1 + 1 + 1, 1, none⟩ = false := frozen_of_row w' _ 1 _ _ H1.out.out; have H2 := hide' (LX.set1 H1.out X1); clear hb1)
     | fail)
   go_wp2
   exact ⟨⟨1 + 1, x, X1, by go_num, by omega, H2, hide' ⟨fun _ => HV.out.1 (by omega), fun _ => rfl⟩⟩, by simp [intOf]⟩
  ·have EX : x = X0 := HV.out.1 (by omega)
   have EY : y = X1 := HV.out.2 (by omega)
   have k4 := (HX.out.keep _ (lt_of_block KB.out.2.2.2.2) (by omega)).trans KB.out.2.2.2.2
   have r0 := cell_of_row wr _ 0 _ _ _ HX.out.out
   have r1 := cell_of_row wr _ 1 _ _ _ HX.out.out
   have r2 := cell_of_row wr _ 0 _ _ _ k4
   have r3 := cell_of_row wr _ 1 _ _ _ k4
   have f0 := frozen_of_row wr _ 0 _ _ k4
   have f1 := frozen_of_row wr _ 1 _ _ k4
   simp at r0 r1 r2 r3
   subst EX
   subst EY
   clear k4
   go_wp2
   refine bodyPost_ret (v := .agg #[.int .u64 (x : Int), .int .u64 (y : Int)]) (by simp [results, Tryz.results76, go_sem, r2, r3]) rfl ?_
   exact ⟨rfl, (HX.out.below.setCell (by simp; omega) _).setCell (by simp; omega) _⟩
end Go.Proofs.YtemhcpldflcfbaaGreatDoor
