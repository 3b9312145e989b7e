/-
  What the last text of this claim leans on, part 42: Gr7, Gr8.
-/
import Derived.Test.YtemhcpldflcfbaaGreatDoorYf14
import Derived.Test.YtemhcpldflcfbaaGreatDoorYf41
namespace Go.Proofs.YtemhcpldflcfbaaGreatDoor
open Go.RowKit
set_option linter.unusedVariables false
def tR0 (X : Nat → Nat) (H j : Nat) : Nat := if 2 ≤ j ∧ j - 2 < H then rgt0 (X ((j - 2) * 2)) else 0
def tR1 (X : Nat → Nat) (H j : Nat) : Nat := if 2 ≤ j ∧ j - 2 < H then rgt1 (X ((j - 2) * 2)) (X ((j - 2) * 2 + 1)) else 0
def stepX (born stay : Nat) (X : Nat → Nat) (H n k : Nat) : Nat :=
 if k / 2 < n then (if k % 2 = 0 then becR0 born stay (tR0 X H (k / 2)) (tR1 X H (k / 2)) (tR0 X H (k / 2 + 1)) (tR1 X H (k / 2 + 1)) (tR0 X H (k / 2 + 2)) (tR1 X H (k / 2 + 2)) else becR1 born stay (tR0 X H (k / 2)) (tR1 X H (k / 2)) (tR0 X H (k / 2 + 1)) (tR1 X H (k / 2 + 1)) (tR0 X H (k / 2 + 2)) (tR1 X H (k / 2 + 2))) else 0
theorem tR0_lt (X : Nat → Nat) (H j : Nat) : tR0 X H j < 18446744073709551616 := by unfold tR0; split; exact rgt0_lt _; omega
theorem tR1_lt {X : Nat → Nat} {H j : Nat} (hX : ∀ k, X k < 18446744073709551616) : tR1 X H j < 18446744073709551616 := by unfold tR1; split; exact rgt1_lt (hX _); omega
theorem becW_lt {born stay al a ar hl h hr bl b br : Nat} (h5 : h < 18446744073709551616) : becW born stay al a ar hl h hr bl b br < 18446744073709551616 := chosenN_lt (h := h) h5 9
structure SX (w w4 wr : World) (a0 a1 h0 h1 b0 b1 : Nat) (Y : Nat → Nat) : Prop where
 keep : ∀ k, k < w.heap.size + 1 + 1 + 1 → wr.heap[k]? = w4.heap[k]?
 sheet : wr.heap[w.heap.size + 1 + 1 + 1]? = some (.cells (arrF 204 (uF Y)) 108 (0, 0))
 above : wr.heap[w.heap.size + 1 + 1 + 1 + 1]? = some (.cells #[.int .u64 (a0 : Int), .int .u64 (a1 : Int)] 106 (0, 0))
 here : wr.heap[w.heap.size + 1 + 1 + 1 + 1 + 1]? = some (.cells #[.int .u64 (h0 : Int), .int .u64 (h1 : Int)] 106 (0, 0))
 low : wr.heap[w.heap.size + 1 + 1 + 1 + 1 + 1 + 1]? = some (.cells #[.int .u64 (b0 : Int), .int .u64 (b1 : Int)] 106 (0, 0))
 below : Below w.heap.size w wr
theorem SX.next {w w4 wr w' : World} {a0 a1 h0 h1 b0 b1 : Nat} {Y : Nat → Nat} (h : SX w w4 wr a0 a1 h0 h1 b0 b1 Y) (b : Below wr.heap.size wr w') : SX w w4 w' a0 a1 h0 h1 b0 b1 Y := by
 have l := lt_of_block h.low
 exact ⟨fun k hk => (b.block k (by omega)).trans (h.keep k hk), (b.block _ (by omega)).trans h.sheet, (b.block _ (by omega)).trans h.above, (b.block _ (by omega)).trans h.here, (b.block _ l).trans h.low, h.below.trans (b.mono h.below.size)⟩
theorem other_keep {w : World} {k : Nat} (b i : Nat) (v : Value) (hn : k ≠ b) : (w.setCell ⟨b, i, none⟩ v).heap[k]? = w.heap[k]? := Below.heap_setCell _ _ _ _ hn
theorem SX.set {w w4 wr : World} {a0 a1 h0 h1 b0 b1 : Nat} {Y : Nat → Nat} (h : SX w w4 wr a0 a1 h0 h1 b0 b1 Y) (i v : Nat) : SX w w4 (wr.setCell ⟨w.heap.size + 1 + 1 + 1, i, none⟩ (.int .u64 (v : Int))) a0 a1 h0 h1 b0 b1 (fun k => if k = i then v else Y k) := by
 refine ⟨fun k hk => (other_keep _ _ _ (by omega)).trans (h.keep k hk), ?_, two_other h.above _ _ _ (by omega), two_other h.here _ _ _ (by omega), two_other h.low _ _ _ (by omega), h.below.setCell (by simp; omega) _⟩
 rw [heap_setCell_same _ _ _ _ _ _ h.sheet, arrF_set]
 rw [arrF_ext (fun k _ => show (if k = i then Value.int .u64 (v : Int) else uF Y k) = uF (fun k => if k = i then v else Y k) k by unfold uF; by_cases q : k = i <;> simp [q])]
theorem SX.ext {w w4 wr : World} {a0 a1 h0 h1 b0 b1 : Nat} {Y Y' : Nat → Nat} (h : SX w w4 wr a0 a1 h0 h1 b0 b1 Y) (e : ∀ k, k < 204 → Y k = Y' k) : SX w w4 wr a0 a1 h0 h1 b0 b1 Y' :=
 ⟨h.keep, by rw [arrF_ext (fun k hk => show uF Y' k = uF Y k by unfold uF; rw [e k hk])]; exact h.sheet, h.above, h.here, h.low, h.below⟩
theorem SX.setAbove {w w4 wr : World} {a0 a1 h0 h1 b0 b1 : Nat} {Y : Nat → Nat} (h : SX w w4 wr a0 a1 h0 h1 b0 b1 Y) (c0 c1 : Nat) : SX w w4 ((wr.setCell ⟨w.heap.size + 1 + 1 + 1 + 1, 0, none⟩ (.int .u64 (c0 : Int))).setCell ⟨w.heap.size + 1 + 1 + 1 + 1, 1, none⟩ (.int .u64 (c1 : Int))) c0 c1 h0 h1 b0 b1 Y :=
 ⟨fun k hk => (other_keep _ _ _ (by omega)).trans ((other_keep _ _ _ (by omega)).trans (h.keep k hk)), two_other (two_other h.sheet _ _ _ (by omega)) _ _ _ (by omega), two_set1 (two_set0 h.above _) _, two_other (two_other h.here _ _ _ (by omega)) _ _ _ (by omega), two_other (two_other h.low _ _ _ (by omega)) _ _ _ (by omega), (h.below.setCell (by simp; omega) _).setCell (by simp; omega) _⟩
theorem SX.setHere {w w4 wr : World} {a0 a1 h0 h1 b0 b1 : Nat} {Y : Nat → Nat} (h : SX w w4 wr a0 a1 h0 h1 b0 b1 Y) (c0 c1 : Nat) : SX w w4 ((wr.setCell ⟨w.heap.size + 1 + 1 + 1 + 1 + 1, 0, none⟩ (.int .u64 (c0 : Int))).setCell ⟨w.heap.size + 1 + 1 + 1 + 1 + 1, 1, none⟩ (.int .u64 (c1 : Int))) a0 a1 c0 c1 b0 b1 Y :=
 ⟨fun k hk => (other_keep _ _ _ (by omega)).trans ((other_keep _ _ _ (by omega)).trans (h.keep k hk)), two_other (two_other h.sheet _ _ _ (by omega)) _ _ _ (by omega), two_other (two_other h.above _ _ _ (by omega)) _ _ _ (by omega), two_set1 (two_set0 h.here _) _, two_other (two_other h.low _ _ _ (by omega)) _ _ _ (by omega), (h.below.setCell (by simp; omega) _).setCell (by simp; omega) _⟩
theorem SX.setLow {w w4 wr : World} {a0 a1 h0 h1 b0 b1 : Nat} {Y : Nat → Nat} (h : SX w w4 wr a0 a1 h0 h1 b0 b1 Y) (c0 c1 : Nat) : SX w w4 ((wr.setCell ⟨w.heap.size + 1 + 1 + 1 + 1 + 1 + 1, 0, none⟩ (.int .u64 (c0 : Int))).setCell ⟨w.heap.size + 1 + 1 + 1 + 1 + 1 + 1, 1, none⟩ (.int .u64 (c1 : Int))) a0 a1 h0 h1 c0 c1 Y :=
 ⟨fun k hk => (other_keep _ _ _ (by omega)).trans ((other_keep _ _ _ (by omega)).trans (h.keep k hk)), two_other (two_other h.sheet _ _ _ (by omega)) _ _ _ (by omega), two_other (two_other h.above _ _ _ (by omega)) _ _ _ (by omega), two_other (two_other h.here _ _ _ (by omega)) _ _ _ (by omega), two_set1 (two_set0 h.low _) _, (h.below.setCell (by simp; omega) _).setCell (by simp; omega) _⟩
theorem SX.drewN {w w4 wr : World} {a0 a1 h0 h1 b0 b1 : Nat} {Y : Nat → Nat} (h : SX w w4 wr a0 a1 h0 h1 b0 b1 Y) : SX w w4 wr.drew a0 a1 h0 h1 b0 b1 Y := ⟨h.keep, h.sheet, h.above, h.here, h.low, h.below.drew⟩
theorem stepX_step (born stay : Nat) (X : Nat → Nat) (H y : Nat) (k : Nat) :
  (fun k => if k = y * 2 + 1 then becR1 born stay (tR0 X H y) (tR1 X H y) (tR0 X H (y + 1)) (tR1 X H (y + 1)) (tR0 X H (y + 2)) (tR1 X H (y + 2)) else (fun k => if k = y * 2 then becR0 born stay (tR0 X H y) (tR1 X H y) (tR0 X H (y + 1)) (tR1 X H (y + 1)) (tR0 X H (y + 2)) (tR1 X H (y + 2)) else stepX born stay X H y k) k) k = stepX born stay X H (y + 1) k := by
 dsimp only
 by_cases h1 : k = y * 2 + 1
 ·subst h1
  rw [if_pos rfl]
  unfold stepX
  have e1 : (y * 2 + 1) / 2 = y := by omega
  have e2 : ¬ (y * 2 + 1) % 2 = 0 := by omega
  rw [e1, if_pos (Nat.lt_succ_self y), if_neg e2]
 ·rw [if_neg h1]
  by_cases h2 : k = y * 2
  ·subst h2
   rw [if_pos rfl]
   unfold stepX
   have e1 : (y * 2) / 2 = y := by omega
   have e2 : (y * 2) % 2 = 0 := by omega
   rw [e1, if_pos (Nat.lt_succ_self y), if_pos e2]
  ·rw [if_neg h2]
   unfold stepX
   by_cases h4 : k / 2 < y
   ·have h5 : k / 2 < y + 1 := by omega
    rw [if_pos h4, if_pos h5]
   ·have h5 : ¬ k / 2 < y + 1 := by omega
    rw [if_neg h4, if_neg h5]
set_option maxRecDepth 100000 in
set_option maxHeartbeats 12800000 in
theorem step_any (kd st ra : Int) (born stay : Nat) (ta : Option Addr) (tn tc : Nat) (s : ByteArray) (X : Nat → Nat) (W : Int) (H : Nat) (r d : Int) (Z : Array Value) (w : World) (hb : born ≤ 511) (hs : stay ≤ 511) (hX : ∀ k, X k < 18446744073709551616) (hH : H ≤ 100) (hT : TzTab w) (R1 : -100000000 ≤ r) (R2 : r ≤ 100000000) (D1 : -100000000 ≤ d) (D2 : d ≤ 100000000) (zs : Z.size = 208) (za : Z.all (·.oneCell') = true)
  (hbox : ∀ w', TzTab w' → Calls Tryz.prog 74 #[.agg (arrF 204 (uF (stepX born stay X H (H + 2)))), .int .i64 (r - 1), .int .i64 (d - 1)] w' fun e w'' => e = .returned (.agg Z) ∧ Below w'.heap.size w' w'') :
  Calls Tryz.prog 42 #[.agg (arrF 208 (grF X W (H : Int) r d)), .agg #[.int .i64 kd, .int .i64 (born : Int), .int .i64 (stay : Int), .int .i64 st, .int .i64 ra, .slice ta tn tc, .string s]] w fun e w' => e = .returned (.agg Z) ∧ Below w.heap.size w w' := by
 obtain ⟨G, hG⟩ : ∃ G, arrF 208 (grF X W (H : Int) r d) = G := ⟨_, rfl⟩
 obtain ⟨w4, hw4⟩ : ∃ w4, ((((((w.alloc (.cells G 110)).alloc (.cells #[.int .i64 kd, .int .i64 (born : Int), .int .i64 (stay : Int), .int .i64 st, .int .i64 ra, .slice ta tn tc, .string s] 24)).alloc (.cells Tryz.zeroCells110 110)).alloc (.cells Tryz.zeroCells108 108)).alloc (.cells #[.int .u64 0, .int .u64 0] 106)).alloc (.cells #[.int .u64 0, .int .u64 0] 106)).alloc (.cells #[.int .u64 0, .int .u64 0] 106) = w4 := ⟨_, rfl⟩
 have BB : Below w.heap.size w w4 := by rw [← hw4]; repeat (first | exact Below.refl _ _ | refine Below.alloc ?_ (by simp; try omega) _)
 have g0 : w4.heap[w.heap.size]? = some (.cells G 110 (0, 0)) := by rw [← hw4, Below.heap_alloc _ _ _ (by simp; try omega), Below.heap_alloc _ _ _ (by simp; try omega), Below.heap_alloc _ _ _ (by simp; try omega), Below.heap_alloc _ _ _ (by simp; try omega), Below.heap_alloc _ _ _ (by simp; try omega), Below.heap_alloc _ _ _ (by simp; try omega)]; exact heap_atX _ _ _ (by simp)
 have g1 : w4.heap[w.heap.size + 1]? = some (.cells #[.int .i64 kd, .int .i64 (born : Int), .int .i64 (stay : Int), .int .i64 st, .int .i64 ra, .slice ta tn tc, .string s] 24 (0, 0)) := by rw [← hw4, Below.heap_alloc _ _ _ (by simp; try omega), Below.heap_alloc _ _ _ (by simp; try omega), Below.heap_alloc _ _ _ (by simp; try omega), Below.heap_alloc _ _ _ (by simp; try omega), Below.heap_alloc _ _ _ (by simp; try omega)]; exact heap_atX _ _ _ (by simp)
 have g2 : w4.heap[w.heap.size + 1 + 1]? = some (.cells Tryz.zeroCells110 110 (0, 0)) := by rw [← hw4, Below.heap_alloc _ _ _ (by simp; try omega), Below.heap_alloc _ _ _ (by simp; try omega), Below.heap_alloc _ _ _ (by simp; try omega), Below.heap_alloc _ _ _ (by simp; try omega)]; exact heap_atX _ _ _ (by simp)
 have X0 : SX w w4 w4 0 0 0 0 0 0 (stepX born stay X H 0) := ⟨fun _ _ => rfl,
  by rw [arrF_ext (fun k _ => show uF (stepX born stay X H 0) k = uF (fun _ => 0) k by unfold uF stepX; simp), ← zero_sheet, ← hw4, Below.heap_alloc _ _ _ (by simp; try omega), Below.heap_alloc _ _ _ (by simp; try omega), Below.heap_alloc _ _ _ (by simp; try omega)]; exact heap_atX _ _ _ (by simp),
  by rw [← hw4, Below.heap_alloc _ _ _ (by simp; try omega), Below.heap_alloc _ _ _ (by simp; try omega)]; exact heap_atX _ _ _ (by simp),
  by rw [← hw4, Below.heap_alloc _ _ _ (by simp; try omega)]; exact heap_atX _ _ _ (by simp),
  by rw [← hw4]; exact heap_atX _ _ _ (by simp), BB⟩
 have XZ := hide' X0
 have G0 := hide' g0
 have G1 := hide' g1
 have G2 := hide' g2
 have HG := hide' hG
 have n2 : w4.cell? ⟨w.heap.size, 205, none⟩ = some (.int .i64 (H : Int)) := by rw [cell_of_row w4 _ _ _ _ _ g0, ← hG, arrF_get _ (by omega)]; rfl
 have HT := hide' hT
 have HX := hide' hX
 have HBX := hide' hbox
 have HB := hide' hb
 have HS := hide' hs
 rw [hG]
 clear hG g0 g1 g2 X0 BB hT hX hbox hb hs
 go_enter Tryz.func42, Tryz.ntmps42
 go_wp2
 clear hw4
 go_loopw [13] (fun iv wr => ∃ (y a0 a1 : Nat), iv = .int .i64 (y : Int) ∧ y ≤ H + 2 ∧ Hid (SX w w4 wr a0 a1 (tR0 X H y) (tR1 X H y) (tR0 X H (y + 1)) (tR1 X H (y + 1)) (stepX born stay X H y))) (fun iv _ => H + 2 - (intOf iv).toNat)
 case atStart => exact ⟨0, 0, 0, rfl, by omega, hide' (by
  rw [show tR0 X H 0 = 0 from rfl, show tR1 X H 0 = 0 from rfl, show tR0 X H (0 + 1) = 0 from rfl, show tR1 X H (0 + 1) = 0 from rfl]; exact XZ.out)⟩
 case round =>
  obtain ⟨y, a0, a1, rfl, hy, HX1⟩ := hrel
  by_cases d2 : (y : Int) < (H : Int) + 2
  ·have y102 : (y : Int) < 102 := by omega
   have HS0 := HX1.out
   obtain ⟨p0, hp0⟩ : ∃ x, tR0 X H y = x := ⟨_, rfl⟩
   obtain ⟨p1, hp1⟩ : ∃ x, tR1 X H y = x := ⟨_, rfl⟩
   obtain ⟨q0, hq0⟩ : ∃ x, tR0 X H (y + 1) = x := ⟨_, rfl⟩
   obtain ⟨q1, hq1⟩ : ∃ x, tR1 X H (y + 1) = x := ⟨_, rfl⟩
   obtain ⟨u0, hu0⟩ : ∃ x, tR0 X H (y + 2) = x := ⟨_, rfl⟩
   obtain ⟨u1, hu1⟩ : ∃ x, tR1 X H (y + 2) = x := ⟨_, rfl⟩
   rw [hp0, hp1, hq0, hq1] at HS0
   have CB := hide' (fun w => become_any kd st ra born stay ta tn tc s p0 p1 q0 q1 u0 u1 w HB.out HS.out (hp0 ▸ tR0_lt ..) (hp1 ▸ tR1_lt HX.out) (hq0 ▸ tR0_lt ..) (hq1 ▸ tR1_lt HX.out) (hu0 ▸ tR0_lt ..) (hu1 ▸ tR1_lt HX.out))
   obtain ⟨k0, hk0⟩ : ∃ x, becR0 born stay p0 p1 q0 q1 u0 u1 = x := ⟨_, rfl⟩
   obtain ⟨k1, hk1⟩ : ∃ x, becR1 born stay p0 p1 q0 q1 u0 u1 = x := ⟨_, rfl⟩
   rw [hk0, hk1] at CB
   have EK := hide' (show becR1 born stay (tR0 X H y) (tR1 X H y) (tR0 X H (y + 1)) (tR1 X H (y + 1)) (tR0 X H (y + 2)) (tR1 X H (y + 2)) = k1 ∧ becR0 born stay (tR0 X H y) (tR1 X H y) (tR0 X H (y + 1)) (tR1 X H (y + 1)) (tR0 X H (y + 2)) (tR1 X H (y + 2)) = k0 from by rw [hp0, hp1, hq0, hq1, hu0, hu1]; exact ⟨hk1, hk0⟩)
   have EQ := hide' (fun (V : World) (hV : SX w w4 V p0 p1 q0 q1 u0 u1 (stepX born stay X H (y + 1))) => hide' (show SX w w4 V p0 p1 (tR0 X H (y + 1)) (tR1 X H (y + 1)) (tR0 X H (y + 1 + 1)) (tR1 X H (y + 1 + 1)) (stepX born stay X H (y + 1)) from by rw [hq0, hq1, show y + 1 + 1 = y + 2 from rfl, hu0, hu1]; exact hV))
   have HSH := hide' HS0
   have e0 := cell_of_row wr _ 0 _ _ _ HS0.above
   have e1 := cell_of_row wr _ 1 _ _ _ HS0.above
   have e2 := cell_of_row wr _ 0 _ _ _ HS0.here
   have e3 := cell_of_row wr _ 1 _ _ _ HS0.here
   have e4 := cell_of_row wr _ 0 _ _ _ HS0.low
   have e5 := cell_of_row wr _ 1 _ _ _ HS0.low
   have z0 := frozen_of_row wr _ 0 _ _ HS0.above
   have z1 := frozen_of_row wr _ 1 _ _ HS0.above
   have z2 := frozen_of_row wr _ 0 _ _ HS0.here
   have z3 := frozen_of_row wr _ 1 _ _ HS0.here
   have z4 := frozen_of_row wr _ 0 _ _ HS0.low
   have z5 := frozen_of_row wr _ 1 _ _ HS0.low
   simp at e0 e1 e2 e3 e4 e5
   have U0 := hide' hu0
   have U1 := hide' hu1
   clear hp0 hp1 hq0 hq1 hu0 hu1 hk0 hk1 HS0 HX1
   go_wp2
   go_region
   obtain ⟨V, hV⟩ : ∃ V, ((((((wr.setCell ⟨w.heap.size + 1 + 1 + 1 + 1, 0, none⟩ (.int .u64 (p0 : Int))).setCell ⟨w.heap.size + 1 + 1 + 1 + 1, 1, none⟩ (.int .u64 (p1 : Int))).setCell ⟨w.heap.size + 1 + 1 + 1 + 1 + 1, 0, none⟩ (.int .u64 (q0 : Int))).setCell ⟨w.heap.size + 1 + 1 + 1 + 1 + 1, 1, none⟩ (.int .u64 (q1 : Int))).setCell ⟨w.heap.size + 1 + 1 + 1 + 1 + 1 + 1, 0, none⟩ (.int .u64 0)).setCell ⟨w.heap.size + 1 + 1 + 1 + 1 + 1 + 1, 1, none⟩ (.int .u64 0)).drew = V := ⟨_, rfl⟩
   rw [hV]
   have HV0 := hide' (show SX w w4 V p0 p1 q0 q1 0 0 (stepX born stay X H y) from by rw [← hV]; exact (((HSH.out.setAbove p0 p1).setHere q0 q1).setLow 0 0).drewN)
   clear hV e0 e1 e2 e3 e4 e5 z0 z1 z2 z3 z4 z5
   have nh : V.cell? ⟨w.heap.size, 205, none⟩ = some (.int .i64 (H : Int)) := by rw [cell_of_row V _ _ _ _ _ ((HV0.out.keep _ (by omega)).trans G0.out), ← HG.out, arrF_get _ (by omega)]; rfl
   by_cases d3 : (y : Int) < (H : Int)
   ·have gb := (HV0.out.keep _ (by omega)).trans G0.out
    have x0 : V.cell? ⟨w.heap.size, y * 2, none⟩ = some (.int .u64 ((X (y * 2) : Nat) : Int)) := by rw [cell_of_row V _ _ _ _ _ gb, ← HG.out, arrF_get _ (by omega), grF, if_pos (by omega)]; rfl
    have x1 : V.cell? ⟨w.heap.size, y * 2 + 1, none⟩ = some (.int .u64 ((X (y * 2 + 1) : Nat) : Int)) := by rw [cell_of_row V _ _ _ _ _ gb, ← HG.out, arrF_get _ (by omega), grF, if_pos (by omega)]; rfl
    have RC := hide' (fun w => right_any (X (y * 2)) (X (y * 2 + 1)) w (HX.out _) (HX.out _))
    have T0 : rgt0 (X (y * 2)) = u0 := by rw [← U0.out, tR0, if_pos ⟨by omega, by omega⟩, show y + 2 - 2 = y by omega]
    have T1 : rgt1 (X (y * 2)) (X (y * 2 + 1)) = u1 := by rw [← U1.out, tR1, if_pos ⟨by omega, by omega⟩, show y + 2 - 2 = y by omega]
    rw [T0, T1] at RC
    obtain ⟨v0, hv0⟩ : ∃ x, X (y * 2) = x := ⟨_, rfl⟩
    obtain ⟨v1, hv1⟩ : ∃ x, X (y * 2 + 1) = x := ⟨_, rfl⟩
    rw [hv0, hv1] at RC
    rw [hv0] at x0
    rw [hv1] at x1
    clear gb T0 T1 hv0 hv1
    go_wp2_with fail
    refine (RC.out V).mono ?_
    rintro e w5 ⟨rfl, b5⟩
    have H5 := hide' (HV0.out.next b5)
    have e4 := cell_of_row w5 _ 0 _ _ _ H5.out.low
    have e5 := cell_of_row w5 _ 1 _ _ _ H5.out.low
    have z4 := frozen_of_row w5 _ 0 _ _ H5.out.low
    have z5 := frozen_of_row w5 _ 1 _ _ H5.out.low
    simp at e4 e5
    clear b5 x0 x1 nh HV0
    obtain ⟨V2, hV2⟩ : ∃ V2, (w5.setCell ⟨w.heap.size + 1 + 1 + 1 + 1 + 1 + 1, 0, none⟩ (.int .u64 (u0 : Int))).setCell ⟨w.heap.size + 1 + 1 + 1 + 1 + 1 + 1, 1, none⟩ (.int .u64 (u1 : Int)) = V2 := ⟨_, rfl⟩
    have HV := hide' (show SX w w4 V2 p0 p1 q0 q1 u0 u1 (stepX born stay X H y) from by rw [← hV2]; exact H5.out.setLow u0 u1)
    have m0 := cell_of_row V2 _ 0 _ _ _ HV.out.above
    have m1 := cell_of_row V2 _ 1 _ _ _ HV.out.above
    have m2 := cell_of_row V2 _ 0 _ _ _ HV.out.here
    have m3 := cell_of_row V2 _ 1 _ _ _ HV.out.here
    have m4 := cell_of_row V2 _ 0 _ _ _ HV.out.low
    have m5 := cell_of_row V2 _ 1 _ _ _ HV.out.low
    simp at m0 m1 m2 m3 m4 m5
    have gr := (HV.out.keep _ (by omega)).trans G1.out
    have r0 := cell_of_row V2 _ 0 _ _ _ gr
    have r1 := cell_of_row V2 _ 1 _ _ _ gr
    have r2 := cell_of_row V2 _ 2 _ _ _ gr
    have r3 := cell_of_row V2 _ 3 _ _ _ gr
    have r4 := cell_of_row V2 _ 4 _ _ _ gr
    have r5 := cell_of_row V2 _ 5 _ _ _ gr
    have r6 := cell_of_row V2 _ 6 _ _ _ gr
    simp at r0 r1 r2 r3 r4 r5 r6
    clear gr
    go_wp2_with fail
    refine (CB.out V2).mono ?_
    rintro e w5 ⟨rfl, b5⟩
    have H5 := hide' (HV.out.next b5)
    have c0 : w5.cell? ⟨w.heap.size + 1 + 1 + 1, y * 2, none⟩ = some (uF (stepX born stay X H y) (y * 2)) := by rw [cell_of_row w5 _ _ _ _ _ H5.out.sheet, arrF_get _ (by omega)]
    have c1 : w5.cell? ⟨w.heap.size + 1 + 1 + 1, y * 2 + 1, none⟩ = some (uF (stepX born stay X H y) (y * 2 + 1)) := by rw [cell_of_row w5 _ _ _ _ _ H5.out.sheet, arrF_get _ (by omega)]
    have f0 := frozen_of_row w5 _ (y * 2) _ _ H5.out.sheet
    have f1 := frozen_of_row w5 _ (y * 2 + 1) _ _ H5.out.sheet
    have NX := hide' (SX.ext ((H5.out.set (y * 2) k0).set (y * 2 + 1) k1) (Y' := stepX born stay X H (y + 1)) (fun k _ => by rw [← stepX_step, EK.out.1, EK.out.2]))
    clear b5 m0 m1 m2 m3 m4 m5 r0 r1 r2 r3 r4 r5 r6
    go_wp2
    exact ⟨⟨y + 1, p0, p1, by go_num, by omega, EQ.out _ NX.out⟩, by simp [intOf]; omega⟩
   ·have E0 : u0 = 0 := by rw [← U0.out, tR0, if_neg (fun h => by omega)]
    have E1 : u1 = 0 := by rw [← U1.out, tR1, if_neg (fun h => by omega)]
    have HV := hide' (show SX w w4 V p0 p1 q0 q1 u0 u1 (stepX born stay X H y) from by rw [E0, E1]; exact HV0.out)
    clear E0 E1 HV0
    have m0 := cell_of_row V _ 0 _ _ _ HV.out.above
    have m1 := cell_of_row V _ 1 _ _ _ HV.out.above
    have m2 := cell_of_row V _ 0 _ _ _ HV.out.here
    have m3 := cell_of_row V _ 1 _ _ _ HV.out.here
    have m4 := cell_of_row V _ 0 _ _ _ HV.out.low
    have m5 := cell_of_row V _ 1 _ _ _ HV.out.low
    simp at m0 m1 m2 m3 m4 m5
    have gr := (HV.out.keep _ (by omega)).trans G1.out
    have r0 := cell_of_row V _ 0 _ _ _ gr
    have r1 := cell_of_row V _ 1 _ _ _ gr
    have r2 := cell_of_row V _ 2 _ _ _ gr
    have r3 := cell_of_row V _ 3 _ _ _ gr
    have r4 := cell_of_row V _ 4 _ _ _ gr
    have r5 := cell_of_row V _ 5 _ _ _ gr
    have r6 := cell_of_row V _ 6 _ _ _ gr
    simp at r0 r1 r2 r3 r4 r5 r6
    clear gr
    go_wp2_with fail
    refine (CB.out V).mono ?_
    rintro e w5 ⟨rfl, b5⟩
    have H5 := hide' (HV.out.next b5)
    have c0 : w5.cell? ⟨w.heap.size + 1 + 1 + 1, y * 2, none⟩ = some (uF (stepX born stay X H y) (y * 2)) := by rw [cell_of_row w5 _ _ _ _ _ H5.out.sheet, arrF_get _ (by omega)]
    have c1 : w5.cell? ⟨w.heap.size + 1 + 1 + 1, y * 2 + 1, none⟩ = some (uF (stepX born stay X H y) (y * 2 + 1)) := by rw [cell_of_row w5 _ _ _ _ _ H5.out.sheet, arrF_get _ (by omega)]
    have f0 := frozen_of_row w5 _ (y * 2) _ _ H5.out.sheet
    have f1 := frozen_of_row w5 _ (y * 2 + 1) _ _ H5.out.sheet
    have NX := hide' (SX.ext ((H5.out.set (y * 2) k0).set (y * 2 + 1) k1) (Y' := stepX born stay X H (y + 1)) (fun k _ => by rw [← stepX_step, EK.out.1, EK.out.2]))
    clear b5 m0 m1 m2 m3 m4 m5 r0 r1 r2 r3 r4 r5 r6
    go_wp2
    exact ⟨⟨y + 1, p0, p1, by go_num, by omega, EQ.out _ NX.out⟩, by simp [intOf]; omega⟩
  ·have yH : y = H + 2 := by omega
   have HS0 := HX1.out
   rw [yH] at HS0
   have gs := HS0.sheet
   obtain ⟨A, hA⟩ : ∃ A, arrF 204 (uF (stepX born stay X H (H + 2))) = A := ⟨_, rfl⟩
   have asz : A.size = 204 := by rw [← hA, arrF_size]
   rw [hA] at gs HBX
   have gb := (HS0.keep _ (by omega)).trans G0.out
   have c0 : wr.cell? ⟨w.heap.size, 206, none⟩ = some (.int .i64 r) := by rw [cell_of_row wr _ _ _ _ _ gb, ← HG.out, arrF_get _ (by omega)]; rfl
   have c1 : wr.cell? ⟨w.heap.size, 207, none⟩ = some (.int .i64 d) := by rw [cell_of_row wr _ _ _ _ _ gb, ← HG.out, arrF_get _ (by omega)]; rfl
   have g2 := (HS0.keep _ (by omega)).trans G2.out
   have T2 := hide' (HT.out.below HS0.below)
   have BW := hide' HS0.below
   have SZ := hide' (lt_of_block g2)
   clear yH HS0 HX1 hA gb
   go_wp2_with (first
    | (refine wpList_load_row rfl 108 _ rfl (w.heap.size + 1 + 1 + 1) rfl 108 A (0, 0) _ gs Tryz.underlying108 rfl (by rw [asz]; kernel_rfl) ?_)
    | (go_at_call 74; refine (HBX.out wr T2.out).mono ?_))
   rintro e w5 rfl b5
   have g5 := (b5.block _ SZ.out).trans g2
   have B5 := hide' (BW.out.trans (b5.mono BW.out.size))
   clear b5
   go_wp2_with (first
    | (refine wpList_store_row rfl 110 _ _ rfl (w.heap.size + 1 + 1) Z rfl rfl 110 _ g5 (by rw [zs]; kernel_rfl) (by rw [zs, zero_grown, arrF_size]) za ?_))
   refine bodyPost_ret (v := .agg Z) (results_cell_row Tryz.results42 _ _ (w.heap.size + 1 + 1) 110 _ (0, 0) _ rfl (setRow_heap _ _ _ _ _ _ g5) Tryz.underlying110 rfl (by rw [zs]; kernel_rfl)) rfl ?_
   exact ⟨rfl, below_setRow B5.out (by omega) _⟩
end Go.Proofs.YtemhcpldflcfbaaGreatDoor
