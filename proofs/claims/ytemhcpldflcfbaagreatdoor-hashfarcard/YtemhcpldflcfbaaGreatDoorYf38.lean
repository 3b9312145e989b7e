/-
  What the last text of this claim leans on, part 38: Hq3, Hq4, Hq5.
-/
import Derived.Test.YtemhcpldflcfbaaGreatDoorYf37
import Derived.Test.YtemhcpldflcfbaaGreatDoorYf11
import Derived.Test.YtemhcpldflcfbaaGreatDoorYf25
import Derived.Test.YtemhcpldflcfbaaGreatDoorYf28
import Derived.Laws.StructEq
import Derived.Deep.RegionHeld3
namespace Go.Proofs.YtemhcpldflcfbaaGreatDoor
open Go.RowKit
set_option linter.unusedVariables false
theorem BxF.union {U V : Int → Int → Int} {l u r d l' u' r' d' : Int} (hU : ∀ x y, 0 ≤ U x y) (hV : ∀ x y, 0 ≤ V x y) (h : BxF U l u r d) (k : BxF V l' u' r' d') : BxF (fun x y => U x y + V x y) (min l l') (min u u') (max r r') (max d d') := by
 have pu : ∀ x y, U x y ≠ 0 → U x y + V x y ≠ 0 := fun x y q => by have := hU x y; have := hV x y; omega
 have pv : ∀ x y, V x y ≠ 0 → U x y + V x y ≠ 0 := fun x y q => by have := hU x y; have := hV x y; omega
 obtain ⟨y1, a1⟩ := h.hl
 obtain ⟨y2, a2⟩ := h.hr
 obtain ⟨x3, a3⟩ := h.hu
 obtain ⟨x4, a4⟩ := h.hd
 obtain ⟨y5, b1⟩ := k.hl
 obtain ⟨y6, b2⟩ := k.hr
 obtain ⟨x7, b3⟩ := k.hu
 obtain ⟨x8, b4⟩ := k.hd
 refine ⟨fun x y q => ?_, ?_, ?_, ?_, ?_⟩
 ·by_cases c : U x y = 0
  ·have := k.inn x y (fun e => q (by show U x y + V x y = 0; omega))
   omega
  ·have := h.inn x y c
   omega
 ·by_cases c : l ≤ l'
  ·exact ⟨y1, by rw [Int.min_eq_left c]; exact pu _ _ a1⟩
  ·exact ⟨y5, by rw [Int.min_eq_right (by omega)]; exact pv _ _ b1⟩
 ·by_cases c : r' ≤ r
  ·exact ⟨y2, by rw [Int.max_eq_left c]; exact pu _ _ a2⟩
  ·exact ⟨y6, by rw [Int.max_eq_right (by omega)]; exact pv _ _ b2⟩
 ·by_cases c : u ≤ u'
  ·exact ⟨x3, by rw [Int.min_eq_left c]; exact pu _ _ a3⟩
  ·exact ⟨x7, by rw [Int.min_eq_right (by omega)]; exact pv _ _ b3⟩
 ·by_cases c : d' ≤ d
  ·exact ⟨x4, by rw [Int.max_eq_left c]; exact pu _ _ a4⟩
  ·exact ⟨x8, by rw [Int.max_eq_right (by omega)]; exact pv _ _ b4⟩
def upQ (qs : List Sq) (n : Nat) (p : Nat → Nat) : Nat → Int → Int → Int
 | 0, _, _ => 0
 | i + 1, x, y => upQ qs n p i x y + valQ qs n (p i) (x - ((i % 2 : Nat) : Int) * sideI n) (y - ((i / 2 : Nat) : Int) * sideI n)
theorem up_ge (qs : List Sq) (n : Nat) (p : Nat → Nat) : ∀ i x y, 0 ≤ upQ qs n p i x y
 | 0, _, _ => Int.le_refl _
 | i + 1, x, y => Int.add_nonneg (up_ge qs n p i x y) (val_le _ _ _ _).1
theorem up_all (qs : List Sq) (n t : Nat) (x y : Int) : upQ qs n (prt (sqA qs t)) 4 x y = valQ qs (n + 1) t x y := by
 rw [val_step]
 simp [upQ, prt]
def PaB (S : Int) (U : Int → Int → Int) (l u r d : Int) : Prop := ((∀ x y, U x y = 0) ∧ l = S ∧ u = S ∧ r = 0 ∧ d = 0) ∨ (BxF U l u r d ∧ 0 ≤ l ∧ 0 ≤ u ∧ r ≤ S ∧ d ≤ S)
theorem PaB.skip {qs : List Sq} (hS : StQ qs) {n i : Nat} {p : Nat → Nat} (h0 : p i = 0) {S l u r d : Int} (h : PaB S (upQ qs n p i) l u r d) : PaB S (upQ qs n p (i + 1)) l u r d := by
 have e : upQ qs n p (i + 1) = upQ qs n p i := by
  funext x y
  show upQ qs n p i x y + valQ qs n (p i) _ _ = _
  rw [h0, val_nil hS, Int.add_zero]
 rw [e]
 exact h
theorem PaB.next {qs : List Sq} {n i : Nat} (hi : i < 4) {p : Nat → Nat} {l u r d l' u' r' d' : Int} (h : PaB (2 * sideI n) (upQ qs n p i) l u r d) (k : BxF (valQ qs n (p i)) l' u' r' d') (kb : 0 ≤ l' ∧ 0 ≤ u' ∧ r' ≤ sideI n ∧ d' ≤ sideI n) {X Y : Int} (hX : X = ((i % 2 : Nat) : Int) * sideI n) (hY : Y = ((i / 2 : Nat) : Int) * sideI n) :
  PaB (2 * sideI n) (upQ qs n p (i + 1)) (min l (X + l')) (min u (Y + u')) (max r (X + r')) (max d (Y + d')) := by
 have sp := sideI_pos n
 have xb : 0 ≤ X ∧ X ≤ sideI n ∧ 0 ≤ Y ∧ Y ≤ sideI n := by
  rw [hX, hY]
  have : i = 0 ∨ i = 1 ∨ i = 2 ∨ i = 3 := by omega
  rcases this with rfl | rfl | rfl | rfl <;> simp <;> omega
 have s := k.shift (a := X) (b := Y) (G := fun x y => valQ qs n (p i) (x - X) (y - Y)) (fun _ _ => rfl)
 obtain ⟨y1, a1⟩ := k.hl
 obtain ⟨x2, a2⟩ := k.hu
 have n1 := k.inn _ _ a1
 have n2 := k.inn _ _ a2
 have e : upQ qs n p (i + 1) = fun x y => upQ qs n p i x y + valQ qs n (p i) (x - X) (y - Y) := by rw [hX, hY]; rfl
 rw [e]
 rcases h with ⟨z, rfl, rfl, rfl, rfl⟩ | ⟨h, b1, b2, b3, b4⟩
 ·refine Or.inr ⟨?_, by omega, by omega, by omega, by omega⟩
  have e2 : (fun x y => upQ qs n p i x y + valQ qs n (p i) (x - X) (y - Y)) = fun x y => valQ qs n (p i) (x - X) (y - Y) := by
   funext x y
   rw [z, Int.zero_add]
  rw [e2, Int.min_eq_right (by omega), Int.min_eq_right (by omega), Int.max_eq_right (by omega), Int.max_eq_right (by omega)]
  exact s
 ·exact Or.inr ⟨h.union (up_ge _ _ _ _) (fun x y => (val_le _ _ _ _).1) s, by omega, by omega, by omega, by omega⟩
def KnB (w : World) (kb N : Nat) (kn : Nat → Nat → Int) : Prop := w.heap[kb]? = some (.cells (arrF (N * 4) fun q => .int .i64 (kn (q / 4) (q % 4))) 99 (0, 0))
def KnR (qs : List Sq) (N : Nat) (kn : Nat → Nat → Int) : Prop := ∀ i, i < N → (∀ j, j < 4 → kn i j = 0) ∨ (i ≠ 0 ∧ ∃ n, WFQ qs n i ∧ BxF (valQ qs n i) (kn i 0) (kn i 1) (kn i 2) (kn i 3))
theorem KnB.cell {w : World} {kb N : Nat} {kn : Nat → Nat → Int} (h : KnB w kb N kn) {i j : Nat} (hi : i < N) (hj : j < 4) : w.cell? ⟨kb, i * 4 + j, none⟩ = some (.int .i64 (kn i j)) := by
 rw [cell_of_row w kb _ _ _ _ h, arrF_get _ (by omega), show (i * 4 + j) / 4 = i by omega, show (i * 4 + j) % 4 = j by omega]
theorem KnB.set {w : World} {kb N : Nat} {kn : Nat → Nat → Int} (h : KnB w kb N kn) (i j : Nat) (hj : j < 4) (v : Int) : KnB (w.setCell ⟨kb, i * 4 + j, none⟩ (.int .i64 v)) kb N (fun a b => if a = i ∧ b = j then v else kn a b) := by
 unfold KnB
 rw [heap_setCell_same _ _ _ _ _ _ h]
 congr 2
 rw [arrF_set]
 refine arrF_ext fun q hq => ?_
 show _ = Value.int .i64 (if q / 4 = i ∧ q % 4 = j then v else kn (q / 4) (q % 4))
 by_cases e : q = i * 4 + j
 ·subst e
  rw [if_pos rfl, if_pos (show (i * 4 + j) / 4 = i ∧ (i * 4 + j) % 4 = j by omega)]
 ·rw [if_neg e, if_neg (show ¬ (q / 4 = i ∧ q % 4 = j) by omega)]
theorem span_eq (a b c d a' b' c' d' : Int) (w : World) : (Op.equalIn 10000 99 (.agg #[.int .i64 a, .int .i64 b, .int .i64 c, .int .i64 d]) (.agg #[.int .i64 a', .int .i64 b', .int .i64 c', .int .i64 d'])).run Tryz.prog w = .ok (a == a' && (b == b' && (c == c' && d == d'))) w := by
 have hu := Tryz.underlying99
 have hf : Tryz.prog.underlying 99 = some (.struct (Tryz.prog.fieldsOf 99)) := by rw [Program.fieldsOf, hu]
 rw [run_equalIn_struct w 9999 _ _ _ hf (by kernel_rfl)]
 rw [Program.fieldsOf, hu]
 have hi := Tryz.underlying3
 have p : ∀ (k : Nat) (xs : Array Value) (v : Value), xs[k]? = some v → (part 3 xs k).run Tryz.prog w = .ok v w := fun k xs v h => by simp [part, isAgg, run_underlying hi, h]
 simp only [Op.eqFields, Sem.run_bind, Sem.run_ite]
 have n0 : ("left" ≠ "_") = True := by simp
 have n1 : ("up" ≠ "_") = True := by simp
 have n2 : ("right" ≠ "_") = True := by simp
 have n3 : ("down" ≠ "_") = True := by simp
 simp only [n0, n1, n2, n3, if_true]
 simp only [p 0 #[.int .i64 a, .int .i64 b, .int .i64 c, .int .i64 d] (.int .i64 a) rfl, p 0 #[.int .i64 a', .int .i64 b', .int .i64 c', .int .i64 d'] (.int .i64 a') rfl, Result.andThen_ok, run_equalIn_int w 9998 3 .i64 .i64 _ _ hi]
 cases h1 : (a == a')
 ·simp
 ·simp only [Bool.not_true, Bool.false_eq_true, if_false, p 1 #[.int .i64 a, .int .i64 b, .int .i64 c, .int .i64 d] (.int .i64 b) rfl, p 1 #[.int .i64 a', .int .i64 b', .int .i64 c', .int .i64 d'] (.int .i64 b') rfl, Result.andThen_ok, run_equalIn_int w 9998 3 .i64 .i64 _ _ hi]
  cases h2 : (b == b')
  ·simp
  ·simp only [Bool.not_true, Bool.false_eq_true, if_false, p 2 #[.int .i64 a, .int .i64 b, .int .i64 c, .int .i64 d] (.int .i64 c) rfl, p 2 #[.int .i64 a', .int .i64 b', .int .i64 c', .int .i64 d'] (.int .i64 c') rfl, Result.andThen_ok, run_equalIn_int w 9998 3 .i64 .i64 _ _ hi]
   cases h3 : (c == c')
   ·simp
   ·simp only [Bool.not_true, Bool.false_eq_true, if_false, p 3 #[.int .i64 a, .int .i64 b, .int .i64 c, .int .i64 d] (.int .i64 d) rfl, p 3 #[.int .i64 a', .int .i64 b', .int .i64 c', .int .i64 d'] (.int .i64 d') rfl, Result.andThen_ok, run_equalIn_int w 9998 3 .i64 .i64 _ _ hi]
    cases h4 : (d == d') <;> simp
structure BoA (w : World) (bb sb B g cap kb : Nat) (qs : List Sq) (kn : Nat → Nat → Int) : Prop where
 blk : w.heap[bb]? = some (.cells #[.pointer (some ⟨sb, 0, none⟩), .slice (some ⟨kb, 0, none⟩) qs.length qs.length] 143 (0, 0))
 stk : StkA w sb B g cap qs
 kno : KnB w kb qs.length kn
 rig : KnR qs qs.length kn
 tz : TzTab w
 lt : 1 < kb
theorem TzTab.keepW {w w' : World} (h : TzTab w) (e : w'.heap[(1 : Nat)]? = w.heap[(1 : Nat)]?) : TzTab w' := fun j hj => (World.cell?_of_block (w := w) (a := ⟨1, j, none⟩) e).trans (h j hj)
theorem KnB.ne {w : World} {kb N q : Nat} {kn : Nat → Nat → Int} {cs : Array Value} {ty : TypeId} {z : Nat × Nat} (h : KnB w kb N kn) (e : w.heap[q]? = some (.cells cs ty z)) (ht : ty ≠ 99) : q ≠ kb := fun q' => by
 rw [q', h] at e
 injection e with e
 injection e with _ e
 exact ht e.symm
theorem BoA.keep {w w' : World} {bb sb B g cap kb : Nat} {qs : List Sq} {kn kn' : Nat → Nat → Int} (h : BoA w bb sb B g cap kb qs kn) (hk : KpW kb w w') (h1 : KnB w' kb qs.length kn') (h2 : KnR qs qs.length kn') : BoA w' bb sb B g cap kb qs kn' := by
 obtain ⟨-, -, cur, ec, -, -⟩ := h.stk.rowB
 exact ⟨(hk.keep _ (lt_of_block h.blk) (h.kno.ne h.blk (by decide))).trans h.blk, h.stk.keep (hk.keep _ h.stk.lt.1 (h.kno.ne h.stk.blk (by decide))) (hk.keep _ h.stk.lt.2 (h.kno.ne ec (by decide))), h1, h2, h.tz.keepW (hk.keep _ (tz_lt h.tz) (by have := h.lt; omega)), h.lt⟩
theorem BoA.below {w w' : World} {bb sb B g cap kb : Nat} {qs : List Sq} {kn : Nat → Nat → Int} (h : BoA w bb sb B g cap kb qs kn) (hb : Below w.heap.size w w') : BoA w' bb sb B g cap kb qs kn := h.keep (KpW.of_below hb) ((hb.block _ (lt_of_block h.kno)).trans h.kno) h.rig
def OfP (bb sb B g cap kb : Nat) (qs : List Sq) (n t : Nat) (w : World) (e : Ending) (w' : World) : Prop :=
 ∃ (l u r d : Int) (kn' : Nat → Nat → Int), e = .returned (.agg #[.int .i64 l, .int .i64 u, .int .i64 r, .int .i64 d]) ∧ BxF (valQ qs n t) l u r d ∧ BoA w' bb sb B g cap kb qs kn' ∧ KpW kb w w'
theorem box_in {qs : List Sq} {n t : Nat} {l u r d : Int} (h : BxF (valQ qs n t) l u r d) : (0 ≤ l ∧ 0 ≤ u ∧ r ≤ sideI n ∧ d ≤ sideI n) ∧ l < r ∧ u < d := by
 have c : ∀ x y, valQ qs n t x y ≠ 0 → 0 ≤ x ∧ x < sideI n ∧ 0 ≤ y ∧ y < sideI n := fun x y q => Classical.byContradiction fun e => q (val_out _ _ _ _ e)
 obtain ⟨y1, a1⟩ := h.hl
 obtain ⟨y2, a2⟩ := h.hr
 obtain ⟨x3, a3⟩ := h.hu
 obtain ⟨x4, a4⟩ := h.hd
 have := c _ _ a1
 have := c _ _ a2
 have := c _ _ a3
 have := c _ _ a4
 have := h.inn _ _ a1
 have := h.inn _ _ a3
 omega
def OfC (n : Nat) : Prop := ∀ (bb sb B g cap kb : Nat) (qs : List Sq) (kn : Nat → Nat → Int) (t L : Nat) (w : World), BoA w bb sb B g cap kb qs kn → WFQ qs n t → t ≠ 0 → L = n + 3 → n ≤ 43 → qs.length ≤ 2000000 →
  Calls Tryz.prog 68 #[.pointer (some ⟨bb, 0, none⟩), .int .i32 (t : Int), .int .i64 (L : Int)] w (OfP bb sb B g cap kb qs n t w)
set_option maxRecDepth 100000 in
set_option maxHeartbeats 6400000 in
theorem of_known (n : Nat) (bb sb B g cap kb : Nat) (qs : List Sq) (kn : Nat → Nat → Int) (t L : Nat) (w : World) (h : BoA w bb sb B g cap kb qs kn) (hw : WFQ qs n t) (t0 : t ≠ 0) (hq : qs.length ≤ 2000000) (hk : ¬ ∀ j, j < 4 → kn t j = 0) :
  Calls Tryz.prog 68 #[.pointer (some ⟨bb, 0, none⟩), .int .i32 (t : Int), .int .i64 (L : Int)] w (OfP bb sb B g cap kb qs n t w) := by
 have lt := hw.lt h.stk.st
 have BX := hide' (show BxF (valQ qs n t) (kn t 0) (kn t 1) (kn t 2) (kn t 3) from by
  rcases h.rig t lt with q | ⟨_, m, q1, q2⟩
  ·exact absurd q hk
  ·rw [WFQ.level t0 hw q1]; exact q2)
 have r0 : 0 < kn t 2 := by have := box_in BX.out; omega
 obtain ⟨rb, hrb⟩ : ∃ x, w.heap.size = x := ⟨_, rfl⟩
 have HRB := hide' hrb
 obtain ⟨w1, hw1⟩ : ∃ x, w.alloc (.cells #[.int .i64 0, .int .i64 0, .int .i64 0, .int .i64 0] 99) = x := ⟨_, rfl⟩
 have HW1 := hide' hw1
 have B1 := hide' (show Below w.heap.size w w1 by rw [← hw1]; exact (Below.refl _ _).alloc (Nat.le_refl _) _)
 have R1 := hide' (show w1.heap[rb]? = some (.cells #[.int .i64 0, .int .i64 0, .int .i64 0, .int .i64 0] 99 (0, 0)) by rw [← hw1, ← hrb]; exact heap_alloc_new _ _)
 have A1 := hide' (h.below B1.out)
 have b1 := cell_of_row w1 bb 1 _ _ _ A1.out.blk
 have k0 := A1.out.kno.cell lt (j := 0) (by omega)
 have k1 := A1.out.kno.cell lt (j := 1) (by omega)
 have k2 := A1.out.kno.cell lt (j := 2) (by omega)
 have k3 := A1.out.kno.cell lt (j := 3) (by omega)
 simp at b1 k0
 obtain ⟨l, hl⟩ : ∃ x, kn t 0 = x := ⟨_, rfl⟩
 obtain ⟨u, hu⟩ : ∃ x, kn t 1 = x := ⟨_, rfl⟩
 obtain ⟨r, hr⟩ : ∃ x, kn t 2 = x := ⟨_, rfl⟩
 obtain ⟨d, hd⟩ : ∃ x, kn t 3 = x := ⟨_, rfl⟩
 rw [hl] at k0 BX
 rw [hu] at k1 BX
 rw [hr] at k2 BX r0
 rw [hd] at k3 BX
 have r0' : ¬ (r = 0) := by omega
 obtain ⟨N, hN⟩ : ∃ x, qs.length = x := ⟨_, rfl⟩
 rw [hN] at b1 lt
 have l1 : (t : Int) < (N : Int) := by omega
 have se : ∀ w, (Op.equalIn 10000 99 (.agg #[.int .i64 l, .int .i64 u, .int .i64 r, .int .i64 d]) (.agg #[.int .i64 0, .int .i64 0, .int .i64 0, .int .i64 0])).run Tryz.prog w = .ok false w := fun w => by
  rw [span_eq]
  simp [r0']
 have x0 := cell_of_row w1 rb 0 _ _ _ R1.out
 have x1 := cell_of_row w1 rb 1 _ _ _ R1.out
 have x2 := cell_of_row w1 rb 2 _ _ _ R1.out
 have x3 := cell_of_row w1 rb 3 _ _ _ R1.out
 have f0 := frozen_of_row w1 rb 0 _ _ R1.out
 have f1 := frozen_of_row w1 rb 1 _ _ R1.out
 have f2 := frozen_of_row w1 rb 2 _ _ R1.out
 have f3 := frozen_of_row w1 rb 3 _ _ R1.out
 simp at x0 x1 x2 x3
 have HB := hide' h
 clear h hw t0 hq hk hrb hw1 hl hu hr hd lt hN r0 r0'
 go_enter Tryz.func68, Tryz.ntmps68
 go_upto_region 1 with fail
 rw [HW1.out, HRB.out]
 go_wp2
 obtain ⟨X, hX⟩ : ∃ X, (((w1.setCell ⟨rb, 0, none⟩ (.int .i64 l)).setCell ⟨rb, 1, none⟩ (.int .i64 u)).setCell ⟨rb, 2, none⟩ (.int .i64 r)).setCell ⟨rb, 3, none⟩ (.int .i64 d) = X := ⟨_, rfl⟩
 have GX : X.heap[rb]? = some (.cells #[.int .i64 l, .int .i64 u, .int .i64 r, .int .i64 d] 99 (0, 0)) := by rw [← hX]; exact span_res R1.out _ _ _ _
 have lw : w.heap.size ≤ rb := by have := HRB.out; omega
 have BXX : Below w.heap.size w X := by rw [← hX]; exact (((B1.out.setCell lw _).setCell lw _).setCell lw _).setCell lw _
 rw [hX]
 have i0 := cell_of_row X _ 0 _ _ _ GX
 have i1 := cell_of_row X _ 1 _ _ _ GX
 have i2 := cell_of_row X _ 2 _ _ _ GX
 have i3 := cell_of_row X _ 3 _ _ _ GX
 simp at i0 i1 i2 i3
 refine bodyPost_ret (v := .agg #[.int .i64 l, .int .i64 u, .int .i64 r, .int .i64 d]) (by simp [results, Tryz.results68, go_sem, i0, i1, i2, i3]) rfl ?_
 exact ⟨l, u, r, d, kn, rfl, BX.out, HB.out.below BXX, KpW.of_below BXX⟩
def putK (kn : Nat → Nat → Int) (i : Nat) (l u r d : Int) (a b : Nat) : Int := if a = i then (if b = 0 then l else if b = 1 then u else if b = 2 then r else d) else kn a b
theorem KnB.ext {w : World} {kb N : Nat} {kn kn' : Nat → Nat → Int} (h : KnB w kb N kn) (e : ∀ a b, b < 4 → kn a b = kn' a b) : KnB w kb N kn' := by
 unfold KnB at *
 rw [h]
 congr 2
 exact arrF_ext fun q _ => by rw [e _ _ (by omega)]
theorem KnB.put {w : World} {kb N : Nat} {kn : Nat → Nat → Int} (h : KnB w kb N kn) (i : Nat) (l u r d : Int) : KnB ((((w.setCell ⟨kb, i * 4, none⟩ (.int .i64 l)).setCell ⟨kb, i * 4 + 1, none⟩ (.int .i64 u)).setCell ⟨kb, i * 4 + 2, none⟩ (.int .i64 r)).setCell ⟨kb, i * 4 + 3, none⟩ (.int .i64 d)) kb N (putK kn i l u r d) := by
 refine ((((h.set i 0 (by omega) l).set i 1 (by omega) u).set i 2 (by omega) r).set i 3 (by omega) d).ext fun a b hb => ?_
 unfold putK
 by_cases e : a = i
 ·subst e
  have : b = 0 ∨ b = 1 ∨ b = 2 ∨ b = 3 := by omega
  rcases this with rfl | rfl | rfl | rfl <;> simp
 ·simp [e]
theorem KnR.put {qs : List Sq} {N : Nat} {kn : Nat → Nat → Int} (h : KnR qs N kn) {n t : Nat} (t0 : t ≠ 0) (hw : WFQ qs n t) {l u r d : Int} (hb : BxF (valQ qs n t) l u r d) : KnR qs N (putK kn t l u r d) := fun i hi => by
 by_cases e : i = t
 ·subst e
  refine Or.inr ⟨t0, n, hw, ?_⟩
  unfold putK
  simpa using hb
 ·rcases h i hi with q | ⟨q0, m, q1, q2⟩
  ·exact Or.inl fun j hj => by unfold putK; rw [if_neg e]; exact q j hj
  ·refine Or.inr ⟨q0, m, q1, ?_⟩
   unfold putK
   simpa [e] using q2
theorem four_elseK {w : World} {g k o1 o2 o3 o4 : Nat} (hk : k ≠ g) (x0 x1 x2 x3 : Value) : ((((w.setCell ⟨g, o1, none⟩ x0).setCell ⟨g, o2, none⟩ x1).setCell ⟨g, o3, none⟩ x2).setCell ⟨g, o4, none⟩ x3).heap[k]? = w.heap[k]? := by
 rw [Below.heap_setCell _ _ _ _ (by simpa using hk), Below.heap_setCell _ _ _ _ (by simpa using hk), Below.heap_setCell _ _ _ _ (by simpa using hk), Below.heap_setCell _ _ _ _ (by simpa using hk)]
set_option maxRecDepth 100000 in
set_option maxHeartbeats 12800000 in
theorem of_eight (bb sb B g cap kb : Nat) (qs : List Sq) (kn : Nat → Nat → Int) (t : Nat) (w : World) (h : BoA w bb sb B g cap kb qs kn) (hw : WFQ qs 0 t) (t0 : t ≠ 0) (hq : qs.length ≤ 2000000) (hk : ∀ j, j < 4 → kn t j = 0) :
  Calls Tryz.prog 68 #[.pointer (some ⟨bb, 0, none⟩), .int .i32 (t : Int), .int .i64 3] w (OfP bb sb B g cap kb qs 0 t w) := by
 have lt := hw.lt h.stk.st
 have HB := hide' h
 have KBL := hide' (lt_of_block h.kno)
 have HW := hide' (And.intro hw t0)
 obtain ⟨rb, hrb⟩ : ∃ x, w.heap.size = x := ⟨_, rfl⟩
 have HRB := hide' hrb
 obtain ⟨w1, hw1⟩ : ∃ x, w.alloc (.cells #[.int .i64 0, .int .i64 0, .int .i64 0, .int .i64 0] 99) = x := ⟨_, rfl⟩
 have HW1 := hide' hw1
 have B1 := hide' (show Below w.heap.size w w1 by rw [← hw1]; exact (Below.refl _ _).alloc (Nat.le_refl _) _)
 have R1 := hide' (show w1.heap[rb]? = some (.cells #[.int .i64 0, .int .i64 0, .int .i64 0, .int .i64 0] 99 (0, 0)) by rw [← hw1, ← hrb]; exact heap_alloc_new _ _)
 have A1 := hide' (h.below B1.out)
 have b1 := cell_of_row w1 bb 1 _ _ _ A1.out.blk
 have b0 := cell_of_row w1 bb 0 _ _ _ A1.out.blk
 have k0 := A1.out.kno.cell lt (j := 0) (by omega)
 have k1 := A1.out.kno.cell lt (j := 1) (by omega)
 have k2 := A1.out.kno.cell lt (j := 2) (by omega)
 have k3 := A1.out.kno.cell lt (j := 3) (by omega)
 rw [hk 0 (by omega)] at k0
 rw [hk 1 (by omega)] at k1
 rw [hk 2 (by omega)] at k2
 rw [hk 3 (by omega)] at k3
 have c0 := A1.out.stk.c0
 obtain ⟨s0, s1, s2, s3, s4, s5⟩ := A1.out.stk.cells lt
 obtain ⟨Q, hQ⟩ : ∃ Q, sqA qs t = Q := ⟨_, rfl⟩
 rw [hQ] at s0 s1 s2 s3 s4 s5
 have KK := hide' (show Q.k ≠ 0 ∧ Q.k < 18446744073709551616 by
  rw [← hQ]
  rcases hw with q | q
  ·exact absurd q t0
  ·exact ⟨q.2.1, q.2.2⟩)
 have VK := hide' (show ∀ (l u r d : Int), BxF (bitQ Q.k) l u r d → BxF (valQ qs 0 t) l u r d from fun l u r d q => by
  have : valQ qs 0 t = bitQ Q.k := by funext x y; show bitQ (sqA qs t).k x y = _; rw [hQ]
  rw [this]; exact q)
 simp at b0 b1 k0
 obtain ⟨N, hN⟩ : ∃ x, qs.length = x := ⟨_, rfl⟩
 have HN := hide' hN
 rw [hN] at b1 c0 lt
 have LT := hide' lt
 have l1 : (t : Int) < (N : Int) := by omega
 have se : ∀ w, (Op.equalIn 10000 99 (.agg #[.int .i64 0, .int .i64 0, .int .i64 0, .int .i64 0]) (.agg #[.int .i64 0, .int .i64 0, .int .i64 0, .int .i64 0])).run Tryz.prog w = .ok true w := fun w => by
  rw [span_eq]
  simp
 obtain ⟨qb, hqb⟩ : ∃ x, w1.heap.size = x := ⟨_, rfl⟩
 obtain ⟨w2, hw2⟩ : ∃ x, w1.alloc (.cells #[.int .i32 (Q.a : Int), .int .i32 (Q.b : Int), .int .i32 (Q.c : Int), .int .i32 (Q.d : Int), .int .u64 (Q.k : Int), .int .i64 Q.l] 90) = x := ⟨_, rfl⟩
 have HW2 := hide' hw2
 have HQB := hide' hqb
 have B2 := hide' (show Below w.heap.size w w2 by rw [← hw2]; exact B1.out.alloc B1.out.size _)
 have B12 := hide' (show Below w1.heap.size w1 w2 by rw [← hw2]; exact (Below.refl _ _).alloc (Nat.le_refl _) _)
 have Q2 := hide' (show w2.heap[qb]? = some (.cells #[.int .i32 (Q.a : Int), .int .i32 (Q.b : Int), .int .i32 (Q.c : Int), .int .i32 (Q.d : Int), .int .u64 (Q.k : Int), .int .i64 Q.l] 90 (0, 0)) by rw [← hw2, ← hqb]; exact heap_alloc_new _ _)
 have R2 := hide' ((B12.out.block rb (lt_of_block R1.out)).trans R1.out)
 have A2 := hide' (A1.out.below B12.out)
 clear h hw t0 hq hk hrb hw1 lt hN hQ hw2 hqb
 go_enter Tryz.func68, Tryz.ntmps68
 go_upto_region 1 with fail
 rw [HW1.out, HRB.out]
 go_upto_region 4 with fail
 rw [HW2.out, HQB.out]
 clear b0 b1 c0 s0 s1 s2 s3 s4 s5 k0 k1 k2 k3
 have q4 := cell_of_row w2 qb 4 _ _ _ Q2.out
 have b1 := cell_of_row w2 bb 1 _ _ _ A2.out.blk
 simp at q4 b1
 rw [HN.out] at b1
 have SC := hide' (span_any Q.k w2.drew KK.out.1 KK.out.2 (fun V hV => A2.out.tz.keepW (hV.block _ (tz_lt A2.out.tz))))
 go_upto_region 5 with fail
 go_region_with (go_at_call 100; refine SC.out.mono ?_; rintro o w3 ⟨l, u, r, d, rfl, lr, bx, b3⟩; have A3 := hide' (show BoA w3 bb sb B g cap kb qs kn from A2.out.below ⟨b3.os, b3.tape, b3.output, b3.size, b3.block⟩); have z0 := A3.out.kno.cell (HN.out.symm ▸ LT.out) (j := 0) (by omega); have z1 := A3.out.kno.cell (HN.out.symm ▸ LT.out) (j := 1) (by omega); have z2 := A3.out.kno.cell (HN.out.symm ▸ LT.out) (j := 2) (by omega); have z3 := A3.out.kno.cell (HN.out.symm ▸ LT.out) (j := 3) (by omega); have y0 := frozen_of_row w3 kb (t * 4) _ _ A3.out.kno; have y1 := frozen_of_row w3 kb (t * 4 + 1) _ _ A3.out.kno; have y2 := frozen_of_row w3 kb (t * 4 + 2) _ _ A3.out.kno; have y3 := frozen_of_row w3 kb (t * 4 + 3) _ _ A3.out.kno; have g1 := cell_of_row w3 bb 1 _ _ _ A3.out.blk; simp at z0 g1; rw [HN.out] at g1)
 all_goals
  obtain ⟨X, hX⟩ : ∃ X, (((w3.setCell ⟨kb, t * 4, none⟩ (.int .i64 (l : Int))).setCell ⟨kb, t * 4 + 1, none⟩ (.int .i64 (u : Int))).setCell ⟨kb, t * 4 + 2, none⟩ (.int .i64 (r : Int))).setCell ⟨kb, t * 4 + 3, none⟩ (.int .i64 (d : Int)) = X := ⟨_, rfl⟩
  rw [hX]
  have KX := hide' (show KpW kb w X from by
   rw [← hX]
   exact ((((KpW.of_below (B2.out.trans ⟨b3.os, b3.tape, b3.output, Nat.le_trans (Nat.le_refl _) b3.size, fun q hq => b3.block q (by have := B2.out.size; show q < w2.heap.size; omega)⟩)).set _).set _).set _).set _)
  have NX := hide' (show KnB X kb qs.length (putK kn t (l : Int) (u : Int) (r : Int) (d : Int)) by rw [← hX]; exact A3.out.kno.put t _ _ _ _)
  have VB := hide' (VK.out _ _ _ _ bx)
  have AX := hide' (HB.out.keep KX.out NX.out (HB.out.rig.put HW.out.2 HW.out.1 VB.out))
  have RX := hide' (show X.heap[rb]? = some (.cells #[.int .i64 0, .int .i64 0, .int .i64 0, .int .i64 0] 99 (0, 0)) from by
   have nk : rb ≠ kb := by have := KBL.out; have := HRB.out; omega
   rw [← hX]
   exact (four_elseK nk _ _ _ _).trans ((b3.block rb (lt_of_block R2.out)).trans R2.out))
  clear hX lr bx b3 z0 z1 z2 z3 y0 y1 y2 y3 g1 q4 b1
  have g1 := cell_of_row X bb 1 _ _ _ AX.out.blk
  have z0 := NX.out.cell (HN.out.symm ▸ LT.out) (j := 0) (by omega)
  have z1 := NX.out.cell (HN.out.symm ▸ LT.out) (j := 1) (by omega)
  have z2 := NX.out.cell (HN.out.symm ▸ LT.out) (j := 2) (by omega)
  have z3 := NX.out.cell (HN.out.symm ▸ LT.out) (j := 3) (by omega)
  have x0 := cell_of_row X rb 0 _ _ _ RX.out
  have x1 := cell_of_row X rb 1 _ _ _ RX.out
  have x2 := cell_of_row X rb 2 _ _ _ RX.out
  have x3 := cell_of_row X rb 3 _ _ _ RX.out
  have f0 := frozen_of_row X rb 0 _ _ RX.out
  have f1 := frozen_of_row X rb 1 _ _ RX.out
  have f2 := frozen_of_row X rb 2 _ _ RX.out
  have f3 := frozen_of_row X rb 3 _ _ RX.out
  simp [putK] at g1 z0 z1 z2 z3 x0 x1 x2 x3
  rw [HN.out] at g1
  go_wp2
  obtain ⟨Z, hZ⟩ : ∃ Z, (((X.setCell ⟨rb, 0, none⟩ (.int .i64 (l : Int))).setCell ⟨rb, 1, none⟩ (.int .i64 (u : Int))).setCell ⟨rb, 2, none⟩ (.int .i64 (r : Int))).setCell ⟨rb, 3, none⟩ (.int .i64 (d : Int)) = Z := ⟨_, rfl⟩
  have GZ : Z.heap[rb]? = some (.cells #[.int .i64 (l : Int), .int .i64 (u : Int), .int .i64 (r : Int), .int .i64 (d : Int)] 99 (0, 0)) := by rw [← hZ]; exact span_res RX.out _ _ _ _
  have lw : w.heap.size ≤ rb := by have := HRB.out; omega
  have KZ : KpW kb w Z := by
   have k := KX.out
   rw [← hZ]
   exact ⟨k.os, k.tape, k.output, by simp only [World.size_setCell]; exact k.size, fun q h1 h2 => (four_elseK (by omega) _ _ _ _).trans (k.keep q h1 h2)⟩
  have AZ : BoA Z bb sb B g cap kb qs (putK kn t (l : Int) (u : Int) (r : Int) (d : Int)) := by
   refine HB.out.keep KZ ?_ AX.out.rig
   rw [← hZ]
   exact (four_elseK (by have := KBL.out; have := HRB.out; omega) _ _ _ _).trans NX.out
  rw [hZ]
  have i0 := cell_of_row Z _ 0 _ _ _ GZ
  have i1 := cell_of_row Z _ 1 _ _ _ GZ
  have i2 := cell_of_row Z _ 2 _ _ _ GZ
  have i3 := cell_of_row Z _ 3 _ _ _ GZ
  simp at i0 i1 i2 i3
  refine bodyPost_ret (v := .agg #[.int .i64 (l : Int), .int .i64 (u : Int), .int .i64 (r : Int), .int .i64 (d : Int)]) (by simp [results, Tryz.results68, go_sem, i0, i1, i2, i3]) rfl ?_
  exact ⟨_, _, _, _, _, rfl, VB.out, AZ, KZ⟩
end Go.Proofs.YtemhcpldflcfbaaGreatDoor
