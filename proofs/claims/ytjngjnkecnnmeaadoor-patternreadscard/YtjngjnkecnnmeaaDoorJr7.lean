/-
  What the last text of this claim leans on, part 7: Pa6, DSpec.
-/
import Derived.Test.YtjngjnkecnnmeaaDoorJr4
import Derived.Test.YtjngjnkecnnmeaaDoorJr6
import Derived.Test.YtjngjnkecnnmeaaDoorJr5
import Derived.Laws.RangeAny
namespace Go.Proofs.YtjngjnkecnnmeaaDoor
open Go.RowKit
set_option linter.unusedVariables false

def sideB (n : Int) : Bool := decide (0 ≤ n) && decide (n ≤ 100)
theorem pisSide (n : Int) (w : World) :
    Calls Tryd.prog 70 #[.int .i64 n] w fun e w' => e = .returned (.bool (sideB n)) ∧ w' = w := by
  by_cases h1 : 0 ≤ n
  · by_cases h2 : n ≤ 100
    · rw [show sideB n = true by unfold sideB; simp; omega]
      go_enter Tryd.func70, Tryd.ntmps70
      go_wp2
      go_ret
      exact ⟨rfl, rfl⟩
    · rw [show sideB n = false by unfold sideB; simp; omega]
      go_enter Tryd.func70, Tryd.ntmps70
      go_wp2
      go_ret
      exact ⟨rfl, rfl⟩
  · rw [show sideB n = false by unfold sideB; simp; omega]
    go_enter Tryd.func70, Tryd.ntmps70
    go_wp2
    go_ret
    exact ⟨rfl, rfl⟩

def SidePost (b : Nat) (s : ByteArray) (r : Rv) (ws : List Nat) (w : World) (e : Ending) (w' : World) : Prop :=
  (∃ n j, sideS s ws r.i = .inl (n, j) ∧ e = .returned (.tuple #[.int .i64 (n : Int), .bool true]) ∧ RAt b s { r with i := j } w' ∧ Rd b w w' ∧ j ≤ s.size ∧ n ≤ 100) ∨
  (∃ (a f : Nat) (m : Int), sideS s ws r.i = .inr (a, f) ∧ e = .returned (.tuple #[.int .i64 m, .bool false]) ∧ RAt b s { r with i := a, fl := f } w' ∧ Rd b w w')

set_option maxHeartbeats 1600000 in
theorem pside (b : Nat) (s t : ByteArray) (r : Rv) (w : World) (h : RAt b s r w) (hi : r.i ≤ s.size) (hs : s.size ≤ 40000) (ht : t.size ≤ 100) (hz : ∀ k, k < t.size → 0 < bt t k) :
    Calls Tryd.prog 129 #[.pointer (some ⟨b, 0, none⟩), .string t] w (SidePost b s r (bts t) w) := by
  have H := hide' h
  have HZ := hide' hz
  clear h hz
  go_enter Tryd.func129, Tryd.ntmps129
  go_wp2_with fail
  refine (pexpect b s t r _ H.out hi hs ht HZ.out).mono ?_
  rintro e w1 (⟨j, hw, rfl, a1, r1, hj⟩ | ⟨j, hw, rfl, a1, r1⟩)
  · have A1 := hide' a1
    have R1 := hide' r1
    have HW := hide' hw
    have c1 := a1.ten.c1
    dsimp only at c1
    clear a1 r1 hw
    go_wp2_with fail
    refine (pnumber b s _ _ A1.out hj hs).mono ?_
    rintro e w2 (⟨hn, rfl, a2, r2, hj2⟩ | ⟨hn, rfl, a2, r2⟩)
    · have A2 := hide' a2
      have R2 := hide' r2
      have HN := hide' hn
      dsimp only at hn hj2
      clear a2 r2 hn
      by_cases q : (num s j).1 ≤ 100
      · have hq : sideB ((num s j).1 : Int) = true := by unfold sideB; simp; omega
        go_wp2_with fail
        refine (pisSide _ _).mono ?_
        rw [hq]
        rintro e w3 ⟨rfl, rfl⟩
        go_wp2
        go_ret2
        left
        refine ⟨(num s j).1, (num s j).2, ?_, rfl, A2.out, R1.out.trans R2.out, hj2, q⟩
        unfold sideS
        rw [HW.out]
        have hn : numSix s j = true := HN.out
        simp only [hn]
        rw [if_neg (by simp), if_neg (by omega)]
      · have hq : sideB ((num s j).1 : Int) = false := by unfold sideB; simp; omega
        go_wp2_with fail
        refine (pisSide _ _).mono ?_
        rw [hq]
        rintro e w3 ⟨rfl, rfl⟩
        go_wp2_with fail
        refine (pfail b s _ j _ _ _ rfl A2.out).mono ?_
        rintro e w4 ⟨rfl, a4, r4⟩
        go_wp2
        go_ret2
        right
        refine ⟨j, 1, _, ?_, rfl, a4, (R1.out.trans R2.out).trans r4⟩
        unfold sideS
        rw [HW.out]
        have hn : numSix s j = true := HN.out
        simp only [hn]
        rw [if_neg (by simp), if_pos (by omega)]
    · have R2 := hide' r2
      have A2 := hide' a2
      have HN := hide' hn
      clear r2 a2 hn
      go_wp2
      go_ret2
      right
      refine ⟨j, 2, _, ?_, rfl, A2.out, R1.out.trans R2.out⟩
      unfold sideS
      rw [HW.out]
      have hn : numSix s j = false := HN.out
      simp only [hn]
      rw [if_pos (by simp)]
  · have A1 := hide' a1
    have R1 := hide' r1
    have HW := hide' hw
    clear a1 r1 hw
    go_wp2
    go_ret2
    right
    exact ⟨j, 2, _, by unfold sideS; rw [HW.out], rfl, A1.out, R1.out⟩

/-- At block g these ints, writable. -/
structure Cel (w : World) (g : Nat) (xs : List Int) : Prop where
  lt : g < w.heap.size
  cells : ∀ k, k < xs.length → w.cell? ⟨g, k, none⟩ = some (.int .i64 (xs.getD k 0))
  fz : ∀ k, w.frozen? ⟨g, k, none⟩ = false
theorem Cel.block {w w' : World} {g : Nat} {xs : List Int} (h : Cel w g xs) (hs : w.heap.size ≤ w'.heap.size) (e : w'.heap[g]? = w.heap[g]?) : Cel w' g xs :=
  ⟨Nat.lt_of_lt_of_le h.lt hs, fun k hk => (World.cell?_of_block (w := w) (a := ⟨g, k, none⟩) e).trans (h.cells k hk), fun k => (World.frozen?_of_block (w := w) (a := ⟨g, k, none⟩) e).trans (h.fz k)⟩
theorem Cel.rd {w w' : World} {g b : Nat} {xs : List Int} (h : Cel w g xs) (hr : Rd b w w') (hb : g ≠ b) : Cel w' g xs := h.block hr.size (hr.block g h.lt hb)
theorem Cel.below {w w' : World} {g : Nat} {xs : List Int} (h : Cel w g xs) (hb : Below w.heap.size w w') : Cel w' g xs := h.block hb.size (hb.block g h.lt)
theorem Cel.set {w : World} {g : Nat} {xs : List Int} (h : Cel w g xs) (p : Nat) (x : Int) (hp : p < xs.length) : Cel (w.setCell ⟨g, p, none⟩ (.int .i64 x)) g (xs.set p x) := by
  refine ⟨by rw [World.size_setCell]; exact h.lt, fun k hk => ?_, fun k => by rw [World.frozen?_setCell]; exact h.fz k⟩
  rw [List.length_set] at hk
  by_cases e : k = p
  · subst e
    rw [show (xs.set k x).getD k 0 = x by simp [List.getD, hk]]
    exact World.cell?_setCell_same (w := w) (a := ⟨g, k, none⟩) (v := _) (h := h.cells k hk)
  · rw [show (xs.set p x).getD k 0 = xs.getD k 0 by simp [List.getD, Ne.symm e]]
    exact (World.cell?_setCell_other (w := w) (a := ⟨g, p, none⟩) (b := ⟨g, k, none⟩) (v := _) (h := fun q => e (congrArg Addr.off q).symm)).trans (h.cells k hk)

set_option maxHeartbeats 800000 in
theorem pblank (W H : Nat) (w : World) (hW : W ≤ 100) (hH : H ≤ 100) :
    Calls Tryd.prog 123 #[.int .i64 (W : Int), .int .i64 (H : Int)] w fun e w' => ∃ g, e = .returned (.agg #[.int .i64 (W : Int), .int .i64 (H : Int), .slice (some ⟨g, 0, none⟩) (W * H) (W * H)]) ∧ w.heap.size ≤ g ∧ Cel w' g (List.replicate (W * H) 0) ∧ Below w.heap.size w w' := by
  have hn : W * H ≤ 10000 := Nat.mul_le_mul hW hH
  have hc : (W : Int) * (H : Int) = ((W * H : Nat) : Int) := by simp
  have hmk := run_make_row' (P := Tryd.prog) 22 3 (.int .i64 0) 8 Tryd.underlying22 info_int rfl .i64 .i64 (W * H) (by omega) (by omega)
  obtain ⟨N, hN⟩ : ∃ N, W * H = N := ⟨_, rfl⟩
  rw [hN] at hn hc hmk ⊢
  clear hN
  go_enter Tryd.func123, Tryd.ntmps123
  go_wp2
  refine bodyPost_ret (v := .agg #[.int .i64 (W : Int), .int .i64 (H : Int), .slice (some ⟨w.heap.size + 1, 0, none⟩) N N]) (by simp [results, Tryd.results123, go_sem]) rfl ?_
  refine ⟨w.heap.size + 1, rfl, by omega, ⟨by simp, fun k hk => ?_, fun k => ?_⟩, ((Below.refl _ _).alloc (Nat.le_refl _) _).alloc (by simp) _⟩
  · rw [World.cell?_alloc_at _ _ _ _ (by simp)]
    rw [List.length_replicate] at hk
    rw [show (List.replicate N (0 : Int)).getD k 0 = 0 by simp [List.getD, hk]]
    rw [← Array.getElem?_toList, toList_madeCells_one]
    simp [hk]
  · simp
end Go.Proofs.YtjngjnkecnnmeaaDoor

namespace Go.Proofs.YtjngjnkecnnmeaaDoor

def isDot (s : ByteArray) (i : Nat) : Bool := decide (bt s i = 194) && decide (i + 1 < s.size) && decide (bt s (i + 1) = 183)
def isBall (s : ByteArray) (i : Nat) : Bool := decide (bt s i = 226) && decide (i + 2 < s.size) && decide (bt s (i + 1) = 151) && decide (bt s (i + 2) = 143)
theorem isDot_true {s : ByteArray} {i : Nat} : isDot s i = true ↔ bt s i = 194 ∧ i + 1 < s.size ∧ bt s (i + 1) = 183 := by simp [isDot, and_assoc]
theorem isBall_true {s : ByteArray} {i : Nat} : isBall s i = true ↔ bt s i = 226 ∧ i + 2 < s.size ∧ bt s (i + 1) = 151 ∧ bt s (i + 2) = 143 := by simp [isBall, and_assoc]

theorem get_bt (s : ByteArray) (j : Nat) : (s.get! j).toNat = bt s j := by
  unfold bt
  split
  · rename_i h; simp [ByteArray.get!, getElem!_pos, h]; rfl
  · rename_i h
    have : s.data[j]! = default := getElem!_neg _ _ (show ¬ j < s.data.size from h)
    simp [ByteArray.get!, this]; rfl

theorem decode_dot {s : ByteArray} {i : Nat} (h : isDot s i = true) : Utf8.decode s i = (183, 2) := by
  obtain ⟨h0, h1, h2⟩ := isDot_true.1 h
  simp [Utf8.decode, get_bt, h0, h1, h2]
theorem decode_ball {s : ByteArray} {i : Nat} (h : isBall s i = true) : Utf8.decode s i = (9679, 3) := by
  obtain ⟨h0, h1, h2, h3⟩ := isBall_true.1 h
  have h1' : i + 1 < s.size := by omega
  simp [Utf8.decode, get_bt, h0, h1, h1', h2, h3, Utf8.valid]
theorem decode_ten {s : ByteArray} {i : Nat} (h : bt s i = 10) : Utf8.decode s i = (10, 1) := by
  simp [Utf8.decode, get_bt, h]
theorem decode_other {s : ByteArray} {i : Nat} (hd : isDot s i = false) (hb : isBall s i = false) (hn : ¬ bt s i = 10) :
    ¬ (Utf8.decode s i).1 = 183 ∧ ¬ (Utf8.decode s i).1 = 9679 ∧ ¬ (Utf8.decode s i).1 = 10 := by
  have hd' : ¬ (bt s i = 194 ∧ i + 1 < s.size ∧ bt s (i + 1) = 183) := by rw [← isDot_true, hd]; simp
  have hb' : ¬ (bt s i = 226 ∧ i + 2 < s.size ∧ bt s (i + 1) = 151 ∧ bt s (i + 2) = 143) := by rw [← isBall_true, hb]; simp
  have b0 := bt_le s i
  have b1 := bt_le s (i + 1)
  have b2 := bt_le s (i + 2)
  have b3 := bt_le s (i + 3)
  simp only [Utf8.decode, get_bt, Nat.add_zero]
  generalize bt s i = x0 at *
  generalize bt s (i + 1) = x1 at *
  generalize bt s (i + 2) = x2 at *
  generalize bt s (i + 3) = x3 at *
  clear hd hb
  repeat' split
  all_goals simp only [Bool.and_eq_true, decide_eq_true_eq, beq_iff_eq, Utf8.runeError] at *
  all_goals (first | omega | (refine ⟨?_, ?_, ?_⟩ <;> omega))

/-- A drawing from i on: its row began at r, with n cells so far; wide, high and the cells of what was read. -/
def drawF (s : ByteArray) : Nat → Nat → Nat → Nat → Nat → Nat → List Int → (Nat × Nat × List Int) ⊕ (Nat × Nat)
  | 0, _, _, _, _, _, _ => .inr (0, 0)
  | f + 1, i, r, n, wide, high, xs =>
    if s.size ≤ i then (if r < s.size then .inr (s.size, 2) else .inl (wide, high, xs))
    else if isDot s i then (if high = 100 then .inr (r, 1) else if n = 100 then .inr (i, 1) else drawF s f (i + 2) r (n + 1) wide high (xs ++ [0]))
    else if isBall s i then (if high = 100 then .inr (r, 1) else if n = 100 then .inr (i, 1) else drawF s f (i + 3) r (n + 1) wide high (xs ++ [1]))
    else if bt s i ≠ 10 then .inr (i, 2)
    else if high = 100 then .inr (r, 1)
    else if 0 < high ∧ n ≠ wide then .inr (r, 3)
    else drawF s f (i + 1) (i + 1) 0 n (high + 1) xs

def drawS (s : ByteArray) : (Nat × Nat × List Int) ⊕ (Nat × Nat) :=
  if 40000 < s.size then .inr (0, 4) else drawF s (s.size + 1) 0 0 0 0 0 []
end Go.Proofs.YtjngjnkecnnmeaaDoor

