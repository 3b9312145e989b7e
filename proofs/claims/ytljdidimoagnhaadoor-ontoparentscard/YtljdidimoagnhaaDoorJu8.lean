/-
  What the last text of this claim leans on, part 8: Pa6, Al1, Wa1.
-/
import Derived.Test.YtljdidimoagnhaaDoorJu5
import Derived.Test.YtljdidimoagnhaaDoorJu7
namespace Go.Proofs.YtljdidimoagnhaaDoor
open Go.RowKit
set_option linter.unusedVariables false

def sideB (n : Int) : Bool := decide (0 ≤ n) && decide (n ≤ 100)
theorem pisSide (n : Int) (w : World) :
    Calls Tryd.prog 88 #[.int .i64 n] w fun e w' => e = .returned (.bool (sideB n)) ∧ w' = w := by
  by_cases h1 : 0 ≤ n
  · by_cases h2 : n ≤ 100
    · rw [show sideB n = true by unfold sideB; simp; omega]
      go_enter Tryd.func88, Tryd.ntmps88
      go_wp2
      go_ret
      exact ⟨rfl, rfl⟩
    · rw [show sideB n = false by unfold sideB; simp; omega]
      go_enter Tryd.func88, Tryd.ntmps88
      go_wp2
      go_ret
      exact ⟨rfl, rfl⟩
  · rw [show sideB n = false by unfold sideB; simp; omega]
    go_enter Tryd.func88, Tryd.ntmps88
    go_wp2
    go_ret
    exact ⟨rfl, rfl⟩

def SidePost (b : Nat) (s : ByteArray) (r : Rv) (ws : List Nat) (w : World) (e : Ending) (w' : World) : Prop :=
  (∃ n j, sideS s ws r.i = .inl (n, j) ∧ e = .returned (.tuple #[.int .i64 (n : Int), .bool true]) ∧ RAt b s { r with i := j } w' ∧ Rd b w w' ∧ j ≤ s.size ∧ n ≤ 100) ∨
  (∃ (a f : Nat) (m : Int), sideS s ws r.i = .inr (a, f) ∧ e = .returned (.tuple #[.int .i64 m, .bool false]) ∧ RAt b s { r with i := a, fl := f } w' ∧ Rd b w w')

set_option maxHeartbeats 1600000 in
theorem pside (b : Nat) (s t : ByteArray) (r : Rv) (w : World) (h : RAt b s r w) (hi : r.i ≤ s.size) (hs : s.size ≤ 40000) (ht : t.size ≤ 100) (hz : ∀ k, k < t.size → 0 < bt t k) :
    Calls Tryd.prog 159 #[.pointer (some ⟨b, 0, none⟩), .string t] w (SidePost b s r (bts t) w) := by
  have H := hide' h
  have HZ := hide' hz
  clear h hz
  go_enter Tryd.func159, Tryd.ntmps159
  go_wp2_with fail
  refine (pexpect b s t r _ H.out hi hs ht HZ.out).mono ?_
  rintro e w1 (⟨j, hw, rfl, a1, r1, hj⟩ | ⟨j, hw, rfl, a1, r1⟩)
  · have A1 := hide' a1
    have R1 := hide' r1
    have HW := hide' hw
    have c1 := a1.ten.c1
    dsimp only at c1
    clear a1 r1 hw
    go_wp2_with fail
    refine (pnumber b s _ _ A1.out hj hs).mono ?_
    rintro e w2 (⟨hn, rfl, a2, r2, hj2⟩ | ⟨hn, rfl, a2, r2⟩)
    · have A2 := hide' a2
      have R2 := hide' r2
      have HN := hide' hn
      dsimp only at hn hj2
      clear a2 r2 hn
      by_cases q : (num s j).1 ≤ 100
      · have hq : sideB ((num s j).1 : Int) = true := by unfold sideB; simp; omega
        go_wp2_with fail
        refine (pisSide _ _).mono ?_
        rw [hq]
        rintro e w3 ⟨rfl, rfl⟩
        go_wp2
        go_ret2
        left
        refine ⟨(num s j).1, (num s j).2, ?_, rfl, A2.out, R1.out.trans R2.out, hj2, q⟩
        unfold sideS
        rw [HW.out]
        have hn : numSix s j = true := HN.out
        simp only [hn]
        rw [if_neg (by simp), if_neg (by omega)]
      · have hq : sideB ((num s j).1 : Int) = false := by unfold sideB; simp; omega
        go_wp2_with fail
        refine (pisSide _ _).mono ?_
        rw [hq]
        rintro e w3 ⟨rfl, rfl⟩
        go_wp2_with fail
        refine (pfail b s _ j _ _ _ rfl A2.out).mono ?_
        rintro e w4 ⟨rfl, a4, r4⟩
        go_wp2
        go_ret2
        right
        refine ⟨j, 1, _, ?_, rfl, a4, (R1.out.trans R2.out).trans r4⟩
        unfold sideS
        rw [HW.out]
        have hn : numSix s j = true := HN.out
        simp only [hn]
        rw [if_neg (by simp), if_pos (by omega)]
    · have R2 := hide' r2
      have A2 := hide' a2
      have HN := hide' hn
      clear r2 a2 hn
      go_wp2
      go_ret2
      right
      refine ⟨j, 2, _, ?_, rfl, A2.out, R1.out.trans R2.out⟩
      unfold sideS
      rw [HW.out]
      have hn : numSix s j = false := HN.out
      simp only [hn]
      rw [if_pos (by simp)]
  · have A1 := hide' a1
    have R1 := hide' r1
    have HW := hide' hw
    clear a1 r1 hw
    go_wp2
    go_ret2
    right
    exact ⟨j, 2, _, by unfold sideS; rw [HW.out], rfl, A1.out, R1.out⟩

/-- At block g these ints, writable. -/
structure Cel (w : World) (g : Nat) (xs : List Int) : Prop where
  lt : g < w.heap.size
  cells : ∀ k, k < xs.length → w.cell? ⟨g, k, none⟩ = some (.int .i64 (xs.getD k 0))
  fz : ∀ k, w.frozen? ⟨g, k, none⟩ = false
theorem Cel.block {w w' : World} {g : Nat} {xs : List Int} (h : Cel w g xs) (hs : w.heap.size ≤ w'.heap.size) (e : w'.heap[g]? = w.heap[g]?) : Cel w' g xs :=
  ⟨Nat.lt_of_lt_of_le h.lt hs, fun k hk => (World.cell?_of_block (w := w) (a := ⟨g, k, none⟩) e).trans (h.cells k hk), fun k => (World.frozen?_of_block (w := w) (a := ⟨g, k, none⟩) e).trans (h.fz k)⟩
theorem Cel.rd {w w' : World} {g b : Nat} {xs : List Int} (h : Cel w g xs) (hr : Rd b w w') (hb : g ≠ b) : Cel w' g xs := h.block hr.size (hr.block g h.lt hb)
theorem Cel.below {w w' : World} {g : Nat} {xs : List Int} (h : Cel w g xs) (hb : Below w.heap.size w w') : Cel w' g xs := h.block hb.size (hb.block g h.lt)
theorem Cel.set {w : World} {g : Nat} {xs : List Int} (h : Cel w g xs) (p : Nat) (x : Int) (hp : p < xs.length) : Cel (w.setCell ⟨g, p, none⟩ (.int .i64 x)) g (xs.set p x) := by
  refine ⟨by rw [World.size_setCell]; exact h.lt, fun k hk => ?_, fun k => by rw [World.frozen?_setCell]; exact h.fz k⟩
  rw [List.length_set] at hk
  by_cases e : k = p
  · subst e
    rw [show (xs.set k x).getD k 0 = x by simp [List.getD, hk]]
    exact World.cell?_setCell_same (w := w) (a := ⟨g, k, none⟩) (v := _) (h := h.cells k hk)
  · rw [show (xs.set p x).getD k 0 = xs.getD k 0 by simp [List.getD, Ne.symm e]]
    exact (World.cell?_setCell_other (w := w) (a := ⟨g, p, none⟩) (b := ⟨g, k, none⟩) (v := _) (h := fun q => e (congrArg Addr.off q).symm)).trans (h.cells k hk)

set_option maxHeartbeats 800000 in
theorem pblank (W H : Nat) (w : World) (hW : W ≤ 100) (hH : H ≤ 100) :
    Calls Tryd.prog 153 #[.int .i64 (W : Int), .int .i64 (H : Int)] w fun e w' => ∃ g, e = .returned (.agg #[.int .i64 (W : Int), .int .i64 (H : Int), .slice (some ⟨g, 0, none⟩) (W * H) (W * H)]) ∧ w.heap.size ≤ g ∧ Cel w' g (List.replicate (W * H) 0) ∧ Below w.heap.size w w' := by
  have hn : W * H ≤ 10000 := Nat.mul_le_mul hW hH
  have hc : (W : Int) * (H : Int) = ((W * H : Nat) : Int) := by simp
  have hmk := run_make_row' (P := Tryd.prog) 22 3 (.int .i64 0) 8 Tryd.underlying22 info_int rfl .i64 .i64 (W * H) (by omega) (by omega)
  obtain ⟨N, hN⟩ : ∃ N, W * H = N := ⟨_, rfl⟩
  rw [hN] at hn hc hmk ⊢
  clear hN
  go_enter Tryd.func153, Tryd.ntmps153
  go_wp2
  refine bodyPost_ret (v := .agg #[.int .i64 (W : Int), .int .i64 (H : Int), .slice (some ⟨w.heap.size + 1, 0, none⟩) N N]) (by simp [results, Tryd.results153, go_sem]) rfl ?_
  refine ⟨w.heap.size + 1, rfl, by omega, ⟨by simp, fun k hk => ?_, fun k => ?_⟩, ((Below.refl _ _).alloc (Nat.le_refl _) _).alloc (by simp) _⟩
  · rw [World.cell?_alloc_at _ _ _ _ (by simp)]
    rw [List.length_replicate] at hk
    rw [show (List.replicate N (0 : Int)).getD k 0 = 0 by simp [List.getD, hk]]
    rw [← Array.getElem?_toList, toList_madeCells_one]
    simp [hk]
  · simp
end Go.Proofs.YtljdidimoagnhaaDoor

namespace Go.Proofs.YtljdidimoagnhaaDoor
open Go.RowKit
set_option linter.unusedVariables false

theorem Cel.tab {w : World} {g n : Nat} {xs : List Int} (h : Cel w g xs) (hn : xs.length = n) : Tab w (.slice (some ⟨g, 0, none⟩) n n) xs := by
  subst hn
  exact Or.inr ⟨g, xs.length, rfl, h.lt, fun k hk => by rw [h.cells k hk]; simp [List.getD, hk]⟩

set_option maxHeartbeats 1600000 in
theorem Alike_same (W H : Int) (va vb : Value) (xs : List Int) (w : World) (ha : Tab w va xs) (hb : Tab w vb xs) (hm : xs.length ≤ maxLen) :
    Calls Tryd.prog 37 #[.agg #[.int .i64 W, .int .i64 H, va], .agg #[.int .i64 W, .int .i64 H, vb]] w fun e w' => e = .returned (.bool true) ∧ Below w.heap.size w w' := by
  have TA := hide' (show Tab ((w.alloc (.cells #[.int .i64 W, .int .i64 H, va] 51)).alloc (.cells #[.int .i64 W, .int .i64 H, vb] 51)) va xs from (ha.alloc' _).alloc' _)
  have TB := hide' (show Tab ((w.alloc (.cells #[.int .i64 W, .int .i64 H, va] 51)).alloc (.cells #[.int .i64 W, .int .i64 H, vb] 51)) vb xs from (hb.alloc' _).alloc' _)
  obtain ⟨a, ca, rfl, -⟩ := ha.parts
  obtain ⟨b, cb, rfl, -⟩ := hb.parts
  go_enter Tryd.func37, Tryd.ntmps37
  go_wp2_with fail
  refine (Ints_same xs _ _ _ TA.out TB.out hm).mono ?_
  rintro e w1 ⟨rfl, m, rfl⟩
  go_wp2
  go_ret
  exact ⟨rfl, below_drewN (((Below.refl _ _).alloc (Nat.le_refl _) _).alloc (by simp) _) m⟩
end Go.Proofs.YtljdidimoagnhaaDoor

namespace Go.Proofs.YtljdidimoagnhaaDoor
open Go.RowKit
set_option linter.unusedVariables false

/-- A pattern that came in, as a value: its cells anywhere. -/
structure ArgP (w : World) (xs : List Int) (a : Option Addr) (n c : Nat) : Prop where
  len : n = xs.length
  max : n ≤ maxLen
  cells : ∀ k (h : k < xs.length), ∃ g off, a = some ⟨g, off, none⟩ ∧ g < w.heap.size ∧ w.cell? ⟨g, off + k, none⟩ = some (.int .i64 xs[k])
theorem ArgP.below {w w' : World} {xs : List Int} {a : Option Addr} {n c : Nat} (h : ArgP w xs a n c) (hb : Below w.heap.size w w') : ArgP w' xs a n c :=
  ⟨h.len, h.max, fun k hk => by
    obtain ⟨g, off, e, hg, hc⟩ := h.cells k hk
    exact ⟨g, off, e, Nat.lt_of_lt_of_le hg hb.size, (World.cell?_of_block (w := w) (a := ⟨g, off + k, none⟩) (hb.block g hg)).trans hc⟩⟩
theorem ArgP.alloc {w : World} {xs : List Int} {a : Option Addr} {n c : Nat} (h : ArgP w xs a n c) (x : Obj) : ArgP (w.alloc x) xs a n c :=
  h.below ((Below.refl _ _).alloc (Nat.le_refl _) _)

def cellB (x : Int) : Bool := decide (x = 0) || decide (x = 1)
def shapeF (W H : Int) (xs : List Int) : Nat :=
  if sideB W && sideB H then (if (xs.length : Int) = W * H then (if xs.all cellB then 0 else 1) else 3) else 1

def errOf (f : Nat) : Value := if f = 0 then .nilIface else .iface 97 (.int .i64 (f : Int))

theorem side_nat {W : Int} (h : sideB W = true) : ∃ n : Nat, W = (n : Int) ∧ n ≤ 100 := by
  unfold sideB at h
  simp at h
  exact ⟨W.toNat, by omega, by omega⟩
theorem side_no {W : Int} (h : sideB W = false) : W < 0 ∨ 100 < W := by
  unfold sideB at h
  simp at h
  omega
theorem all_bad {xs : List Int} {k : Nat} (hk : k < xs.length) (h : cellB xs[k] = false) : xs.all cellB = false := by
  cases q : xs.all cellB with
  | false => rfl
  | true => rw [List.all_eq_true.1 q _ (List.getElem_mem hk)] at h; cases h
theorem all_ok {xs : List Int} (h : ∀ k (hk : k < xs.length), cellB xs[k] = true) : xs.all cellB = true := by
  rw [List.all_eq_true]
  intro x hx
  obtain ⟨k, hk, rfl⟩ := List.getElem_of_mem hx
  exact h k hk
theorem cellB_iff (x : Int) : cellB x = true ↔ x = 0 ∨ x = 1 := by simp [cellB]

set_option maxHeartbeats 1600000 in
theorem Check_P (W H : Int) (xs : List Int) (a : Option Addr) (n c : Nat) (w : World) (hP : ArgP w xs a n c) :
    Calls Tryd.prog 31 #[.agg #[.int .i64 W, .int .i64 H, .slice a n c]] w fun e w' => e = .returned (errOf (shapeF W H xs)) ∧ Below w.heap.size w w' := by
  have HP := hide' (hP.alloc (.cells #[.int .i64 W, .int .i64 H, .slice a n c] 51))
  have hlen := hP.len
  have hmax := hP.max
  have HL := hide' hlen
  unfold maxLen at hmax
  clear hP hlen
  cases s1 : sideB W with
  | false =>
    have F := hide' (show errOf (shapeF W H xs) = .iface 97 (.int .i64 1) by unfold shapeF; rw [s1]; rfl)
    go_enter Tryd.func31, Tryd.ntmps31
    go_wp2_with fail
    refine (pisSide W _).mono ?_
    rw [s1]
    rintro e w1 ⟨rfl, rfl⟩
    go_wp2
    go_ret
    rw [F.out]
    exact ⟨rfl, (Below.refl _ _).alloc (Nat.le_refl _) _⟩
  | true =>
    cases s2 : sideB H with
    | false =>
      have F := hide' (show errOf (shapeF W H xs) = .iface 97 (.int .i64 1) by unfold shapeF; rw [s1, s2]; rfl)
      go_enter Tryd.func31, Tryd.ntmps31
      go_wp2_with fail
      refine (pisSide W _).mono ?_
      rw [s1]
      rintro e w1 ⟨rfl, rfl⟩
      go_wp2_with fail
      refine (pisSide H _).mono ?_
      rw [s2]
      rintro e w1 ⟨rfl, rfl⟩
      go_wp2
      go_ret
      rw [F.out]
      exact ⟨rfl, (Below.refl _ _).alloc (Nat.le_refl _) _⟩
    | true =>
      obtain ⟨Wn, rfl, lW⟩ := side_nat s1
      obtain ⟨Hn, rfl, lH⟩ := side_nat s2
      obtain ⟨N, hN⟩ : ∃ N, Wn * Hn = N := ⟨_, rfl⟩
      have hNi : (Wn : Int) * (Hn : Int) = (N : Int) := by rw [← hN]; simp
      have hN4 : N ≤ 10000 := by rw [← hN]; exact Nat.mul_le_mul lW lH
      by_cases q : n = N
      · have m1 : ((n : Int) != (N : Int)) = false := by simp; omega
        have FO := hide' (fun (h : xs.all cellB = true) => show errOf (shapeF Wn Hn xs) = .nilIface by unfold shapeF; rw [s1, s2, if_pos (show (true && true) = true from rfl), if_pos (by rw [hNi, ← HL.out, q]), if_pos h]; rfl)
        have FN := hide' (fun (h : xs.all cellB = false) => show errOf (shapeF Wn Hn xs) = .iface 97 (.int .i64 1) by unfold shapeF; rw [s1, s2, if_pos (show (true && true) = true from rfl), if_pos (by rw [hNi, ← HL.out, q]), if_neg (by rw [h]; simp)]; rfl)
        clear q hN
        go_enter Tryd.func31, Tryd.ntmps31
        go_wp2_with fail
        refine (pisSide _ _).mono ?_
        rw [s1]
        rintro e w1 ⟨rfl, rfl⟩
        go_wp2_with fail
        refine (pisSide _ _).mono ?_
        rw [s2]
        rintro e w1 ⟨rfl, rfl⟩
        go_wp2
        go_loop [29] (fun kv => ∃ k : Nat, kv = .int .i64 (k : Int) ∧ k ≤ n ∧ ∀ j (h : j < xs.length), j < k → cellB xs[j] = true) (fun kv => n - (intOf kv).toNat)
        case atStart => exact ⟨0, rfl, by omega, fun j h hj => by omega⟩
        case round =>
          obtain ⟨k, rfl, hk, hall⟩ := hrel
          have HA := hide' hall
          clear hall
          by_cases d : (k : Int) < (n : Int)
          · have hkl : k < xs.length := by have := HL.out; omega
            obtain ⟨g, off, rfl, hg, hc⟩ := HP.out.cells k hkl
            obtain ⟨x, hx⟩ : ∃ x, xs[k] = x := ⟨_, rfl⟩
            rw [hx] at hc
            have HX := hide' hx
            clear hx
            by_cases x0 : x = 0
            · have m2 : (x != 0) = false := by simp [x0]
              have X := hide' x0
              clear x0
              go_wp2
              refine ⟨⟨k + 1, by go_num, by omega, fun j h hj => ?_⟩, by simp [intOf]; omega⟩
              by_cases e : j = k
              · subst e; rw [HX.out, X.out]; rfl
              · exact HA.out j h (by omega)
            · have m2 : (x != 0) = true := by simp [x0]
              by_cases x1 : x = 1
              · have m3 : (x != 1) = false := by simp [x1]
                have X := hide' x1
                clear x0 x1
                go_wp2
                refine ⟨⟨k + 1, by go_num, by omega, fun j h hj => ?_⟩, by simp [intOf]; omega⟩
                by_cases e : j = k
                · subst e; rw [HX.out, X.out]; rfl
                · exact HA.out j h (by omega)
              · have m3 : (x != 1) = true := by simp [x1]
                have X := hide' (show cellB x = false by unfold cellB; simp [x0, x1])
                clear x0 x1
                go_wp2
                go_ret
                rw [FN.out (all_bad hkl (by rw [HX.out]; exact X.out))]
                exact ⟨rfl, (Below.refl _ _).alloc (Nat.le_refl _) _⟩
          · go_wp2
            go_ret
            rw [FO.out (all_ok fun j hj => HA.out j hj (by have := HL.out; omega))]
            exact ⟨rfl, (Below.refl _ _).alloc (Nat.le_refl _) _⟩
      · have m1 : ((n : Int) != (N : Int)) = true := by simp; omega
        have F := hide' (show errOf (shapeF Wn Hn xs) = .iface 97 (.int .i64 3) by unfold shapeF; rw [s1, s2, if_pos (show (true && true) = true from rfl), if_neg (by rw [hNi, ← HL.out]; omega)]; rfl)
        clear q hN
        go_enter Tryd.func31, Tryd.ntmps31
        go_wp2_with fail
        refine (pisSide _ _).mono ?_
        rw [s1]
        rintro e w1 ⟨rfl, rfl⟩
        go_wp2_with fail
        refine (pisSide _ _).mono ?_
        rw [s2]
        rintro e w1 ⟨rfl, rfl⟩
        go_wp2
        go_ret
        rw [F.out]
        exact ⟨rfl, (Below.refl _ _).alloc (Nat.le_refl _) _⟩
end Go.Proofs.YtljdidimoagnhaaDoor

