/-
  What the last text of this claim leans on, part 9: Wa1, Ha6, Hb1.
-/
import Derived.Test.YtelocgefaommmaaDoorZh8
import Derived.Test.YtelocgefaommmaaDoorZh6
namespace Go.Proofs.YtelocgefaommmaaDoor
open Go.RowKit
set_option linter.unusedVariables false

/-- A pattern that came in, as a value: its cells anywhere. -/
structure ArgP (w : World) (xs : List Int) (a : Option Addr) (n c : Nat) : Prop where
  len : n = xs.length
  max : n ≤ maxLen
  cells : ∀ k (h : k < xs.length), ∃ g off, a = some ⟨g, off, none⟩ ∧ g < w.heap.size ∧ w.cell? ⟨g, off + k, none⟩ = some (.int .i64 xs[k])
theorem ArgP.below {w w' : World} {xs : List Int} {a : Option Addr} {n c : Nat} (h : ArgP w xs a n c) (hb : Below w.heap.size w w') : ArgP w' xs a n c :=
  ⟨h.len, h.max, fun k hk => by
    obtain ⟨g, off, e, hg, hc⟩ := h.cells k hk
    exact ⟨g, off, e, Nat.lt_of_lt_of_le hg hb.size, (World.cell?_of_block (w := w) (a := ⟨g, off + k, none⟩) (hb.block g hg)).trans hc⟩⟩
theorem ArgP.alloc {w : World} {xs : List Int} {a : Option Addr} {n c : Nat} (h : ArgP w xs a n c) (x : Obj) : ArgP (w.alloc x) xs a n c :=
  h.below ((Below.refl _ _).alloc (Nat.le_refl _) _)

def cellB (x : Int) : Bool := decide (x = 0) || decide (x = 1)
def shapeF (W H : Int) (xs : List Int) : Nat :=
  if sideB W && sideB H then (if (xs.length : Int) = W * H then (if xs.all cellB then 0 else 1) else 3) else 1

def errOf (f : Nat) : Value := if f = 0 then .nilIface else .iface 40 (.int .i64 (f : Int))

theorem side_nat {W : Int} (h : sideB W = true) : ∃ n : Nat, W = (n : Int) ∧ n ≤ 100 := by
  unfold sideB at h
  simp at h
  exact ⟨W.toNat, by omega, by omega⟩
theorem side_no {W : Int} (h : sideB W = false) : W < 0 ∨ 100 < W := by
  unfold sideB at h
  simp at h
  omega
theorem all_bad {xs : List Int} {k : Nat} (hk : k < xs.length) (h : cellB xs[k] = false) : xs.all cellB = false := by
  cases q : xs.all cellB with
  | false => rfl
  | true => rw [List.all_eq_true.1 q _ (List.getElem_mem hk)] at h; cases h
theorem all_ok {xs : List Int} (h : ∀ k (hk : k < xs.length), cellB xs[k] = true) : xs.all cellB = true := by
  rw [List.all_eq_true]
  intro x hx
  obtain ⟨k, hk, rfl⟩ := List.getElem_of_mem hx
  exact h k hk
theorem cellB_iff (x : Int) : cellB x = true ↔ x = 0 ∨ x = 1 := by simp [cellB]

set_option maxHeartbeats 1600000 in
theorem Check_P (W H : Int) (xs : List Int) (a : Option Addr) (n c : Nat) (w : World) (hP : ArgP w xs a n c) :
    Calls Tryd.prog 14 #[.agg #[.int .i64 W, .int .i64 H, .slice a n c]] w fun e w' => e = .returned (errOf (shapeF W H xs)) ∧ Below w.heap.size w w' := by
  have HP := hide' (hP.alloc (.cells #[.int .i64 W, .int .i64 H, .slice a n c] 26))
  have hlen := hP.len
  have hmax := hP.max
  have HL := hide' hlen
  unfold maxLen at hmax
  clear hP hlen
  cases s1 : sideB W with
  | false =>
    have F := hide' (show errOf (shapeF W H xs) = .iface 40 (.int .i64 1) by unfold shapeF; rw [s1]; rfl)
    go_enter Tryd.func14, Tryd.ntmps14
    go_wp2_with fail
    refine (pisSide W _).mono ?_
    rw [s1]
    rintro e w1 ⟨rfl, rfl⟩
    go_wp2
    go_ret
    rw [F.out]
    exact ⟨rfl, (Below.refl _ _).alloc (Nat.le_refl _) _⟩
  | true =>
    cases s2 : sideB H with
    | false =>
      have F := hide' (show errOf (shapeF W H xs) = .iface 40 (.int .i64 1) by unfold shapeF; rw [s1, s2]; rfl)
      go_enter Tryd.func14, Tryd.ntmps14
      go_wp2_with fail
      refine (pisSide W _).mono ?_
      rw [s1]
      rintro e w1 ⟨rfl, rfl⟩
      go_wp2_with fail
      refine (pisSide H _).mono ?_
      rw [s2]
      rintro e w1 ⟨rfl, rfl⟩
      go_wp2
      go_ret
      rw [F.out]
      exact ⟨rfl, (Below.refl _ _).alloc (Nat.le_refl _) _⟩
    | true =>
      obtain ⟨Wn, rfl, lW⟩ := side_nat s1
      obtain ⟨Hn, rfl, lH⟩ := side_nat s2
      obtain ⟨N, hN⟩ : ∃ N, Wn * Hn = N := ⟨_, rfl⟩
      have hNi : (Wn : Int) * (Hn : Int) = (N : Int) := by rw [← hN]; simp
      have hN4 : N ≤ 10000 := by rw [← hN]; exact Nat.mul_le_mul lW lH
      by_cases q : n = N
      · have m1 : ((n : Int) != (N : Int)) = false := by simp; omega
        have FO := hide' (fun (h : xs.all cellB = true) => show errOf (shapeF Wn Hn xs) = .nilIface by unfold shapeF; rw [s1, s2, if_pos (show (true && true) = true from rfl), if_pos (by rw [hNi, ← HL.out, q]), if_pos h]; rfl)
        have FN := hide' (fun (h : xs.all cellB = false) => show errOf (shapeF Wn Hn xs) = .iface 40 (.int .i64 1) by unfold shapeF; rw [s1, s2, if_pos (show (true && true) = true from rfl), if_pos (by rw [hNi, ← HL.out, q]), if_neg (by rw [h]; simp)]; rfl)
        clear q hN
        go_enter Tryd.func14, Tryd.ntmps14
        go_wp2_with fail
        refine (pisSide _ _).mono ?_
        rw [s1]
        rintro e w1 ⟨rfl, rfl⟩
        go_wp2_with fail
        refine (pisSide _ _).mono ?_
        rw [s2]
        rintro e w1 ⟨rfl, rfl⟩
        go_wp2
        go_loop [29] (fun kv => ∃ k : Nat, kv = .int .i64 (k : Int) ∧ k ≤ n ∧ ∀ j (h : j < xs.length), j < k → cellB xs[j] = true) (fun kv => n - (intOf kv).toNat)
        case atStart => exact ⟨0, rfl, by omega, fun j h hj => by omega⟩
        case round =>
          obtain ⟨k, rfl, hk, hall⟩ := hrel
          have HA := hide' hall
          clear hall
          by_cases d : (k : Int) < (n : Int)
          · have hkl : k < xs.length := by have := HL.out; omega
            obtain ⟨g, off, rfl, hg, hc⟩ := HP.out.cells k hkl
            obtain ⟨x, hx⟩ : ∃ x, xs[k] = x := ⟨_, rfl⟩
            rw [hx] at hc
            have HX := hide' hx
            clear hx
            by_cases x0 : x = 0
            · have m2 : (x != 0) = false := by simp [x0]
              have X := hide' x0
              clear x0
              go_wp2
              refine ⟨⟨k + 1, by go_num, by omega, fun j h hj => ?_⟩, by simp [intOf]; omega⟩
              by_cases e : j = k
              · subst e; rw [HX.out, X.out]; rfl
              · exact HA.out j h (by omega)
            · have m2 : (x != 0) = true := by simp [x0]
              by_cases x1 : x = 1
              · have m3 : (x != 1) = false := by simp [x1]
                have X := hide' x1
                clear x0 x1
                go_wp2
                refine ⟨⟨k + 1, by go_num, by omega, fun j h hj => ?_⟩, by simp [intOf]; omega⟩
                by_cases e : j = k
                · subst e; rw [HX.out, X.out]; rfl
                · exact HA.out j h (by omega)
              · have m3 : (x != 1) = true := by simp [x1]
                have X := hide' (show cellB x = false by unfold cellB; simp [x0, x1])
                clear x0 x1
                go_wp2
                go_ret
                rw [FN.out (all_bad hkl (by rw [HX.out]; exact X.out))]
                exact ⟨rfl, (Below.refl _ _).alloc (Nat.le_refl _) _⟩
          · go_wp2
            go_ret
            rw [FO.out (all_ok fun j hj => HA.out j hj (by have := HL.out; omega))]
            exact ⟨rfl, (Below.refl _ _).alloc (Nat.le_refl _) _⟩
      · have m1 : ((n : Int) != (N : Int)) = true := by simp; omega
        have F := hide' (show errOf (shapeF Wn Hn xs) = .iface 40 (.int .i64 3) by unfold shapeF; rw [s1, s2, if_pos (show (true && true) = true from rfl), if_neg (by rw [hNi, ← HL.out]; omega)]; rfl)
        clear q hN
        go_enter Tryd.func14, Tryd.ntmps14
        go_wp2_with fail
        refine (pisSide _ _).mono ?_
        rw [s1]
        rintro e w1 ⟨rfl, rfl⟩
        go_wp2_with fail
        refine (pisSide _ _).mono ?_
        rw [s2]
        rintro e w1 ⟨rfl, rfl⟩
        go_wp2
        go_ret
        rw [F.out]
        exact ⟨rfl, (Below.refl _ _).alloc (Nat.le_refl _) _⟩
end Go.Proofs.YtelocgefaommmaaDoor

namespace Go.Proofs.YtelocgefaommmaaDoor
open Go.RowKit
set_option linter.unusedVariables false
theorem sideI_nat (n : Nat) : sideI n = ((2 ^ (n + 3) : Nat) : Int) := by
  unfold sideI
  rw [Nat.pow_add]
  push_cast
  omega
theorem sideI_le {n : Nat} (h : n ≤ 20) : sideI n ≤ 8388608 := by
  rw [sideI_nat]
  have : 2 ^ (n + 3) ≤ 2 ^ 23 := Nat.pow_le_pow_right (by omega) (by omega)
  omega
def apartB (n : Nat) (x y : Int) (W H : Nat) : Bool := decide ((W : Int) ≤ x ∨ (H : Int) ≤ y ∨ x + sideI n ≤ 0 ∨ y + sideI n ≤ 0)
def BoolP (b : Bool) (w : World) (e : Ending) (w' : World) : Prop := e = .returned (.bool b) ∧ Below w.heap.size w w'
set_option maxRecDepth 100000 in
set_option maxHeartbeats 3200000 in
theorem isApart_any (n L : Nat) (x y : Int) (W H : Nat) (a : Option Addr) (m c : Nat) (w : World) (hL : L = n + 3) (hn : n ≤ 20) (hx : -1000000000 ≤ x ∧ x ≤ 1000000000) (hy : -1000000000 ≤ y ∧ y ≤ 1000000000) :
    Calls Tryd.prog 27 #[.int .i64 (L : Int), .int .i64 x, .int .i64 y, .agg #[.int .i64 (W : Int), .int .i64 (H : Int), .slice a m c]] w (BoolP (apartB n x y W H) w) := by
  obtain ⟨sd, hsd⟩ : ∃ sd, sideI n = sd := ⟨_, rfl⟩
  have b1 := sideI_le hn
  have b2 := sideI_pos n
  have e1 : wrap64 (2 ^ L) = sd := by
    have : (2 : Int) ^ L = sd := by rw [hL, ← hsd, sideI_nat]; push_cast; rfl
    rw [this]; unfold wrap64; omega
  have hL2 : L ≤ 23 := by omega
  have e2 : wrap64 (x + sd) = x + sd := by unfold wrap64; omega
  have e3 : wrap64 (y + sd) = y + sd := by unfold wrap64; omega
  have AP := hide' (show apartB n x y W H = decide ((W : Int) ≤ x ∨ (H : Int) ≤ y ∨ x + sd ≤ 0 ∨ y + sd ≤ 0) by unfold apartB; rw [hsd])
  have BB := hide' (show Below w.heap.size w (w.alloc (.cells #[.int .i64 (W : Int), .int .i64 (H : Int), .slice a m c] 26)) from (Below.refl _ _).alloc (Nat.le_refl _) _)
  clear hsd b1 b2 hx hy hL hn
  by_cases c1 : (W : Int) ≤ x
  · go_enter Tryd.func27, Tryd.ntmps27
    go_wp2
    go_ret
    exact ⟨by rw [AP.out, decide_eq_true (Or.inl c1)]; rfl, BB.out⟩
  · by_cases c2 : (H : Int) ≤ y
    · go_enter Tryd.func27, Tryd.ntmps27
      go_wp2
      go_ret
      exact ⟨by rw [AP.out, decide_eq_true (Or.inr (Or.inl c2))]; rfl, BB.out⟩
    · by_cases c3 : x + sd ≤ 0
      · go_enter Tryd.func27, Tryd.ntmps27
        go_wp2
        go_ret
        exact ⟨by rw [AP.out, decide_eq_true (Or.inr (Or.inr (Or.inl c3)))]; rfl, BB.out⟩
      · by_cases c4 : y + sd ≤ 0
        · go_enter Tryd.func27, Tryd.ntmps27
          go_wp2
          go_ret
          exact ⟨by rw [AP.out, decide_eq_true (Or.inr (Or.inr (Or.inr c4)))]; rfl, BB.out⟩
        · go_enter Tryd.func27, Tryd.ntmps27
          go_wp2
          go_ret
          exact ⟨by rw [AP.out, decide_eq_false (fun h => by clear e1 e2 e3 AP BB; omega)]; rfl, BB.out⟩
def inB (x y : Int) (W H : Nat) : Bool := decide (0 ≤ x ∧ x < W ∧ 0 ≤ y ∧ y < H)
/-- What within answers. -/
def WiP (x y : Int) (W H : Nat) (w : World) (e : Ending) (w' : World) : Prop := (∃ v : Int, e = .returned (.tuple #[.int .i64 v, .bool (inB x y W H)]) ∧ (inB x y W H = true → v = y * W + x)) ∧ Below w.heap.size w w'
set_option maxRecDepth 100000 in
set_option maxHeartbeats 3200000 in
theorem within_any (x y : Int) (W H : Nat) (a : Option Addr) (m c : Nat) (w : World) (hW : W ≤ 100) (hH : H ≤ 100) :
    Calls Tryd.prog 29 #[.int .i64 x, .int .i64 y, .agg #[.int .i64 (W : Int), .int .i64 (H : Int), .slice a m c]] w (WiP x y W H w) := by
  obtain ⟨w1, hw1⟩ : ∃ w1, w.alloc (.cells #[.int .i64 (W : Int), .int .i64 (H : Int), .slice a m c] 26) = w1 := ⟨_, rfl⟩
  have BB := hide' (show Below w.heap.size w w1 by rw [← hw1]; exact (Below.refl _ _).alloc (Nat.le_refl _) _)
  have F1 := hide' (show w1.heap[w.heap.size]? = some (.cells #[.int .i64 (W : Int), .int .i64 (H : Int), .slice a m c] 26 (0, 0)) by rw [← hw1]; exact heap_alloc_new _ _)
  have HW1 := hide' hw1
  have y0 := cell_of_row w1 _ 0 _ _ _ F1.out
  have y1 := cell_of_row w1 _ 1 _ _ _ F1.out
  simp at y0 y1
  obtain ⟨vm, hvm⟩ : ∃ vm, wrap64 (y * (W : Int)) = vm := ⟨_, rfl⟩
  have VV := hide' (show inB x y W H = true → wrap64 (vm + x) = y * W + x from fun h => by
    have h := of_decide_eq_true h
    have h0 : 0 ≤ y * (W : Int) := Int.mul_nonneg h.2.2.1 (by omega)
    have h1 : y * (W : Int) ≤ 100 * 100 := Int.mul_le_mul (by omega) (by omega) (by omega) (by omega)
    rw [← hvm]
    unfold wrap64
    generalize y * (W : Int) = z at h0 h1
    omega)
  clear hw1
  have fin : ∀ (t : Bool) (V : World), (t = inB x y W H) → (∃ q, V = w1.drewN q) → WiP x y W H w (.returned (.tuple #[.int .i64 (wrap64 (vm + x)), .bool t])) V := fun t V h1 h2 => by
    subst h1
    obtain ⟨q, rfl⟩ := h2
    exact ⟨⟨_, rfl, VV.out⟩, below_drewN BB.out q⟩
  have FIN := hide' fin
  clear fin
  by_cases c1 : 0 ≤ x
  · by_cases c2 : x < (W : Int)
    · by_cases c3 : 0 ≤ y
      · by_cases c4 : y < (H : Int)
        · have IB := hide' (show inB x y W H = true from decide_eq_true ⟨c1, c2, c3, c4⟩)
          go_enter Tryd.func29, Tryd.ntmps29
          go_upto_region 1 with fail
          rw [HW1.out]
          go_quiet (fail)
          go_wp2
          go_ret2
          exact FIN.out _ _ (IB.out.symm) ⟨_, rfl⟩
        · have IB := hide' (show inB x y W H = false from decide_eq_false (fun h => c4 h.2.2.2))
          go_enter Tryd.func29, Tryd.ntmps29
          go_upto_region 1 with fail
          rw [HW1.out]
          go_quiet (fail)
          go_wp2
          go_ret2
          exact FIN.out _ _ (IB.out.symm) ⟨_, rfl⟩
      · have IB := hide' (show inB x y W H = false from decide_eq_false (fun h => c3 h.2.2.1))
        go_enter Tryd.func29, Tryd.ntmps29
        go_upto_region 1 with fail
        rw [HW1.out]
        go_quiet (fail)
        go_wp2
        go_ret2
        exact FIN.out _ _ (IB.out.symm) ⟨_, rfl⟩
    · have IB := hide' (show inB x y W H = false from decide_eq_false (fun h => c2 h.2.1))
      go_enter Tryd.func29, Tryd.ntmps29
      go_upto_region 1 with fail
      rw [HW1.out]
      go_quiet (fail)
      go_wp2
      go_ret2
      exact FIN.out _ _ (IB.out.symm) ⟨_, rfl⟩
  · have IB := hide' (show inB x y W H = false from decide_eq_false (fun h => c1 h.1))
    go_enter Tryd.func29, Tryd.ntmps29
    go_upto_region 1 with fail
    rw [HW1.out]
    go_quiet (fail)
    go_wp2
    go_ret2
    exact FIN.out _ _ (IB.out.symm) ⟨_, rfl⟩
def hasB (n : Nat) (fr fd u v : Int) : Bool := decide (0 ≤ u - fr ∧ u - fr < sideI n ∧ 0 ≤ v - fd ∧ v - fd < sideI n)
set_option maxRecDepth 100000 in
set_option maxHeartbeats 3200000 in
theorem has_any (n L sb : Nat) (rt : Int) (fr fd u v : Int) (w : World) (hL : L = n + 3) (hn : n ≤ 20) (h1 : -1000000000 ≤ fr ∧ fr ≤ 1000000000) (h2 : -1000000000 ≤ fd ∧ fd ≤ 1000000000) (h3 : -1000000000 ≤ u ∧ u ≤ 1000000000) (h4 : -1000000000 ≤ v ∧ v ≤ 1000000000) :
    Calls Tryd.prog 24 #[.agg #[.pointer (some ⟨sb, 0, none⟩), .int .i32 rt, .int .i64 (L : Int), .int .i64 fr, .int .i64 fd], .int .i64 u, .int .i64 v] w (BoolP (hasB n fr fd u v) w) := by
  obtain ⟨sd, hsd⟩ : ∃ sd, sideI n = sd := ⟨_, rfl⟩
  have b1 := sideI_le hn
  have b2 := sideI_pos n
  have e1 : wrap64 (2 ^ L) = sd := by
    have : (2 : Int) ^ L = sd := by rw [hL, ← hsd, sideI_nat]; push_cast; rfl
    rw [this]; unfold wrap64; omega
  have hL2 : L ≤ 23 := by omega
  obtain ⟨p, hp⟩ : ∃ p, u - fr = p := ⟨_, rfl⟩
  obtain ⟨q, hq⟩ : ∃ q, v - fd = q := ⟨_, rfl⟩
  have e2 : wrap64 (u - fr) = p := by rw [← hp]; unfold wrap64; omega
  have e3 : wrap64 (v - fd) = q := by rw [← hq]; unfold wrap64; omega
  have AP := hide' (show hasB n fr fd u v = decide (0 ≤ p ∧ p < sd ∧ 0 ≤ q ∧ q < sd) by unfold hasB; rw [hsd, hp, hq])
  obtain ⟨w1, hw1⟩ : ∃ w1, w.alloc (.cells #[.pointer (some ⟨sb, 0, none⟩), .int .i32 rt, .int .i64 (L : Int), .int .i64 fr, .int .i64 fd] 56) = w1 := ⟨_, rfl⟩
  have BB := hide' (show Below w.heap.size w w1 by rw [← hw1]; exact (Below.refl _ _).alloc (Nat.le_refl _) _)
  have F1 := hide' (show w1.heap[w.heap.size]? = some (.cells #[.pointer (some ⟨sb, 0, none⟩), .int .i32 rt, .int .i64 (L : Int), .int .i64 fr, .int .i64 fd] 56 (0, 0)) by rw [← hw1]; exact heap_alloc_new _ _)
  have HW1 := hide' hw1
  have y2 := cell_of_row w1 _ 2 _ _ _ F1.out
  have y3 := cell_of_row w1 _ 3 _ _ _ F1.out
  have y4 := cell_of_row w1 _ 4 _ _ _ F1.out
  simp at y2 y3 y4
  clear hsd b1 b2 h1 h2 h3 h4 hp hq hw1 hL hn
  have fin : ∀ (t : Bool) (V : World), (t = hasB n fr fd u v) → (∃ q, V = w1.drewN q) → BoolP (hasB n fr fd u v) w (.returned (.bool t)) V := fun t V h1 h2 => by
    subst h1
    obtain ⟨q, rfl⟩ := h2
    exact ⟨rfl, below_drewN BB.out q⟩
  have FIN := hide' fin
  clear fin
  by_cases c1 : 0 ≤ p
  · by_cases c2 : p < sd
    · by_cases c3 : 0 ≤ q
      · by_cases c4 : q < sd
        · have IB := hide' (show hasB n fr fd u v = true by rw [AP.out]; exact decide_eq_true ⟨c1, c2, c3, c4⟩)
          go_enter Tryd.func24, Tryd.ntmps24
          go_upto_region 1 with fail
          rw [HW1.out]
          go_upto_region 2 with fail
          go_quiet (fail)
          go_wp2
          go_ret
          exact FIN.out _ _ (IB.out.symm) ⟨_, rfl⟩
        · have IB := hide' (show hasB n fr fd u v = false by rw [AP.out]; exact decide_eq_false (fun h => c4 h.2.2.2))
          go_enter Tryd.func24, Tryd.ntmps24
          go_upto_region 1 with fail
          rw [HW1.out]
          go_upto_region 2 with fail
          go_quiet (fail)
          go_wp2
          go_ret
          exact FIN.out _ _ (IB.out.symm) ⟨_, rfl⟩
      · have IB := hide' (show hasB n fr fd u v = false by rw [AP.out]; exact decide_eq_false (fun h => c3 h.2.2.1))
        go_enter Tryd.func24, Tryd.ntmps24
        go_upto_region 1 with fail
        rw [HW1.out]
        go_upto_region 2 with fail
        go_quiet (fail)
        go_wp2
        go_ret
        exact FIN.out _ _ (IB.out.symm) ⟨_, rfl⟩
    · have IB := hide' (show hasB n fr fd u v = false by rw [AP.out]; exact decide_eq_false (fun h => c2 h.2.1))
      go_enter Tryd.func24, Tryd.ntmps24
      go_upto_region 1 with fail
      rw [HW1.out]
      go_upto_region 2 with fail
      go_quiet (fail)
      go_wp2
      go_ret
      exact FIN.out _ _ (IB.out.symm) ⟨_, rfl⟩
  · have IB := hide' (show hasB n fr fd u v = false by rw [AP.out]; exact decide_eq_false (fun h => c1 h.1))
    go_enter Tryd.func24, Tryd.ntmps24
    go_upto_region 1 with fail
    rw [HW1.out]
    go_upto_region 2 with fail
    go_quiet (fail)
    go_wp2
    go_ret
    exact FIN.out _ _ (IB.out.symm) ⟨_, rfl⟩
end Go.Proofs.YtelocgefaommmaaDoor

namespace Go.Proofs.YtelocgefaommmaaDoor
set_option linter.unusedVariables false
/-- A pattern's cell by its place. -/
def cellF (W : Nat) (xs : List Int) (u v : Int) : Int := xs.getD (v * W + u).toNat 0
def setB (k j c : Nat) : Nat := (k &&& (18446744073709551615 - 2 ^ j)) ||| (c * 2 ^ j)
theorem setB_test {k j c i : Nat} (hk : k < 2 ^ 64) (hj : j < 64) (hc : c ≤ 1) (hi : i < 64) : (setB k j c).testBit i = if i = j then decide (c = 1) else k.testBit i := by
  unfold setB
  rw [Nat.testBit_or, Nat.testBit_and, show 18446744073709551615 - 2 ^ j = 2 ^ 64 - (2 ^ j + 1) by omega, Nat.testBit_two_pow_sub_succ (Nat.pow_lt_pow_right (by omega) hj), Nat.testBit_two_pow, Nat.testBit_mul_two_pow]
  by_cases e : i = j
  · subst e
    have : c = 0 ∨ c = 1 := by omega
    rcases this with rfl | rfl <;> simp
  · rw [if_neg e]
    have h1 : decide (j = i) = false := by simp; omega
    have h2 : decide (i < 64) = true := by simp; omega
    rw [h1, h2]
    by_cases d : j ≤ i
    · have : c.testBit (i - j) = false := Nat.testBit_lt_two_pow (Nat.lt_of_le_of_lt hc (Nat.one_lt_two_pow (by omega)))
      simp [this]
    · simp [show ¬ j ≤ i from d]
theorem setB_lt {k j c : Nat} (hk : k < 2 ^ 64) (hj : j < 64) (hc : c ≤ 1) : setB k j c < 2 ^ 64 := by
  unfold setB
  refine Nat.or_lt_two_pow (Nat.lt_of_le_of_lt Nat.and_le_left hk) ?_
  have h1 : c * 2 ^ j ≤ 1 * 2 ^ j := Nat.mul_le_mul_right _ hc
  have h2 : 2 ^ j < 2 ^ 64 := Nat.pow_lt_pow_right (by omega) hj
  omega
/-- An eight while its bits are laid. -/
def LKn (W H : Nat) (xs : List Int) (x y : Int) (k j kj : Nat) : Prop := kj < 2 ^ 64 ∧ ∀ i, i < 64 → kj.testBit i = if i < j ∧ inP W H (x + (i : Int) % 8) (y + (i : Int) / 8) then decide (cellF W xs (x + (i : Int) % 8) (y + (i : Int) / 8) = 1) else k.testBit i
theorem LKn.zero {W H : Nat} {xs : List Int} {x y : Int} {k : Nat} (hk : k < 2 ^ 64) : LKn W H xs x y k 0 k := ⟨hk, fun i hi => by rw [if_neg (by omega)]⟩
theorem LKn.skip {W H : Nat} {xs : List Int} {x y : Int} {k j kj : Nat} (h : LKn W H xs x y k j kj) (hn : ¬ inP W H (x + (j : Int) % 8) (y + (j : Int) / 8)) : LKn W H xs x y k (j + 1) kj := ⟨h.1, fun i hi => by
  rw [h.2 i hi]
  by_cases e : i = j
  · subst e; rw [if_neg (fun q => hn q.2), if_neg (fun q => hn q.2)]
  · congr 1
    apply propext
    constructor
    · rintro ⟨a, b⟩; exact ⟨by omega, b⟩
    · rintro ⟨a, b⟩; exact ⟨by omega, b⟩⟩
theorem LKn.put {W H : Nat} {xs : List Int} {x y : Int} {k j kj c : Nat} (h : LKn W H xs x y k j kj) (hj : j < 64) (hn : inP W H (x + (j : Int) % 8) (y + (j : Int) / 8)) (hc : c ≤ 1) (he : cellF W xs (x + (j : Int) % 8) (y + (j : Int) / 8) = (c : Int)) : LKn W H xs x y k (j + 1) (setB kj j c) := ⟨setB_lt h.1 hj hc, fun i hi => by
  rw [setB_test h.1 hj hc hi]
  by_cases e : i = j
  · subst e; rw [if_pos rfl, if_pos ⟨by omega, hn⟩, he]
    congr 1
    apply propext
    omega
  · rw [if_neg e, h.2 i hi]
    congr 1
    apply propext
    constructor
    · rintro ⟨a, b⟩; exact ⟨by omega, b⟩
    · rintro ⟨a, b⟩; exact ⟨by omega, b⟩⟩
theorem bit_test (k : Nat) {X Y : Int} (h : 0 ≤ X ∧ X < 8 ∧ 0 ≤ Y ∧ Y < 8) : bitQ k X Y = ((k.testBit (8 * Y + X).toNat).toNat : Int) := by
  unfold bitQ; rw [if_pos h, Nat.toNat_testBit]
theorem LKn.done {W H : Nat} {xs : List Int} {x y : Int} {k kj : Nat} (h : LKn W H xs x y k 64 kj) (hb : ∀ i, 0 ≤ xs.getD i 0 ∧ xs.getD i 0 ≤ 1) {X Y : Int} (r : 0 ≤ X ∧ X < 8 ∧ 0 ≤ Y ∧ Y < 8) :
    (inP W H (x + X) (y + Y) → bitQ kj X Y = cellF W xs (x + X) (y + Y)) ∧ (¬ inP W H (x + X) (y + Y) → bitQ kj X Y = bitQ k X Y) := by
  obtain ⟨i, hi⟩ : ∃ i, (8 * Y + X).toNat = i := ⟨_, rfl⟩
  have il : i < 64 := by omega
  have e1 : (i : Int) % 8 = X := by omega
  have e2 : (i : Int) / 8 = Y := by omega
  have t := h.2 i il
  rw [e1, e2] at t
  rw [bit_test _ r, bit_test _ r, hi]
  constructor
  · intro p
    rw [t, if_pos ⟨il, p⟩]
    have := hb ((y + Y) * W + (x + X)).toNat
    unfold cellF
    generalize xs.getD ((y + Y) * W + (x + X)).toNat 0 = z at this
    have : z = 0 ∨ z = 1 := by omega
    rcases this with rfl | rfl <;> rfl
  · intro p
    rw [t, if_neg (fun q => p q.2)]
end Go.Proofs.YtelocgefaommmaaDoor

