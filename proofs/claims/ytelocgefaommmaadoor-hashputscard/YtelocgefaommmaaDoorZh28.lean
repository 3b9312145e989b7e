/-
  What the last text of this claim leans on, part 28: Wc2, Hf5, Wa2, LawHp0, LawHp1.
-/
import Derived.Test.YtelocgefaommmaaDoorZh18
import Derived.Test.YtelocgefaommmaaDoorZh9
import Derived.Test.YtelocgefaommmaaDoorZh27
import Derived.Test.YtelocgefaommmaaDoorZh5
namespace Go.Proofs.YtelocgefaommmaaDoor
open Go.RowKit
set_option linter.unusedVariables false

set_option maxHeartbeats 800000 in
theorem At_in (W H : Nat) (xs : List Int) (a : Option Addr) (n c x y : Nat) (X Y : Int) (w : World) (hP : ArgP w xs a n c) (lW : W ≤ 100) (lH : H ≤ 100) (hn : n = W * H) (hX : X = x) (hY : Y = y) (hx : x < W) (hy : y < H) :
    Calls Tryd.prog 9 #[.agg #[.int .i64 (W : Int), .int .i64 (H : Int), .slice a n c], .int .i64 X, .int .i64 Y] w fun e w' => e = .returned (.int .i64 (atP W xs x y)) ∧ Below w.heap.size w w' := by
  subst hX hY
  have hN4 : n ≤ 10000 := by rw [hn]; exact Nat.mul_le_mul lW lH
  have hq := mk_lt hx hy
  rw [← hn] at hq
  obtain ⟨Q, hQ⟩ : ∃ Q, y * W = Q := ⟨_, rfl⟩
  have hQi : (y : Int) * (W : Int) = (Q : Int) := by rw [← hQ]; simp
  have hl : Q + x < xs.length := by rw [← hP.len, ← hQ]; exact hq
  have hQn : Q + x < n := by rw [← hQ]; exact hq
  obtain ⟨g, off, rfl, hg, hc⟩ := (hP.alloc (.cells #[.int .i64 (W : Int), .int .i64 (H : Int), .slice a n c] 26)).cells (Q + x) hl
  have V := hide' (show atP W xs x y = xs[Q + x] by unfold atP; rw [hQ]; simp [List.getD, hl])
  obtain ⟨v, hv⟩ : ∃ v, xs[Q + x] = v := ⟨_, rfl⟩
  rw [hv] at hc V
  have h1 : ¬ (x : Int) < 0 := by omega
  have h2 : ¬ (W : Int) ≤ (x : Int) := by omega
  have h3 : ¬ (y : Int) < 0 := by omega
  have h4 : ¬ (H : Int) ≤ (y : Int) := by omega
  clear hP hn hq hQ hv
  go_enter Tryd.func9, Tryd.ntmps9
  go_wp2
  go_ret
  rw [V.out]
  exact ⟨rfl, (Below.refl _ _).alloc (Nat.le_refl _) _⟩

structure RT (w wr : World) (W H W' H' : Nat) (a : Option Addr) (n c : Nat) (v : Value) (ys : List Int) : Prop where
  box : TB w.heap.size (.int .i64 (W : Int)) (.int .i64 (H : Int)) (.slice a n c) wr
  res : TB (w.heap.size + 1) (.int .i64 0) (.int .i64 0) (.slice none 0 0) wr
  q : TB (w.heap.size + 2) (.int .i64 (W' : Int)) (.int .i64 (H' : Int)) v wr
  own : wr.ownsRow (w.heap.size + 3) 3 1 v ys.length (ys.map fun x => .int .i64 x)
  below : Below w.heap.size w wr
  sz : w.heap.size + 3 ≤ wr.heap.size
theorem RT.start (w : World) (W H W' H' : Nat) (a : Option Addr) (n c : Nat) (t1 t2 t3 : TypeId) : RT w (((w.alloc (.cells #[.int .i64 (W : Int), .int .i64 (H : Int), .slice a n c] t1)).alloc (.cells #[.int .i64 0, .int .i64 0, .slice none 0 0] t2)).alloc (.cells #[.int .i64 (W' : Int), .int .i64 (H' : Int), .slice none 0 0] t3)) W H W' H' a n c (.slice none 0 0) [] := by
  have r1 := TB.new (w.alloc (.cells #[.int .i64 (W : Int), .int .i64 (H : Int), .slice a n c] t1)) (.int .i64 0) (.int .i64 0) (.slice none 0 0) t2
  have r2 := TB.new ((w.alloc (.cells #[.int .i64 (W : Int), .int .i64 (H : Int), .slice a n c] t1)).alloc (.cells #[.int .i64 0, .int .i64 0, .slice none 0 0] t2)) (.int .i64 (W' : Int)) (.int .i64 (H' : Int)) (.slice none 0 0) t3
  rw [World.size_alloc] at r1 r2
  rw [World.size_alloc] at r2
  exact ⟨((TB.new w _ _ _ t1).alloc _).alloc _, r1.alloc _, r2, ⟨by simp, Or.inl ⟨rfl, by simp⟩⟩, (((Below.refl _ _).alloc (Nat.le_refl _) _).alloc (by simp) _).alloc (by simp; omega) _, by simp⟩
end Go.Proofs.YtelocgefaommmaaDoor

namespace Go.Proofs.YtelocgefaommmaaDoor
open Go.RowKit
set_option linter.unusedVariables false
/-- What edenref1.At answers. -/
def atH (W H : Nat) (xs : List Int) (u v : Int) : Int := if inP W H u v then cellF W xs u v else 0
theorem At_out (W H : Nat) (a : Option Addr) (n c : Nat) (X Y : Int) (w : World) (h : ¬ inP W H X Y) :
    Calls Tryd.prog 9 #[.agg #[.int .i64 (W : Int), .int .i64 (H : Int), .slice a n c], .int .i64 X, .int .i64 Y] w fun e w' => e = .returned (.int .i64 0) ∧ Below w.heap.size w w' := by
  by_cases h1 : X < 0
  · clear h
    go_enter Tryd.func9, Tryd.ntmps9
    go_wp2
    go_ret
    exact ⟨rfl, (Below.refl _ _).alloc (Nat.le_refl _) _⟩
  · by_cases h2 : (W : Int) ≤ X
    · clear h
      go_enter Tryd.func9, Tryd.ntmps9
      go_wp2
      go_ret
      exact ⟨rfl, (Below.refl _ _).alloc (Nat.le_refl _) _⟩
    · by_cases h3 : Y < 0
      · clear h
        go_enter Tryd.func9, Tryd.ntmps9
        go_wp2
        go_ret
        exact ⟨rfl, (Below.refl _ _).alloc (Nat.le_refl _) _⟩
      · have h4 : (H : Int) ≤ Y := by unfold inP at h; omega
        clear h
        go_enter Tryd.func9, Tryd.ntmps9
        go_wp2
        go_ret
        exact ⟨rfl, (Below.refl _ _).alloc (Nat.le_refl _) _⟩
theorem At_any (W H : Nat) (xs : List Int) (a : Option Addr) (n c : Nat) (X Y : Int) (w : World) (hP : ArgP w xs a n c) (lW : W ≤ 100) (lH : H ≤ 100) (hn : n = W * H) :
    Calls Tryd.prog 9 #[.agg #[.int .i64 (W : Int), .int .i64 (H : Int), .slice a n c], .int .i64 X, .int .i64 Y] w fun e w' => e = .returned (.int .i64 (atH W H xs X Y)) ∧ Below w.heap.size w w' := by
  unfold atH
  split
  · rename_i h
    have h' := h
    unfold inP at h'
    have e : atP W xs X.toNat Y.toNat = cellF W xs X Y := by
      unfold atP cellF
      congr 1
      have e1 : (Y * (W : Int) + X) = ((Y.toNat * W + X.toNat : Nat) : Int) := by
        rw [Int.natCast_add, Int.natCast_mul, Int.toNat_of_nonneg h'.2.2.1, Int.toNat_of_nonneg h'.1]
      rw [e1]; rfl
    rw [← e]
    exact At_in W H xs a n c X.toNat Y.toNat X Y w hP lW lH hn (by omega) (by omega) (by omega) (by omega)
  · rename_i h
    exact At_out W H a n c X Y w h
theorem shape_sidesH {W H : Int} {xs : List Int} (h : shapeF W H xs = 0) : ∃ Wn Hn : Nat, W = (Wn : Int) ∧ H = (Hn : Int) ∧ Wn ≤ 100 ∧ Hn ≤ 100 ∧ xs.length = Wn * Hn ∧ ∀ k, 0 ≤ xs.getD k 0 ∧ xs.getD k 0 ≤ 1 := by
  unfold shapeF at h
  split at h
  · rename_i hs
    split at h
    · rename_i hl
      split at h
      · rename_i ha
        simp only [Bool.and_eq_true] at hs
        unfold sideB at hs
        simp at hs
        refine ⟨W.toNat, H.toNat, by omega, by omega, by omega, by omega, ?_, fun k => ?_⟩
        · have e : ((W.toNat * H.toNat : Nat) : Int) = W * H := by rw [Int.natCast_mul, Int.toNat_of_nonneg (by omega), Int.toNat_of_nonneg (by omega)]
          omega
        · by_cases q : k < xs.length
          · have := List.all_eq_true.1 ha xs[k] (List.getElem_mem q)
            have e : xs.getD k 0 = xs[k] := by simp [List.getD, q]
            rw [e]
            unfold cellB at this
            simp at this
            omega
          · have e : xs.getD k 0 = 0 := by simp [List.getD, q]
            rw [e]; omega
      · omega
    · omega
  · omega
end Go.Proofs.YtelocgefaommmaaDoor

namespace Go.Proofs.YtelocgefaommmaaDoor
open Go.RowKit
set_option linter.unusedVariables false

set_option maxHeartbeats 1600000 in
theorem Shape_P (W H : Int) (xs : List Int) (a : Option Addr) (n c : Nat) (w : World) (hP : ArgP w xs a n c) :
    Calls Tryd.prog 6 #[.agg #[.int .i64 W, .int .i64 H, .slice a n c]] w fun e w' => e = .returned (.int .i64 ((shapeF W H xs : Nat) : Int)) ∧ Below w.heap.size w w' := by
  have HP := hide' (hP.alloc (.cells #[.int .i64 W, .int .i64 H, .slice a n c] 26))
  have hlen := hP.len
  have hmax := hP.max
  have HL := hide' hlen
  unfold maxLen at hmax
  clear hP hlen
  cases s1 : sideB W with
  | false =>
    have F := hide' (show shapeF W H xs = 1 by unfold shapeF; rw [s1]; rfl)
    rcases side_no s1 with h | h
    · clear s1
      go_enter Tryd.func6, Tryd.ntmps6
      go_wp2
      go_ret
      rw [F.out]
      exact ⟨rfl, (Below.refl _ _).alloc (Nat.le_refl _) _⟩
    · have h' : ¬ W < 0 := by omega
      clear s1
      go_enter Tryd.func6, Tryd.ntmps6
      go_wp2
      go_ret
      rw [F.out]
      exact ⟨rfl, (Below.refl _ _).alloc (Nat.le_refl _) _⟩
  | true =>
    cases s2 : sideB H with
    | false =>
      have F := hide' (show shapeF W H xs = 1 by unfold shapeF; rw [s1, s2]; rfl)
      obtain ⟨Wn, rfl, lW⟩ := side_nat s1
      have h1 : ¬ (Wn : Int) < 0 := by omega
      have h2 : ¬ 100 < (Wn : Int) := by omega
      rcases side_no s2 with h | h
      · clear s1 s2
        go_enter Tryd.func6, Tryd.ntmps6
        go_wp2
        go_ret
        rw [F.out]
        exact ⟨rfl, (Below.refl _ _).alloc (Nat.le_refl _) _⟩
      · have h' : ¬ H < 0 := by omega
        clear s1 s2
        go_enter Tryd.func6, Tryd.ntmps6
        go_wp2
        go_ret
        rw [F.out]
        exact ⟨rfl, (Below.refl _ _).alloc (Nat.le_refl _) _⟩
    | true =>
      obtain ⟨Wn, rfl, lW⟩ := side_nat s1
      obtain ⟨Hn, rfl, lH⟩ := side_nat s2
      have h1 : ¬ (Wn : Int) < 0 := by omega
      have h2 : ¬ 100 < (Wn : Int) := by omega
      have h3 : ¬ (Hn : Int) < 0 := by omega
      have h4 : ¬ 100 < (Hn : Int) := by omega
      obtain ⟨N, hN⟩ : ∃ N, Wn * Hn = N := ⟨_, rfl⟩
      have hNi : (Wn : Int) * (Hn : Int) = (N : Int) := by rw [← hN]; simp
      have hN4 : N ≤ 10000 := by rw [← hN]; exact Nat.mul_le_mul lW lH
      by_cases q : n = N
      · have m1 : ((n : Int) != (N : Int)) = false := by simp; omega
        have FO := hide' (fun (h : xs.all cellB = true) => show shapeF Wn Hn xs = 0 by unfold shapeF; rw [s1, s2, if_pos (show (true && true) = true from rfl), if_pos (by rw [hNi, ← HL.out, q]), if_pos h])
        have FN := hide' (fun (h : xs.all cellB = false) => show shapeF Wn Hn xs = 1 by unfold shapeF; rw [s1, s2, if_pos (show (true && true) = true from rfl), if_pos (by rw [hNi, ← HL.out, q]), if_neg (by rw [h]; simp)])
        clear q hN s1 s2
        go_enter Tryd.func6, Tryd.ntmps6
        go_wp2
        go_loop [3] (fun kv => ∃ k : Nat, kv = .int .i64 (k : Int) ∧ k ≤ n ∧ ∀ j (h : j < xs.length), j < k → cellB xs[j] = true) (fun kv => n - (intOf kv).toNat)
        case atStart => exact ⟨0, rfl, by omega, fun j h hj => by omega⟩
        case round =>
          obtain ⟨k, rfl, hk, hall⟩ := hrel
          have HA := hide' hall
          clear hall
          by_cases d : (k : Int) < (n : Int)
          · have hkl : k < xs.length := by have := HL.out; omega
            obtain ⟨g, off, rfl, hg, hc⟩ := HP.out.cells k hkl
            obtain ⟨x, hx⟩ : ∃ x, xs[k] = x := ⟨_, rfl⟩
            rw [hx] at hc
            have HX := hide' hx
            clear hx
            by_cases x0 : x < 0
            · have X := hide' (show cellB x = false by unfold cellB; simp; omega)
              go_wp2
              go_ret
              rw [FN.out (all_bad hkl (by rw [HX.out]; exact X.out))]
              exact ⟨rfl, (Below.refl _ _).alloc (Nat.le_refl _) _⟩
            · by_cases x1 : 1 < x
              · have X := hide' (show cellB x = false by unfold cellB; simp; omega)
                go_wp2
                go_ret
                rw [FN.out (all_bad hkl (by rw [HX.out]; exact X.out))]
                exact ⟨rfl, (Below.refl _ _).alloc (Nat.le_refl _) _⟩
              · have X := hide' (show cellB x = true by rw [cellB_iff]; omega)
                go_wp2
                refine ⟨⟨k + 1, by go_num, by omega, fun j h hj => ?_⟩, by simp [intOf]; omega⟩
                by_cases e : j = k
                · subst e; rw [HX.out]; exact X.out
                · exact HA.out j h (by omega)
          · go_wp2
            go_ret
            rw [FO.out (all_ok fun j hj => HA.out j hj (by have := HL.out; omega))]
            exact ⟨rfl, (Below.refl _ _).alloc (Nat.le_refl _) _⟩
      · have m1 : ((n : Int) != (N : Int)) = true := by simp; omega
        have F := hide' (show shapeF Wn Hn xs = 3 by unfold shapeF; rw [s1, s2, if_pos (show (true && true) = true from rfl), if_neg (by rw [hNi, ← HL.out]; omega)])
        clear q hN s1 s2
        go_enter Tryd.func6, Tryd.ntmps6
        go_wp2
        go_ret
        rw [F.out]
        exact ⟨rfl, (Below.refl _ _).alloc (Nat.le_refl _) _⟩
end Go.Proofs.YtelocgefaommmaaDoor

namespace Go.Proofs.YtelocgefaommmaaDoor
open Go.RowKit
set_option linter.unusedVariables false
theorem ArgR.hideR {w : World} {o : Out} {a : Option Addr} {n c : Nat} (h : ArgR w o a n c) : Hid (∀ V, Below w.heap.size w V → ArgR V o a n c) := hide' fun V hV => h.below hV
set_option maxRecDepth 100000 in
set_option maxHeartbeats 6400000 in
theorem law_hp_no (o : Out) (ta : Option Addr) (tn tc : Nat) (W H : Int) (a : Option Addr) (n c : Nat) (qW qH : Int) (qa : Option Addr) (qn qc : Nat) (r d x y : Int) (w : World) (hR : ArgR w o ta tn tc) (hn : NoNew o) :
    Calls Tryd.prog 3 #[.agg #[.int .i64 o.kind, .int .i64 o.born, .int .i64 o.stay, .int .i64 o.states, .int .i64 o.radius, .slice ta tn tc, .string o.turns], .agg #[.int .i64 W, .int .i64 H, .slice a n c], .agg #[.int .i64 qW, .int .i64 qH, .slice qa qn qc], .int .i64 r, .int .i64 d, .int .i64 x, .int .i64 y] w fun e w' => e = .returned (.bool true) ∧ Below w.heap.size w w' := by
  obtain ⟨w1, hw1⟩ : ∃ w1, ((w.alloc (.cells #[.int .i64 o.kind, .int .i64 o.born, .int .i64 o.stay, .int .i64 o.states, .int .i64 o.radius, .slice ta tn tc, .string o.turns] 24)).alloc (.cells #[.int .i64 W, .int .i64 H, .slice a n c] 26)).alloc (.cells #[.int .i64 qW, .int .i64 qH, .slice qa qn qc] 26) = w1 := ⟨_, rfl⟩
  have HW1 := hide' hw1
  have B1 := hide' (show Below w.heap.size w w1 by rw [← hw1]; exact (((Below.refl _ _).alloc (Nat.le_refl _) _).alloc (by simp) _).alloc (by simp; omega) _)
  have HR := hR.hideR
  have HN := hide' hn
  have R0 := hide' (show w1.heap[w.heap.size]? = some (.cells #[.int .i64 o.kind, .int .i64 o.born, .int .i64 o.stay, .int .i64 o.states, .int .i64 o.radius, .slice ta tn tc, .string o.turns] 24 (0, 0)) by rw [← hw1]; exact (heap_alloc_old _ _ (by simp; omega)).trans ((heap_alloc_old _ _ (by simp)).trans (heap_alloc_new _ _)))
  clear hw1 hR hn
  go_enter Tryd.func3, Tryd.ntmps3
  go_upto_region 1 with fail
  rw [HW1.out]
  have x0 := cell_of_row w1 _ 0 _ _ _ R0.out
  have x1 := cell_of_row w1 _ 1 _ _ _ R0.out
  have x2 := cell_of_row w1 _ 2 _ _ _ R0.out
  have x3 := cell_of_row w1 _ 3 _ _ _ R0.out
  have x4 := cell_of_row w1 _ 4 _ _ _ R0.out
  have x5 := cell_of_row w1 _ 5 _ _ _ R0.out
  have x6 := cell_of_row w1 _ 6 _ _ _ R0.out
  simp at x0 x1 x2 x3 x4 x5 x6
  go_wp2_with fail
  refine (new_no o ta tn tc w1 (HR.out w1 B1.out) HN.out).mono ?_
  rintro e w2 ⟨rfl, b⟩
  have B2 := hide' (B1.out.trans (b.mono B1.out.size))
  have R2 := hide' ((b.block _ (lt_of_block R0.out)).trans R0.out)
  clear x0 x1 x2 x3 x4 x5 x6 b
  have x0 := cell_of_row w2 _ 0 _ _ _ R2.out
  have x1 := cell_of_row w2 _ 1 _ _ _ R2.out
  have x2 := cell_of_row w2 _ 2 _ _ _ R2.out
  have x3 := cell_of_row w2 _ 3 _ _ _ R2.out
  have x4 := cell_of_row w2 _ 4 _ _ _ R2.out
  have x5 := cell_of_row w2 _ 5 _ _ _ R2.out
  have x6 := cell_of_row w2 _ 6 _ _ _ R2.out
  simp at x0 x1 x2 x3 x4 x5 x6
  go_wp2_with fail
  refine (Fault_any o ta tn tc w2 (HR.out w2 B2.out)).mono ?_
  rintro e w3 ⟨⟨rfl, g⟩ | ⟨rfl, g⟩, b⟩
  · have B3 := hide' (B2.out.trans (b.mono B2.out.size))
    have R3 := hide' ((b.block _ (lt_of_block R2.out)).trans R2.out)
    clear x0 x1 x2 x3 x4 x5 x6 b
    have x0 := cell_of_row w3 _ 0 _ _ _ R3.out
    have x1 := cell_of_row w3 _ 1 _ _ _ R3.out
    simp at x0 x1
    rcases HN.out with q | ⟨_, q⟩ | ⟨_, q, b', e1, e2, e3⟩
    · exact absurd g q
    · have k1 : (o.kind != 1) = true := by simpa using q
      have k2 : (o.kind == 1) = false := by simpa using q
      clear g q
      go_wp2
      go_ret
      exact ⟨rfl, B3.out⟩
    · have k1 : (o.kind != 1) = false := by simp [q]
      have k2 : (o.kind == 1) = true := by simp [q]
      rw [e1] at x1
      rw [q] at x0
      have md : (b' : Int) % 2 = 1 := by omega
      have HQ := hide' q
      clear g q e1 e2 e3
      go_wp2
      go_ret
      exact ⟨rfl, B3.out⟩
  · have B3 := hide' (B2.out.trans (b.mono B2.out.size))
    clear x0 x1 x2 x3 x4 x5 x6 b g
    go_wp2
    go_ret
    exact ⟨rfl, B3.out⟩
end Go.Proofs.YtelocgefaommmaaDoor

namespace Go.Proofs.YtelocgefaommmaaDoor
open Go.RowKit
set_option linter.unusedVariables false
set_option maxRecDepth 100000 in
set_option maxHeartbeats 6400000 in
theorem law_hp_bail (o : Out) (ta : Option Addr) (tn tc : Nat) (W H : Int) (xs : List Int) (a : Option Addr) (n c : Nat) (qW qH : Int) (ys : List Int) (qa : Option Addr) (qn qc : Nat) (r d x y : Int) (w : World) (hR : ArgR w o ta tn tc) (hy : YesNew o) (hP : ArgP w xs a n c) (hQ : ArgP w ys qa qn qc) (hbad : shapeF W H xs ≠ 0 ∨ shapeF qW qH ys ≠ 0 ∨ r < -200 ∨ 200 < r ∨ d < -200 ∨ 200 < d ∨ x < -200 ∨ 200 < x ∨ y < -200 ∨ 200 < y) :
    Calls Tryd.prog 3 #[.agg #[.int .i64 o.kind, .int .i64 o.born, .int .i64 o.stay, .int .i64 o.states, .int .i64 o.radius, .slice ta tn tc, .string o.turns], .agg #[.int .i64 W, .int .i64 H, .slice a n c], .agg #[.int .i64 qW, .int .i64 qH, .slice qa qn qc], .int .i64 r, .int .i64 d, .int .i64 x, .int .i64 y] w fun e w' => e = .returned (.bool true) ∧ Below w.heap.size w w' := by
  obtain ⟨w1, hw1⟩ : ∃ w1, ((w.alloc (.cells #[.int .i64 o.kind, .int .i64 o.born, .int .i64 o.stay, .int .i64 o.states, .int .i64 o.radius, .slice ta tn tc, .string o.turns] 24)).alloc (.cells #[.int .i64 W, .int .i64 H, .slice a n c] 26)).alloc (.cells #[.int .i64 qW, .int .i64 qH, .slice qa qn qc] 26) = w1 := ⟨_, rfl⟩
  have HW1 := hide' hw1
  have B1 := hide' (show Below w.heap.size w w1 by rw [← hw1]; exact (((Below.refl _ _).alloc (Nat.le_refl _) _).alloc (by simp) _).alloc (by simp; omega) _)
  have HR := hR.hideR
  have HY := hide' hy
  have HB := hide' hbad
  have R0 := hide' (show w1.heap[w.heap.size]? = some (.cells #[.int .i64 o.kind, .int .i64 o.born, .int .i64 o.stay, .int .i64 o.states, .int .i64 o.radius, .slice ta tn tc, .string o.turns] 24 (0, 0)) by rw [← hw1]; exact (heap_alloc_old _ _ (by simp; omega)).trans ((heap_alloc_old _ _ (by simp)).trans (heap_alloc_new _ _)))
  have Z1 := hide' (show w1.heap.size = w.heap.size + 3 by rw [← hw1]; simp)
  have RP1 := hide' (show w1.heap[w.heap.size + 1]? = some (.cells #[.int .i64 W, .int .i64 H, .slice a n c] 26 (0, 0)) by rw [← hw1]; exact (heap_alloc_old _ _ (by simp)).trans (heap_atX _ _ _ (by simp)))
  have RQ1 := hide' (show w1.heap[w.heap.size + 1 + 1]? = some (.cells #[.int .i64 qW, .int .i64 qH, .slice qa qn qc] 26 (0, 0)) by rw [← hw1]; exact heap_atX _ _ _ (by simp))
  have SV := hide' (fun (V : World) (hV : Below w1.heap.size w1 V) => show ArgP V xs a n c ∧ ArgP V ys qa qn qc ∧ V.heap[w.heap.size + 1]? = some (.cells #[.int .i64 W, .int .i64 H, .slice a n c] 26 (0, 0)) ∧ V.heap[w.heap.size + 1 + 1]? = some (.cells #[.int .i64 qW, .int .i64 qH, .slice qa qn qc] 26 (0, 0)) ∧ Below w.heap.size w V from
    have b := B1.out.trans (hV.mono B1.out.size)
    ⟨hP.below b, hQ.below b, (hV.block _ (lt_of_block RP1.out)).trans RP1.out, (hV.block _ (lt_of_block RQ1.out)).trans RQ1.out, b⟩)
  clear hw1 hR hy hP hQ hbad
  go_enter Tryd.func3, Tryd.ntmps3
  go_upto_region 1 with fail
  rw [HW1.out]
  have x0 := cell_of_row w1 _ 0 _ _ _ R0.out
  have x1 := cell_of_row w1 _ 1 _ _ _ R0.out
  have x2 := cell_of_row w1 _ 2 _ _ _ R0.out
  have x3 := cell_of_row w1 _ 3 _ _ _ R0.out
  have x4 := cell_of_row w1 _ 4 _ _ _ R0.out
  have x5 := cell_of_row w1 _ 5 _ _ _ R0.out
  have x6 := cell_of_row w1 _ 6 _ _ _ R0.out
  simp at x0 x1 x2 x3 x4 x5 x6
  go_wp2_with fail
  refine (new_yes o ta tn tc w1 (HR.out w1 B1.out) HY.out).mono ?_
  rintro e w2 ⟨spb, b0, s0, rfl, sp, b⟩
  have B2 := hide' b
  have S2 := hide' sp
  obtain ⟨A2, Q2, P2, D2, L2⟩ := SV.out w2 b
  have y0 := cell_of_row w2 _ 0 _ _ _ P2
  have y1 := cell_of_row w2 _ 1 _ _ _ P2
  have y2 := cell_of_row w2 _ 2 _ _ _ P2
  simp at y0 y1 y2
  clear x0 x1 x2 x3 x4 x5 x6 b sp Q2 P2 D2 L2
  go_wp2_with fail
  refine (Shape_P W H xs a n c w2 A2).mono ?_
  rintro e w3 ⟨rfl, b⟩
  have B3 := hide' (B2.out.trans (b.mono B2.out.size))
  have S3 := hide' (S2.out.below b)
  obtain ⟨A3, Q3, P3, D3, L3⟩ := SV.out w3 B3.out
  clear y0 y1 y2 b A2
  have y0 := cell_of_row w3 _ 0 _ _ _ D3
  have y1 := cell_of_row w3 _ 1 _ _ _ D3
  have y2 := cell_of_row w3 _ 2 _ _ _ D3
  simp at y0 y1 y2
  clear A3 P3 D3 L3
  go_wp2_with fail
  refine (Shape_P qW qH ys qa qn qc w3 Q3).mono ?_
  rintro e w4 ⟨rfl, b⟩
  have B4 := hide' (B3.out.trans (b.mono B3.out.size))
  have S4 := hide' (S3.out.below b)
  clear y0 y1 y2 b Q3
  obtain ⟨f, hf⟩ : ∃ f, shapeF W H xs = f := ⟨_, rfl⟩
  obtain ⟨g, hg⟩ : ∃ g, shapeF qW qH ys = g := ⟨_, rfl⟩
  have hb := HB.out
  rw [hf, hg] at *
  have FIN := hide' (SV.out w4 B4.out).2.2.2.2
  clear S2 S3 S4 B2 B3 B4 SV RP1 RQ1 HB R0
  by_cases c0 : f = 0
  · subst c0
    by_cases c1 : g = 0
    · subst c1
      by_cases h0 : r < -200
      · clear hb
        go_wp2
        go_ret
        exact ⟨rfl, FIN.out⟩
      · by_cases h1 : 200 < r
        · clear hb
          go_wp2
          go_ret
          exact ⟨rfl, FIN.out⟩
        · by_cases h2 : d < -200
          · clear hb
            go_wp2
            go_ret
            exact ⟨rfl, FIN.out⟩
          · by_cases h3 : 200 < d
            · clear hb
              go_wp2
              go_ret
              exact ⟨rfl, FIN.out⟩
            · by_cases h4 : x < -200
              · clear hb
                go_wp2
                go_ret
                exact ⟨rfl, FIN.out⟩
              · by_cases h5 : 200 < x
                · clear hb
                  go_wp2
                  go_ret
                  exact ⟨rfl, FIN.out⟩
                · by_cases h6 : y < -200
                  · clear hb
                    go_wp2
                    go_ret
                    exact ⟨rfl, FIN.out⟩
                  · by_cases h7 : 200 < y
                    · clear hb
                      go_wp2
                      go_ret
                      exact ⟨rfl, FIN.out⟩
                    · exfalso; omega
    · have k : ((g : Int) != 0) = true := by simpa using c1
      have k' : ((g : Int) == 0) = false := by simpa using c1
      clear hb c1
      go_wp2
      go_ret
      exact ⟨rfl, FIN.out⟩
  · have k : ((f : Int) != 0) = true := by simpa using c0
    have k' : ((f : Int) == 0) = false := by simpa using c0
    clear hb c0
    go_wp2
    go_ret
    exact ⟨rfl, FIN.out⟩
end Go.Proofs.YtelocgefaommmaaDoor

