/-
  What the last text of this claim leans on, part 6: Cd1, Cd2, Ck2, Ck3.
-/
import Derived.Test.YtncinpkbiphpoaaDoorZr4
import Derived.Test.YtncinpkbiphpoaaDoorZr5
import Derived.Deep.CutRange
import Derived.Deep.RegionHeld3
namespace Go.Proofs.YtncinpkbiphpoaaDoor
open Go.RowKit
set_option linter.unusedVariables false
theorem insB_1 (L a t e : Int) : insB L (1, a, t, e) = (decide (0 ≤ a) && decide (a ≤ 3) && decide (0 ≤ t) && decide (t < L) && decide (e = 0)) := by
  rw [Bool.eq_iff_iff]
  unfold insB okI numI usN
  simp
  omega
theorem insB_2 (L a t e : Int) : insB L (2, a, t, e) = (decide (0 ≤ a) && decide (a ≤ 3) && decide (0 ≤ t) && decide (t < L) && decide (0 ≤ e) && decide (e < L)) := by
  rw [Bool.eq_iff_iff]
  unfold insB okI numI usN
  simp
  omega
theorem insB_3 (L a t e : Int) : insB L (3, a, t, e) = (decide (a = 0) && decide (t = 0) && decide (e = 0)) := by
  rw [Bool.eq_iff_iff]
  unfold insB okI numI usN
  simp
  omega
theorem insB_o (L o a t e : Int) (h1 : ¬ o = 1) (h2 : ¬ o = 2) (h3 : ¬ o = 3) : insB L (o, a, t, e) = false := by
  unfold insB
  simp
  omega
set_option maxRecDepth 100000 in
set_option maxHeartbeats 12800000 in
theorem refCode_any (xs : List InsT) (a : Option Addr) (n c : Nat) (w : World) (hP : ArgI w xs a n c) :
    Calls Tryd.prog 11 #[.slice a n c] w fun e w' => e = .returned (.int .i64 (codeE xs : Int)) ∧ Below w.heap.size w w' := by
  have HL := hide' hP.len
  have nm := hP.max
  by_cases n1 : n < 1
  · have F := hide' (show codeE xs = 4 by unfold codeE; rw [if_pos]; have := HL.out; omega)
    have m1 : (n : Int) < 1 := by omega
    have m2 : ¬ 12 < (n : Int) := by omega
    clear n1 hP
    go_enter Tryd.func11, Tryd.ntmps11
    go_wp2
    go_ret
    rw [F.out]; exact ⟨rfl, Below.refl _ _⟩
  · by_cases n2 : 12 < n
    · have F := hide' (show codeE xs = 4 by unfold codeE; rw [if_pos]; have := HL.out; omega)
      have m1 : ¬ (n : Int) < 1 := by omega
      have m2 : 12 < (n : Int) := by omega
      clear n1 n2 hP
      go_enter Tryd.func11, Tryd.ntmps11
      go_wp2
      go_ret
      rw [F.out]; exact ⟨rfl, Below.refl _ _⟩
    · have m1 : ¬ (n : Int) < 1 := by omega
      have m2 : ¬ 12 < (n : Int) := by omega
      have HP := hide' (fun (V : World) (h : Below w.heap.size w V) => hP.below h)
      have N12 := hide' (And.intro n1 n2)
      clear hP n1 n2
      go_enter Tryd.func11, Tryd.ntmps11
      go_wp2
      go_loopw [3] (fun kv wr => ∃ k : Nat, kv = .int .i64 (k : Int) ∧ k ≤ n ∧ Hid (Below w.heap.size w wr) ∧ Hid (∀ j (h : j < xs.length), j < k → insB (xs.length : Int) xs[j] = true)) (fun kv _ => n - (intOf kv).toNat)
      case atStart => exact ⟨0, rfl, by omega, hide' (Below.refl _ _), hide' (fun j h hj => by omega)⟩
      case round =>
        obtain ⟨k, rfl, hk, BW, HA⟩ := hrel
        by_cases d : (k : Int) < (n : Int)
        · have hkl : k < xs.length := by have := HL.out; omega
          obtain ⟨g, off, rfl, hg, c0, c1, c2, c3⟩ := (HP.out wr BW.out).cells k hkl
          obtain ⟨⟨x, y, z, t⟩, hx⟩ : ∃ x, xs[k] = x := ⟨_, rfl⟩
          rw [hx] at c0 c1 c2 c3
          simp only at c0 c1 c2 c3
          have k0 : (0 : Int) ≤ (k : Int) := by omega
          obtain ⟨w2, hw2⟩ : ∃ w2, wr.alloc (.cells #[.int .i64 x, .int .i64 y, .int .i64 z, .int .i64 t] 34) = w2 := ⟨_, rfl⟩
          have BN := hide' (show Below w.heap.size w w2 from by rw [← hw2]; exact BW.out.alloc BW.out.size _)
          have r2 := hide' (show w2.heap[wr.heap.size]? = some (.cells #[.int .i64 x, .int .i64 y, .int .i64 z, .int .i64 t] 34 (0, 0)) by rw [← hw2]; exact heap_alloc_new _ _)
          have e0 := cell_of_row w2 _ 0 _ _ _ r2.out
          have e1 := cell_of_row w2 _ 1 _ _ _ r2.out
          have e2 := cell_of_row w2 _ 2 _ _ _ r2.out
          have e3 := cell_of_row w2 _ 3 _ _ _ r2.out
          simp at e0 e1 e2 e3
          have BAD := hide' (show insB (n : Int) (x, y, z, t) = false → codeE xs = 1 from fun q => by have := N12.out; have := HL.out; exact code_bad (by omega) (by omega) hkl (by rw [← HL.out, hx]; exact q))
          have GOOD := hide' (show insB (n : Int) (x, y, z, t) = true → ∀ j (h : j < xs.length), j < k + 1 → insB (xs.length : Int) xs[j] = true from fun q j h hj => by
            by_cases e : j = k
            · subst e; rw [← HL.out, hx]; exact q
            · exact HA.out j h (by omega))
          clear hx
          by_cases o1 : x = 1
          · subst o1
            by_cases q5 : y < 0
            · have X := hide' (BAD.out (by rw [insB_1]; simp; omega))
              go_upto_region 7 with fail
              clear hw2
              go_wp2
              go_ret
              rw [X.out]; exact ⟨rfl, BN.out⟩
            · by_cases q4 : 3 < y
              · have X := hide' (BAD.out (by rw [insB_1]; simp; omega))
                go_upto_region 7 with fail
                clear hw2
                go_wp2
                go_ret
                rw [X.out]; exact ⟨rfl, BN.out⟩
              · by_cases q3 : z < 0
                · have X := hide' (BAD.out (by rw [insB_1]; simp; omega))
                  go_upto_region 7 with fail
                  clear hw2
                  go_wp2
                  go_ret
                  rw [X.out]; exact ⟨rfl, BN.out⟩
                · by_cases q2 : (n : Int) ≤ z
                  · have X := hide' (BAD.out (by rw [insB_1]; simp; omega))
                    go_upto_region 7 with fail
                    clear hw2
                    go_wp2
                    go_ret
                    rw [X.out]; exact ⟨rfl, BN.out⟩
                  · by_cases q1 : ¬ t = 0
                    · have X := hide' (BAD.out (by rw [insB_1]; simp; omega))
                      have y1 : (t == 0) = false := by simpa using q1
                      go_upto_region 7 with fail
                      clear hw2
                      go_wp2
                      go_ret
                      rw [X.out]; exact ⟨rfl, BN.out⟩
                    · have HQt := hide' (Decidable.not_not.1 q1)
                      have y1 : (t == 0) = true := by have := HQt.out; simpa using this
                      clear q1
                      have X := hide' (GOOD.out (by have := HQt.out; rw [insB_1]; simp; omega))
                      go_upto_region 7 with fail
                      clear hw2
                      go_wp2
                      exact ⟨⟨k + 1, by go_num, by omega, BN, X⟩, by simp [intOf]; omega⟩
          · have z1 : (x == 1) = false := by simpa using o1
            by_cases o2 : x = 2
            · subst o2
              by_cases q6 : y < 0
              · have X := hide' (BAD.out (by rw [insB_2]; simp; omega))
                go_upto_region 7 with fail
                clear hw2
                go_wp2
                go_ret
                rw [X.out]; exact ⟨rfl, BN.out⟩
              · by_cases q5 : 3 < y
                · have X := hide' (BAD.out (by rw [insB_2]; simp; omega))
                  go_upto_region 7 with fail
                  clear hw2
                  go_wp2
                  go_ret
                  rw [X.out]; exact ⟨rfl, BN.out⟩
                · by_cases q4 : z < 0
                  · have X := hide' (BAD.out (by rw [insB_2]; simp; omega))
                    go_upto_region 7 with fail
                    clear hw2
                    go_wp2
                    go_ret
                    rw [X.out]; exact ⟨rfl, BN.out⟩
                  · by_cases q3 : (n : Int) ≤ z
                    · have X := hide' (BAD.out (by rw [insB_2]; simp; omega))
                      go_upto_region 7 with fail
                      clear hw2
                      go_wp2
                      go_ret
                      rw [X.out]; exact ⟨rfl, BN.out⟩
                    · by_cases q2 : t < 0
                      · have X := hide' (BAD.out (by rw [insB_2]; simp; omega))
                        go_upto_region 7 with fail
                        clear hw2
                        go_wp2
                        go_ret
                        rw [X.out]; exact ⟨rfl, BN.out⟩
                      · by_cases q1 : (n : Int) ≤ t
                        · have X := hide' (BAD.out (by rw [insB_2]; simp; omega))
                          go_upto_region 7 with fail
                          clear hw2
                          go_wp2
                          go_ret
                          rw [X.out]; exact ⟨rfl, BN.out⟩
                        · have X := hide' (GOOD.out (by rw [insB_2]; simp; omega))
                          go_upto_region 7 with fail
                          clear hw2
                          go_wp2
                          exact ⟨⟨k + 1, by go_num, by omega, BN, X⟩, by simp [intOf]; omega⟩
            · have z2 : (x == 2) = false := by simpa using o2
              by_cases o3 : x = 3
              · subst o3
                by_cases q3 : ¬ y = 0
                · have X := hide' (BAD.out (by rw [insB_3]; simp; omega))
                  have y3 : (y == 0) = false := by simpa using q3
                  go_upto_region 7 with fail
                  clear hw2
                  go_wp2
                  go_ret
                  rw [X.out]; exact ⟨rfl, BN.out⟩
                · have HQy := hide' (Decidable.not_not.1 q3)
                  have y3 : (y == 0) = true := by have := HQy.out; simpa using this
                  clear q3
                  by_cases q2 : ¬ z = 0
                  · have X := hide' (BAD.out (by have := HQy.out; rw [insB_3]; simp; omega))
                    have y2 : (z == 0) = false := by simpa using q2
                    go_upto_region 7 with fail
                    clear hw2
                    go_wp2
                    go_ret
                    rw [X.out]; exact ⟨rfl, BN.out⟩
                  · have HQz := hide' (Decidable.not_not.1 q2)
                    have y2 : (z == 0) = true := by have := HQz.out; simpa using this
                    clear q2
                    by_cases q1 : ¬ t = 0
                    · have X := hide' (BAD.out (by have := HQy.out; have := HQz.out; rw [insB_3]; simp; omega))
                      have y1 : (t == 0) = false := by simpa using q1
                      go_upto_region 7 with fail
                      clear hw2
                      go_wp2
                      go_ret
                      rw [X.out]; exact ⟨rfl, BN.out⟩
                    · have HQt := hide' (Decidable.not_not.1 q1)
                      have y1 : (t == 0) = true := by have := HQt.out; simpa using this
                      clear q1
                      have X := hide' (GOOD.out (by have := HQy.out; have := HQz.out; have := HQt.out; rw [insB_3]; simp; omega))
                      go_upto_region 7 with fail
                      clear hw2
                      go_wp2
                      exact ⟨⟨k + 1, by go_num, by omega, BN, X⟩, by simp [intOf]; omega⟩
              · have z3 : (x == 3) = false := by simpa using o3
                have X := hide' (BAD.out (insB_o _ _ _ _ _ o1 o2 o3))
                go_upto_region 7 with fail
                clear hw2
                go_wp2
                go_ret
                rw [X.out]; exact ⟨rfl, BN.out⟩
        · have X := hide' (show codeE xs = 0 from by have := N12.out; have := HL.out; exact code_ok (by omega) (by omega) (fun j h => HA.out j h (by omega)))
          go_wp2
          go_ret
          rw [X.out]
          exact ⟨rfl, BW.out⟩
end Go.Proofs.YtncinpkbiphpoaaDoor

namespace Go.Proofs.YtncinpkbiphpoaaDoor
open Go.RowKit
set_option linter.unusedVariables false
/-- Counters in a list of one's own. -/
structure CoB (w : World) (g : Nat) (c : Nat → Int) : Prop where
  row : ∃ cur, w.heap[g]? = some (.cells cur 3 (0, 0)) ∧ ∀ k, k < 4 → cur[k]? = some (.int .i64 (c k))
theorem CoB.cell {w : World} {g : Nat} {c : Nat → Int} (h : CoB w g c) (k : Nat) (hk : k < 4) : w.cell? ⟨g, k, none⟩ = some (.int .i64 (c k)) := by
  obtain ⟨cur, h1, h2⟩ := h.row
  rw [cell_of_row w _ k _ _ _ h1]; exact h2 k hk
theorem CoB.fro {w : World} {g : Nat} {c : Nat → Int} (h : CoB w g c) (k : Nat) : w.frozen? ⟨g, k, none⟩ = false := by
  obtain ⟨cur, h1, h2⟩ := h.row
  exact frozen_of_row w _ k _ _ h1
theorem CoB.lt {w : World} {g : Nat} {c : Nat → Int} (h : CoB w g c) : g < w.heap.size := by
  obtain ⟨cur, h1, h2⟩ := h.row
  exact lt_of_block h1
theorem CoB.below {w w' : World} {g : Nat} {c : Nat → Int} {B : Nat} (h : CoB w g c) (hb : Below B w w') (hB : g < B) : CoB w' g c := by
  obtain ⟨cur, h1, h2⟩ := h.row
  exact ⟨cur, (hb.block g hB).trans h1, h2⟩
theorem CoB.set {w : World} {g : Nat} {c : Nat → Int} (h : CoB w g c) (k : Nat) (hk : k < 4) (v : Int) : CoB (w.setCell ⟨g, k, none⟩ (.int .i64 v)) g (updM c k v) := by
  obtain ⟨cur, h1, h2⟩ := h.row
  refine ⟨_, heap_setCell_same w g k _ _ _ h1, fun j hj => ?_⟩
  have hs : k < cur.size := by
    rcases Nat.lt_or_ge k cur.size with q | q
    · exact q
    · have := h2 k hk; rw [Array.getElem?_eq_none q] at this; cases this
  unfold updM
  by_cases e : j = k
  · subst e; rw [if_pos rfl, Array.getElem?_setIfInBounds_self_of_lt hs]
  · rw [if_neg e, Array.getElem?_setIfInBounds_ne (fun q => e q.symm)]; exact h2 j hj
end Go.Proofs.YtncinpkbiphpoaaDoor

namespace Go.Proofs.YtncinpkbiphpoaaDoor
open Go.RowKit
set_option linter.unusedVariables false
/-- The pieces between blanks, with at most so many cuts. -/
def spN : Nat → List UInt8 → List (List UInt8)
  | 0, l => [l]
  | k + 1, l => if Lib.indexByte l 32 = -1 then [l] else l.take (Lib.indexByte l 32).toNat :: spN k (l.drop ((Lib.indexByte l 32).toNat + 1))
theorem spN_none {k : Nat} {l : List UInt8} (h : Lib.indexByte l 32 = -1) : spN k l = [l] := by cases k with | zero => rfl | succ k => rw [spN, if_pos h]
theorem spN_some {k i : Nat} {l : List UInt8} (h : Lib.indexByte l 32 = (i : Int)) : spN (k + 1) l = l.take i :: spN k (l.drop (i + 1)) := by rw [spN, if_neg (by omega), h]; rfl
structure StB (w : World) (g N : Nat) (f : Nat → List UInt8) : Prop where
  row : ∃ cur, w.heap[g]? = some (.cells cur 9 (0, 0)) ∧ ∀ k, k < N → cur[k]? = some (.string ⟨(f k).toArray⟩)
theorem StB.cell {w : World} {g N : Nat} {f : Nat → List UInt8} (h : StB w g N f) (k : Nat) (hk : k < N) : w.cell? ⟨g, k, none⟩ = some (.string ⟨(f k).toArray⟩) := by
  obtain ⟨cur, h1, h2⟩ := h.row
  rw [cell_of_row w _ k _ _ _ h1]; exact h2 k hk
theorem StB.fro {w : World} {g N : Nat} {f : Nat → List UInt8} (h : StB w g N f) (k : Nat) : w.frozen? ⟨g, k, none⟩ = false := by
  obtain ⟨cur, h1, h2⟩ := h.row
  exact frozen_of_row w _ k _ _ h1
theorem StB.lt {w : World} {g N : Nat} {f : Nat → List UInt8} (h : StB w g N f) : g < w.heap.size := by
  obtain ⟨cur, h1, h2⟩ := h.row
  exact lt_of_block h1
theorem StB.drew {w : World} {g N : Nat} {f : Nat → List UInt8} (h : StB w g N f) : StB w.drew g N f := ⟨h.row⟩
def updS (f : Nat → List UInt8) (k : Nat) (v : List UInt8) : Nat → List UInt8 := fun j => if j = k then v else f j
theorem StB.set {w : World} {g N : Nat} {f : Nat → List UInt8} (h : StB w g N f) (k : Nat) (hk : k < N) (v : List UInt8) : StB (w.setCell ⟨g, k, none⟩ (.string ⟨v.toArray⟩)) g N (updS f k v) := by
  obtain ⟨cur, h1, h2⟩ := h.row
  refine ⟨_, heap_setCell_same w g k _ _ _ h1, fun j hj => ?_⟩
  have hs : k < cur.size := by
    rcases Nat.lt_or_ge k cur.size with q | q
    · exact q
    · have := h2 k hk; rw [Array.getElem?_eq_none q] at this; cases this
  unfold updS
  by_cases e : j = k
  · subst e; rw [if_pos rfl, Array.getElem?_setIfInBounds_self_of_lt hs]
  · rw [if_neg e, Array.getElem?_setIfInBounds_ne (fun q => e q.symm)]; exact h2 j hj
set_option maxRecDepth 100000 in
theorem indexS_sp (l : List UInt8) (w : World) : Calls Tryd.prog 39 #[.string ⟨l.toArray⟩, .string ⟨#[32]⟩] w fun e w' => e = .returned (.int .i64 (Lib.indexByte l 32)) ∧ w' = w := by
  have IX := hide' (fun V => index_sp l V)
  obtain ⟨r, hr⟩ : ∃ r, Lib.indexByte l 32 = r := ⟨_, rfl⟩
  rw [hr] at IX ⊢
  clear hr
  go_enter Tryd.func39, Tryd.ntmps39
  go_wp2_with fail
  refine (IX.out _).mono ?_
  rintro e w' ⟨rfl, rfl⟩
  go_wp2
  go_ret
  exact ⟨rfl, rfl⟩
theorem mk_str (n : Nat) (hn : n ≤ 5) (w : World) : (Instr.makeSlice 50 (.int .i64 (n : Int)) (.int .i64 (n : Int))).run Tryd.prog w = .ok (.slice (some ⟨w.heap.size, 0, none⟩) n n) (w.alloc (.cells (Array.replicate n (.string ⟨#[]⟩)) 9)) := by
  rcases (show n = 0 ∨ n = 1 ∨ n = 2 ∨ n = 3 ∨ n = 4 ∨ n = 5 by omega) with rfl | rfl | rfl | rfl | rfl | rfl <;> kernel_rfl
end Go.Proofs.YtncinpkbiphpoaaDoor

namespace Go.Proofs.YtncinpkbiphpoaaDoor
open Go.RowKit
set_option linter.unusedVariables false
def SpOut (ps : List (List UInt8)) (w : World) (e : Ending) (w' : World) : Prop :=
  ∃ g q f, e = .returned (.slice (some ⟨g, 0, none⟩) ps.length q) ∧ ps.length ≤ q ∧ StB w' g q f ∧ ps = (List.range ps.length).map f ∧ w.heap.size ≤ g ∧ Below w.heap.size w w'
theorem wrap64_small (j : Nat) (h : j ≤ 1048576) : wrap64 (j : Int) = (j : Int) := by unfold wrap64; omega
theorem upd_map (f : Nat → List UInt8) (i : Nat) (v : List UInt8) : (List.range (i + 1)).map (updS f i v) = (List.range i).map f ++ [v] := by
  rw [List.range_succ, List.map_append]
  congr 1
  · apply List.map_congr_left
    intro j hj
    have := List.mem_range.1 hj
    unfold updS
    rw [if_neg (by omega)]
  · simp [updS]
theorem sp_end {ps : List (List UInt8)} {i N : Nat} {f : Nat → List UInt8} {r : List UInt8} {g : Nat} {w wr : World} (he : ps = (List.range i).map f ++ [r]) (hi : i < N) (hs : StB wr g N f) (hg : w.heap.size ≤ g) (hb : Below w.heap.size w wr) :
    SpOut ps w (.returned (.slice (some ⟨g, 0, none⟩) (i + 1) N)) (wr.setCell ⟨g, i, none⟩ (.string ⟨r.toArray⟩)) := by
  have hl : ps.length = i + 1 := by rw [he]; simp
  refine ⟨g, N, updS f i r, by rw [hl], by omega, hs.set i hi r, by rw [hl, upd_map]; exact he, hg, hb.setCell (p := ⟨g, i, none⟩) hg _⟩
set_option maxRecDepth 100000 in
set_option maxHeartbeats 6400000 in
theorem genSplit_any (l : List UInt8) (w : World) (N M : Nat) (hN : N = M + 1) (hm : M = 4 ∧ 4 ≤ l.length ∨ M = l.length ∧ l.length < 4) (hl : l.length ≤ 1048576) : Calls Tryd.prog 29 #[.string ⟨l.toArray⟩, .string ⟨#[32]⟩, .int .i64 0, .int .i64 5] w (SpOut (spN M l) w) := by
  have M4 : M ≤ 4 := by omega
  have mk := mk_str N (by omega)
  have L0 : IntKind.i64.wrap ((l.length : Int) + 1) = (l.length : Int) + 1 := by simp [IntKind.wrap, IntKind.bits, IntKind.signed]; omega
  have mn : min (5 : Int) ((l.length : Int) + 1) = (N : Int) := by omega
  have N0 : (0 : Int) ≤ (N : Int) := by omega
  have NM : IntKind.i64.wrap ((N : Int) - 1) = (M : Int) := by simp [IntKind.wrap, IntKind.bits, IntKind.signed]; omega
  have nm : (N : Int) - 1 = (M : Int) := by omega
  have HN := hide' hN
  have HM := hide' hm
  clear hm hN
  go_enter Tryd.func29, Tryd.ntmps29
  go_wp2
  have S0 := hide' (show StB (w.alloc (.cells (Array.replicate N (.string ⟨#[]⟩)) 9)) w.heap.size N (fun _ => []) from ⟨_, heap_alloc_new _ _, fun k hk => by simp [hk]⟩)
  have B0 := hide' (show Below w.heap.size w (w.alloc (.cells (Array.replicate N (.string ⟨#[]⟩)) 9)) from (Below.refl _ _).alloc (Nat.le_refl _) _)
  clear mk
  go_loopw [0, 10] (fun sv iv wr => ∃ (i : Nat) (r : List UInt8) (f : Nat → List UInt8), iv = .int .i64 (i : Int) ∧ sv = .string ⟨r.toArray⟩ ∧ i ≤ M ∧ Hid (r.length ≤ l.length) ∧ Hid (StB wr w.heap.size N f) ∧ Hid (spN M l = (List.range i).map f ++ spN (M - i) r) ∧ Hid (Below w.heap.size w wr)) (fun _ iv _ => M - (intOf iv).toNat)
  case atStart => exact ⟨0, l, fun _ => [], rfl, rfl, by omega, hide' (Nat.le_refl _), S0, hide' (by simp), B0⟩
  case round =>
    obtain ⟨i, r, f, rfl, rfl, hi, RL, SB, SE, BW⟩ := hrel
    have iN : i < N := by have := HN.out; omega
    have i0 : (0 : Int) ≤ (i : Int) := by omega
    have iN' : (i : Int) < (N : Int) := by omega
    have c := SB.out.cell i iN
    have fz := SB.out.fro i
    have j0 : (0 : Int) ≤ (i : Int) + 1 := by omega
    have jN : (i : Int) + 1 ≤ (N : Int) := by omega
    have N5 : N ≤ 5 := by have := HN.out; omega
    by_cases d : (i : Int) < (M : Int)
    · have IX := hide' (fun V => indexS_sp r V)
      by_cases h : Lib.indexByte r 32 = -1
      · have FE := hide' (show spN M l = (List.range i).map f ++ [r] by rw [SE.out, spN_none h])
        rw [h] at IX
        clear h
        go_wp2_with fail
        refine (IX.out _).mono ?_
        rintro e w' ⟨rfl, rfl⟩
        go_wp2
        refine bodyPost_ret (v := .slice (some ⟨w.heap.size, 0, none⟩) (i + 1) N) (by simp [results, Tryd.results29, go_sem]) rfl ?_
        exact sp_end FE.out iN SB.out (Nat.le_refl _) BW.out
      · obtain ⟨j, hj, jr, -⟩ := byte_split h
        have NX := hide' (show spN M l = (List.range (i + 1)).map (updS f i (r.take j)) ++ spN (M - (i + 1)) (r.drop (j + 1)) by rw [SE.out, upd_map, show M - i = (M - (i + 1)) + 1 by omega, spN_some hj]; simp)
        rw [hj] at IX
        have rl := RL.out
        have ja : (0 : Int) ≤ (j : Int) := by omega
        have jb : (j : Int) ≤ (r.length : Int) := by omega
        have jc : (0 : Int) ≤ (j : Int) + 1 := by omega
        have jd : (j : Int) + 1 ≤ (r.length : Int) := by omega
        have jw : IntKind.i64.wrap ((j : Int) + 1) = (j : Int) + 1 := by simp [IntKind.wrap, IntKind.bits, IntKind.signed]; omega
        have JZ := hide' (wrap64_small j (by omega))
        have x1 : (⟨r.toArray⟩ : ByteArray).extract 0 j = ⟨(r.take j).toArray⟩ := by apply ByteArray.ext; simp
        have x2 : (⟨r.toArray⟩ : ByteArray).extract (j + 1) r.length = ⟨(r.drop (j + 1)).toArray⟩ := by apply ByteArray.ext; simp [List.take_of_length_le]
        have SB2 := hide' (SB.out.set i iN (r.take j))
        have BW2 := hide' (show Below w.heap.size w (wr.setCell ⟨w.heap.size, i, none⟩ (.string ⟨(r.take j).toArray⟩)) from BW.out.setCell (p := ⟨w.heap.size, i, none⟩) (Nat.le_refl _) _)
        have RL2 := hide' (show (r.drop (j + 1)).length ≤ l.length by simp; omega)
        clear h hj rl
        go_wp2_with fail
        refine (IX.out _).mono ?_
        rintro e w' ⟨rfl, rfl⟩
        go_wp2
        rotate_left
        · rename_i hh
          exact absurd ⟨by rw [JZ.out]; exact ja, by rw [JZ.out]; exact jb⟩ hh
        rw [JZ.out, Int.toNat_natCast, x1]
        exact ⟨⟨i + 1, r.drop (j + 1), updS f i (r.take j), by go_num, rfl, by omega, RL2, SB2, NX, BW2⟩, by simp [intOf]; omega⟩
    · obtain rfl : i = M := by omega
      · have FE := hide' (show spN i l = (List.range i).map f ++ [r] by rw [SE.out, Nat.sub_self]; rfl)
        go_wp2
        refine bodyPost_ret (v := .slice (some ⟨w.heap.size, 0, none⟩) (i + 1) N) (by simp [results, Tryd.results29, go_sem]) rfl ?_
        exact sp_end FE.out iN SB.out (Nat.le_refl _) BW.out
end Go.Proofs.YtncinpkbiphpoaaDoor

