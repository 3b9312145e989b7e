/-
  What the last text of this claim leans on, part 28: Gw4, Wg1, Gw5.
-/
import Derived.Test.YtdbgdfodoceadaaDoorZt26
import Derived.Test.YtdbgdfodoceadaaDoorZt27
import Derived.Test.YtdbgdfodoceadaaDoorZt13
namespace Go.Proofs.YtdbgdfodoceadaaDoor
open Go.RowKit
set_option linter.unusedVariables false
theorem sides_shape {W H : Nat} {xs : List Int} (hW : W ≤ 100) (hH : H ≤ 100) (hn : xs.length = W * H) (hx : ∀ k, 0 ≤ xs.getD k 0 ∧ xs.getD k 0 ≤ 1) : shapeF (W : Int) (H : Int) xs = 0 := by
  unfold shapeF
  rw [if_pos (by unfold sideB; simp; omega), if_pos (by rw [hn]; push_cast; rfl), if_pos]
  refine List.all_eq_true.2 fun x hm => ?_
  obtain ⟨k, hk, rfl⟩ := List.getElem_of_mem hm
  have e : xs.getD k 0 = xs[k] := by simp [List.getD, hk]
  have b := hx k
  rw [e] at b
  unfold cellB
  simp
  omega
theorem becN_le (born stay : Nat) (c : Int) (n : Nat) : becN born stay c n ≤ 1 := by
  unfold becN bitN
  split <;> omega
def lifeO : Out := ⟨1, 8, 12, 0, 0, [], ⟨#[]⟩⟩
theorem life_ok : plaE lifeO 3 1 [1, 1, 1] 0 := Or.inr (Or.inr (Or.inr ⟨Or.inl ⟨rfl, by decide, by decide, by decide, by rw [ByteArray.toList_eq]; rfl⟩, by decide, rfl, rfl⟩))
theorem life_grows : growG 8 12 (firstG ⟨3, 1, [1, 1, 1]⟩) 1 = some ⟨⟨1, 3, [1, 1, 1]⟩, 1, -1⟩ := by kernel_rfl
set_option maxRecDepth 100000 in
set_option maxHeartbeats 6400000 in
theorem lives_any (w : World) (hT : TzTab w) : Calls Tryd.prog 21 #[] w fun e w' => e = .returned (.bool true) ∧ Below w.heap.size w w' := by
  have GC := hide' (fun (V : World) (hV : Below w.heap.size w V) (g : Nat) (hg : V.heap[g]? = some (.cells #[.int .i64 1, .int .i64 1, .int .i64 1] 3 (0, 0))) => show Calls Tryd.prog 16 #[.agg #[.int .i64 1, .int .i64 8, .int .i64 12, .int .i64 0, .int .i64 0, .slice none 0 0, .string ⟨#[]⟩], .agg #[.int .i64 3, .int .i64 1, .slice (some ⟨g, 0, none⟩) 3 3], .int .i64 1] V (fun e w' => (∃ q, e = .returned (.tuple #[.agg #[.int .i64 1, .int .i64 3, .slice (some ⟨q, 0, none⟩) 3 3], .int .i64 1, .int .i64 (-1), .nilIface])) ∧ Below V.heap.size V w') from by
    have hP : ArgP V [1, 1, 1] (some ⟨g, 0, none⟩) 3 3 := ⟨rfl, by unfold maxLen; omega, fun k hk => ⟨g, 0, rfl, lt_of_block hg, by
      rw [cell_of_row V _ _ _ _ _ hg]
      have : k = 0 ∨ k = 1 ∨ k = 2 := by simp at hk; omega
      rcases this with rfl | rfl | rfl <;> rfl⟩⟩
    have hR : ArgR V lifeO none 0 0 := ⟨rfl, by unfold maxLen; omega, by show (0 : Nat) ≤ maxLen; unfold maxLen; omega, fun k hk => by simp [lifeO] at hk, by show (0 : Int) ≤ 9223372036854775807; omega⟩
    have t := grow_good lifeO none 0 0 3 1 [1, 1, 1] (some ⟨g, 0, none⟩) 3 3 8 12 1 V hR hP (hT.below hV) (by
      rintro f (⟨g', h1, h2, h3⟩ | ⟨h1, h2, h3⟩ | ⟨h1, h2, h3⟩)
      · exact absurd (plaE_only h1 life_ok) h2
      · simp [lifeO] at h2
      · exact h3) rfl rfl (by omega) (by omega) (by decide) rfl (fun k => by
        by_cases h : k < 3
        · have : k = 0 ∨ k = 1 ∨ k = 2 := by omega
          rcases this with rfl | rfl | rfl <;> simp
        · have e : ([1, 1, 1] : List Int).getD k 0 = 0 := by simp [List.getD, h]
          rw [e]; omega) (by omega) (by omega) (by omega)
    refine t.mono ?_
    rintro e w' (⟨h, _⟩ | ⟨u, q, h, rfl, _, b⟩)
    · rw [life_grows] at h; cases h
    · rw [life_grows] at h
      injection h with h
      subst h
      exact ⟨⟨q, rfl⟩, b⟩)
  obtain ⟨w1, hw1⟩ : ∃ w1, (w.alloc (.cells #[.int .i64 1, .int .i64 8, .int .i64 12, .int .i64 0, .int .i64 0, .slice none 0 0, .string ⟨#[]⟩] 24)).alloc (.cells #[.int .i64 1, .int .i64 1, .int .i64 1] 3) = w1 := ⟨_, rfl⟩
  have BB := hide' (show Below w.heap.size w w1 by rw [← hw1]; repeat (first | exact Below.refl _ _ | refine Below.alloc ?_ (by simp; try omega) _))
  have G1 := hide' (show w1.heap[w.heap.size + 1]? = some (.cells #[.int .i64 1, .int .i64 1, .int .i64 1] 3 (0, 0)) by rw [← hw1]; exact heap_atX _ _ _ (by simp))
  clear hT
  go_enter Tryd.func21, Tryd.ntmps21
  go_wp2_with fail
  try rw [hw1]
  refine (GC.out w1 BB.out _ G1.out).mono ?_
  rintro e w2 ⟨⟨q, rfl⟩, b⟩
  have BQ := hide' ((BB.out.trans (b.mono BB.out.size)).alloc (by have := BB.out.size; have := b.size; omega) (.cells #[.int .i64 1, .int .i64 3, .slice (some ⟨q, 0, none⟩) 3 3] 26))
  clear hw1 b
  go_wp2
  go_ret
  exact ⟨rfl, BQ.out⟩
theorem agn_near {born stay : Nat} {s0 : Gst} (h0 : -200 ≤ s0.r ∧ s0.r ≤ 200 ∧ -200 ≤ s0.d ∧ s0.d ≤ 200) : ∀ (k i : Nat) (u : Gst) (m : Int), u.P.W ≤ 100 → u.P.H ≤ 100 → 0 ≤ m → -m ≤ u.r → u.r ≤ m → -m ≤ u.d → u.d ≤ m → -(m + 103 * (k : Int) + 200) ≤ (agn born stay s0 k i u).r ∧ (agn born stay s0 k i u).r ≤ m + 103 * (k : Int) + 200 ∧ -(m + 103 * (k : Int) + 200) ≤ (agn born stay s0 k i u).d ∧ (agn born stay s0 k i u).d ≤ m + 103 * (k : Int) + 200
  | 0, i, u, m, hW, hH, m0, a1, a2, a3, a4 => by rw [agn]; dsimp only; omega
  | k + 1, i, u, m, hW, hH, m0, a1, a2, a3, a4 => by
    have nr := box_near (q := nextC born stay u.P) (R := u.r - 1) (D := u.d - 1) (m := m) (by show ((u.P.W + 2 : Nat) : Int) ≤ 102; omega) (by show ((u.P.H + 2 : Nat) : Int) ≤ 102; omega) (by omega) (by omega) (by omega) (by omega) m0
    rw [show boxG (nextC born stay u.P) (u.r - 1) (u.d - 1) = nextG born stay u from rfl] at nr
    rw [agn]
    by_cases big : 100 < (nextG born stay u).P.W ∨ 100 < (nextG born stay u).P.H
    · rw [if_pos big]; dsimp only; omega
    · rw [if_neg big]
      by_cases sm : sameP (nextG born stay u).P s0.P = true
      · rw [if_pos sm]; dsimp only; push_cast; omega
      · rw [if_neg sm]
        have := agn_near (born := born) (stay := stay) h0 k (i + 1) (nextG born stay u) (m + 102) (by omega) (by omega) (by omega) (by omega) (by omega) (by omega) (by omega)
        push_cast
        omega
theorem agA_near {born stay : Nat} {p : Pat} (hx : ∀ k, 0 ≤ p.xs.getD k 0 ∧ p.xs.getD k 0 ≤ 1) (hW : p.W ≤ 100) (hH : p.H ≤ 100) : -10000 ≤ (agA born stay (firstG p) 16).r ∧ (agA born stay (firstG p) 16).r ≤ 10000 ∧ -10000 ≤ (agA born stay (firstG p) 16).d ∧ (agA born stay (firstG p) 16).d ≤ 10000 := by
  obtain ⟨f1, f2, f3, f4⟩ := first_ok (p := p) hx hW hH
  unfold agA
  split
  · dsimp only; omega
  · have := agn_near (born := born) (stay := stay) f4 16 0 (firstG p) 200 f2 f3 (by omega) (by omega) (by omega) (by omega) (by omega)
    omega
theorem sq_near {x : Int} (h1 : -10000 ≤ x) (h2 : x ≤ 10000) : 0 ≤ x * x ∧ x * x ≤ 100000000 := by
  rcases Int.le_total 0 x with h | h
  · exact ⟨Int.mul_nonneg h h, Int.le_trans (Int.mul_le_mul h2 h2 h (by omega)) (by omega)⟩
  · have e : x * x = (-x) * (-x) := by rw [Int.neg_mul_neg]
    rw [e]
    exact ⟨Int.mul_nonneg (by omega) (by omega), Int.le_trans (Int.mul_le_mul (show -x ≤ 10000 by omega) (show -x ≤ 10000 by omega) (by omega) (by omega)) (by omega)⟩
end Go.Proofs.YtdbgdfodoceadaaDoor

namespace Go.Proofs.YtdbgdfodoceadaaDoor
open Go.RowKit
set_option linter.unusedVariables false

def ErrPost (f : Nat) (w : World) (e : Ending) (w' : World) : Prop :=
  e = .returned (.tuple #[.agg #[.int .i64 0, .int .i64 0, .slice none 0 0], .iface 77 (.int .i64 (f : Int))]) ∧ Below w.heap.size w w'
theorem errOf_pos {f : Nat} (h : f ≠ 0) : errOf f = .iface 77 (.int .i64 (f : Int)) := by unfold errOf; rw [if_neg h]

set_option maxRecDepth 100000 in
set_option maxHeartbeats 800000 in
theorem pTurn_bad (W H k : Int) (xs : List Int) (a : Option Addr) (n c : Nat) (w : World) (hP : ArgP w xs a n c) (hs : shapeF W H xs ≠ 0) :
    Calls Tryd.prog 24 #[.agg #[.int .i64 W, .int .i64 H, .slice a n c], .int .i64 k] w (ErrPost (shapeF W H xs) w) := by
  have AP0 := hide' ((hP.alloc (.cells #[.int .i64 W, .int .i64 H, .slice a n c] 26)).alloc (.cells #[.int .i64 0, .int .i64 0, .slice none 0 0] 26))
  have RX0 := TB.new (w.alloc (.cells #[.int .i64 W, .int .i64 H, .slice a n c] 26)) (.int .i64 0) (.int .i64 0) (.slice none 0 0) 26
  rw [World.size_alloc] at RX0
  have RX := hide' RX0
  obtain ⟨f, hf⟩ : ∃ f, shapeF W H xs = f := ⟨_, rfl⟩
  rw [hf] at hs ⊢
  have HF := hide' hf
  have HS := hide' hs
  clear hP RX0 hf hs
  go_enter Tryd.func24, Tryd.ntmps24
  go_wp2_with fail
  refine (Check_P W H xs a n c _ AP0.out).mono ?_
  rw [HF.out, errOf_pos HS.out]
  rintro e w2 ⟨rfl, b2⟩
  have BB := hide' (show Below w.heap.size w w2 from (((Below.refl _ _).alloc (Nat.le_refl _) _).alloc (by simp) _).trans (b2.mono (by simp only [World.size_alloc]; omega)))
  obtain ⟨r0, r1, r2, rf⟩ := RX.out.next b2
  have f0 := rf 0
  have f1 := rf 1
  have f2 := rf 2
  clear rf b2
  go_wp2
  refine bodyPost_ret (v := .tuple #[.agg #[.int .i64 0, .int .i64 0, .slice none 0 0], .iface 77 (.int .i64 (f : Int))]) (by simp [results, Tryd.results24, go_sem, r0, r1, r2]) rfl ?_
  exact ⟨rfl, ((BB.out.setCell (by simp) _).setCell (by simp) _).setCell (by simp) _⟩

set_option maxRecDepth 100000 in
set_option maxHeartbeats 800000 in
theorem pTurn_k (W H k : Int) (xs : List Int) (a : Option Addr) (n c : Nat) (w : World) (hP : ArgP w xs a n c) (hs : shapeF W H xs = 0) (hk : k < 0 ∨ 7 < k) :
    Calls Tryd.prog 24 #[.agg #[.int .i64 W, .int .i64 H, .slice a n c], .int .i64 k] w (ErrPost 1 w) := by
  have AP0 := hide' ((hP.alloc (.cells #[.int .i64 W, .int .i64 H, .slice a n c] 26)).alloc (.cells #[.int .i64 0, .int .i64 0, .slice none 0 0] 26))
  have RX0 := TB.new (w.alloc (.cells #[.int .i64 W, .int .i64 H, .slice a n c] 26)) (.int .i64 0) (.int .i64 0) (.slice none 0 0) 26
  rw [World.size_alloc] at RX0
  have RX := hide' RX0
  have HS := hide' hs
  clear hP RX0 hs
  go_enter Tryd.func24, Tryd.ntmps24
  go_wp2_with fail
  refine (Check_P W H xs a n c _ AP0.out).mono ?_
  rw [HS.out, show errOf 0 = .nilIface from rfl]
  rintro e w2 ⟨rfl, b2⟩
  have BB := hide' (show Below w.heap.size w w2 from (((Below.refl _ _).alloc (Nat.le_refl _) _).alloc (by simp) _).trans (b2.mono (by simp only [World.size_alloc]; omega)))
  obtain ⟨r0, r1, r2, rf⟩ := RX.out.next b2
  have f0 := rf 0
  have f1 := rf 1
  have f2 := rf 2
  clear rf b2
  rcases hk with h | h
  · go_wp2
    refine bodyPost_ret (v := .tuple #[.agg #[.int .i64 0, .int .i64 0, .slice none 0 0], .iface 77 (.int .i64 1)]) (by simp [results, Tryd.results24, go_sem, r0, r1, r2]) rfl ?_
    exact ⟨rfl, ((BB.out.setCell (by simp) _).setCell (by simp) _).setCell (by simp) _⟩
  · have h1 : ¬ k < 0 := by omega
    have h2 : (8 : Int) ≤ k := by omega
    go_wp2
    refine bodyPost_ret (v := .tuple #[.agg #[.int .i64 0, .int .i64 0, .slice none 0 0], .iface 77 (.int .i64 1)]) (by simp [results, Tryd.results24, go_sem, r0, r1, r2]) rfl ?_
    exact ⟨rfl, ((BB.out.setCell (by simp) _).setCell (by simp) _).setCell (by simp) _⟩

theorem pturned_any (p : Pat) (k : Nat) (a : Option Addr) (c : Nat) (w : World) (hP : ArgP w p.xs a p.xs.length c) (hp : p.ok) (lW : p.W ≤ 100) (lH : p.H ≤ 100) (hk : k < 8) :
    Calls Tryd.prog 59 #[.agg #[.int .i64 (p.W : Int), .int .i64 (p.H : Int), .slice a p.xs.length c], .int .i64 (k : Int)] w (TurnedPostC (p.turn k) w) := by
  obtain ⟨W, H, xs⟩ := p
  cases a with
  | some a => exact pturned_some W H xs k a c w hP hp lW lH hk
  | none =>
    cases xs with
    | nil => exact pturned_nil W H k c w hp lW lH hk
    | cons x xs =>
      obtain ⟨g, off, e, -⟩ := hP.cells 0 (by simp)
      cases e

set_option maxRecDepth 100000 in
set_option maxHeartbeats 800000 in
theorem pTurn_ok (p : Pat) (k : Nat) (a : Option Addr) (c : Nat) (w : World) (hP : ArgP w p.xs a p.xs.length c) (hp : p.ok) (lW : p.W ≤ 100) (lH : p.H ≤ 100) (hs : shapeF p.W p.H p.xs = 0) (hk : k < 8) :
    Calls Tryd.prog 24 #[.agg #[.int .i64 (p.W : Int), .int .i64 (p.H : Int), .slice a p.xs.length c], .int .i64 (k : Int)] w fun e w' => ∃ v, e = .returned (.tuple #[.agg #[.int .i64 ((p.turn k).W : Int), .int .i64 ((p.turn k).H : Int), v], .nilIface]) ∧ Tab w' v (p.turn k).xs ∧ FreshC w v ∧ Below w.heap.size w w' := by
  have AP0 := hide' ((hP.alloc (.cells #[.int .i64 (p.W : Int), .int .i64 (p.H : Int), .slice a p.xs.length c] 26)).alloc (.cells #[.int .i64 0, .int .i64 0, .slice none 0 0] 26))
  have BX := hide' ((TB.new w (.int .i64 (p.W : Int)) (.int .i64 (p.H : Int)) (.slice a p.xs.length c) 26).alloc (.cells #[.int .i64 0, .int .i64 0, .slice none 0 0] 26))
  have RX0 := TB.new (w.alloc (.cells #[.int .i64 (p.W : Int), .int .i64 (p.H : Int), .slice a p.xs.length c] 26)) (.int .i64 0) (.int .i64 0) (.slice none 0 0) 26
  rw [World.size_alloc] at RX0
  have RX := hide' RX0
  have HS := hide' hs
  have h1 : ¬ (k : Int) < 0 := by omega
  have h2 : ¬ (8 : Int) ≤ (k : Int) := by omega
  clear hP RX0 hs
  go_enter Tryd.func24, Tryd.ntmps24
  go_wp2_with fail
  refine (Check_P p.W p.H p.xs a p.xs.length c _ AP0.out).mono ?_
  rw [HS.out, show errOf 0 = .nilIface from rfl]
  rintro e w2 ⟨rfl, b2⟩
  have hz2 := b2.size
  simp only [World.size_alloc] at hz2
  have BB := hide' (show Below w.heap.size w w2 from (((Below.refl _ _).alloc (Nat.le_refl _) _).alloc (by simp) _).trans (b2.mono (by simp only [World.size_alloc]; omega)))
  obtain ⟨x0, x1, x2, -⟩ := BX.out.next b2
  have RX2 := hide' (RX.out.next b2)
  have AP2 := hide' (AP0.out.below b2)
  clear b2
  go_wp2_with fail
  refine (pturned_any p k a c _ AP2.out hp lW lH hk).mono ?_
  rintro e w3 ⟨v, rfl, tb, fr, b3⟩
  obtain ⟨va, vn, vc, rfl⟩ := tb.slice
  obtain ⟨r0, r1, r2, rf⟩ := RX2.out.next b3
  have f0 := rf 0
  have f1 := rf 1
  have f2 := rf 2
  have TBH := hide' tb
  have FR := hide' fr
  have B3 := hide' (BB.out.trans (b3.mono (by omega)))
  clear rf tb fr b3
  go_wp2
  refine bodyPost_ret (v := .tuple #[.agg #[.int .i64 ((p.turn k).W : Int), .int .i64 ((p.turn k).H : Int), .slice va vn vc], .nilIface]) (by simp [results, Tryd.results24, go_sem, r0, r1, r2]) rfl ?_
  refine ⟨_, rfl, ?_, fun g k c e => by have := FR.out g k c e; omega, ((B3.out.setCell (by simp) _).setCell (by simp) _).setCell (by simp) _⟩
  rcases TBH.out with h | ⟨g, cap, e, hg, hc⟩
  · exact Or.inl h
  · exact Or.inr ⟨g, cap, e, by rw [World.size_setCell, World.size_setCell, World.size_setCell]; exact hg, fun i hi => (World.cell?_of_block (w := w3) (a := ⟨g, i, none⟩) (stored_blk w3 (w.heap.size + 1) g _ _ _ (by have := FR.out g _ _ e; omega))).trans (hc i hi)⟩
end Go.Proofs.YtdbgdfodoceadaaDoor

namespace Go.Proofs.YtdbgdfodoceadaaDoor
open Go.RowKit
set_option linter.unusedVariables false
/-- A pattern is answered, and nothing is wrong. -/
def PatOut (W H : Int) (xs : List Int) (V : World) (e : Ending) (w' : World) : Prop := ∃ a n c, e = .returned (.tuple #[.agg #[.int .i64 W, .int .i64 H, .slice a n c], .nilIface]) ∧ ArgP w' xs a n c ∧ Below V.heap.size V w'
/-- A pattern is answered, whatever is wrong. -/
def PatAny (V : World) (e : Ending) (w' : World) : Prop := ∃ W H a n c f, e = .returned (.tuple #[.agg #[.int .i64 W, .int .i64 H, .slice a n c], errOf f]) ∧ Below V.heap.size V w'
theorem plaE_has (o : Out) (W H : Int) (xs : List Int) : ∃ f, plaE o W H xs f := by
  by_cases g : Good o
  · by_cases s : shapeF W H xs = 0
    · by_cases k : o.kind = 1
      · exact ⟨0, Or.inr (Or.inr (Or.inr ⟨g, s, k, rfl⟩))⟩
      · exact ⟨1, Or.inr (Or.inr (Or.inl ⟨g, s, k, rfl⟩))⟩
    · exact ⟨_, Or.inr (Or.inl ⟨g, s, rfl⟩)⟩
  · exact ⟨1, Or.inl ⟨g, rfl⟩⟩
theorem ArgP.all {w : World} {xs : List Int} {a : Option Addr} {n c : Nat} (h : ArgP w xs a n c) : n = xs.length := h.len
theorem torus_arg (o : Out) (ta : Option Addr) (tn tc : Nat) (W H : Nat) (xs : List Int) (a : Option Addr) (n c : Nat) (born stay : Nat) (w : World) (hR : ArgR w o ta tn tc) (hP : ArgP w xs a n c) (hf : plaE o (W : Int) (H : Int) xs 0) (hb : o.born = (born : Int)) (hs : o.stay = (stay : Int)) (b5 : born ≤ 511) (s5 : stay ≤ 511) (hn : xs.length = W * H) (hx : ∀ k, 0 ≤ xs.getD k 0 ∧ xs.getD k 0 ≤ 1) (hW : W ≤ 100) (hH : H ≤ 100) :
    Calls Tryd.prog 11 #[.agg #[.int .i64 o.kind, .int .i64 o.born, .int .i64 o.stay, .int .i64 o.states, .int .i64 o.radius, .slice ta tn tc, .string o.turns], .agg #[.int .i64 (W : Int), .int .i64 (H : Int), .slice a n c]] w (PatOut (W : Int) (H : Int) (torL born stay W H xs) w) := by
  refine (torus_good o ta tn tc W H xs a n c born stay w hR hP hf hb hs b5 s5 hn hx hW hH).mono ?_
  rintro e w' ⟨⟨q, rfl, t⟩, b⟩
  obtain ⟨a', c', e', ap⟩ := tab_arg t (by rw [torL_length]; have := Nat.mul_le_mul hW hH; unfold maxLen; omega)
  rw [e']
  exact ⟨a', _, c', rfl, ap, b⟩
theorem torus_any (o : Out) (ta : Option Addr) (tn tc : Nat) (W H : Int) (xs : List Int) (a : Option Addr) (n c : Nat) (w : World) (hR : ArgR w o ta tn tc) (hP : ArgP w xs a n c) :
    Calls Tryd.prog 11 #[.agg #[.int .i64 o.kind, .int .i64 o.born, .int .i64 o.stay, .int .i64 o.states, .int .i64 o.radius, .slice ta tn tc, .string o.turns], .agg #[.int .i64 W, .int .i64 H, .slice a n c]] w (PatAny w) := by
  obtain ⟨f, hf⟩ := plaE_has o W H xs
  by_cases f0 : f = 0
  · subst f0
    obtain ⟨born, stay, hb, hs, b5, s5, hk, hsh⟩ := pla_good hf
    obtain ⟨Wn, Hn, rfl, rfl, hW, hH, hn, hx⟩ := shape_sides hsh
    refine (torus_arg o ta tn tc Wn Hn xs a n c born stay w hR hP hf hb hs b5 s5 hn hx hW hH).mono ?_
    rintro e w' ⟨a', n', c', rfl, -, b⟩
    exact ⟨_, _, a', n', c', 0, rfl, b⟩
  · refine (torus_bad o ta tn tc W H xs a n c f w hR hP hf f0).mono ?_
    rintro e w' ⟨rfl, b⟩
    exact ⟨_, _, none, 0, 0, f, rfl, b⟩
theorem turn_sides {p : Pat} {k : Nat} (hp : p.ok) (hk : k < 8) (lW : p.W ≤ 100) (lH : p.H ≤ 100) : (p.turn k).W ≤ 100 ∧ (p.turn k).H ≤ 100 := by
  rw [turn_is p hp k hk]
  unfold turnW turnH
  dsimp only
  split <;> exact ⟨by assumption, by assumption⟩
theorem turn_arg (p : Pat) (k : Nat) (a : Option Addr) (n c : Nat) (w : World) (hP : ArgP w p.xs a n c) (h : bitsP p) (lW : p.W ≤ 100) (lH : p.H ≤ 100) (hk : k < 8) :
    Calls Tryd.prog 24 #[.agg #[.int .i64 (p.W : Int), .int .i64 (p.H : Int), .slice a n c], .int .i64 (k : Int)] w (PatOut ((p.turn k).W : Int) ((p.turn k).H : Int) (p.turn k).xs w) := by
  have e := hP.len
  subst e
  refine (pTurn_ok p k a c w hP h.1 lW lH (sides_shape lW lH h.1 h.2) hk).mono ?_
  rintro e w' ⟨v, rfl, t, -, b⟩
  obtain ⟨sW, sH⟩ := turn_sides h.1 hk lW lH
  obtain ⟨a', c', e', ap⟩ := tab_arg t (by rw [(h.turn k).1]; have := Nat.mul_le_mul sW sH; unfold maxLen; omega)
  rw [e']
  exact ⟨a', _, c', rfl, ap, b⟩
/-- What Again answers by 16 steps at most. -/
def agX (born stay : Nat) (p : Pat) : AgR := if born.testBit 0 then ⟨0, 0, 0, 1⟩ else agA born stay (firstG p) 16
theorem agX_turn {born stay : Nat} {p : Pat} (h : bitsP p) (j : Nat) : AgS (agX born stay p) (agX born stay (p.turn j)) := by
  unfold agX
  split
  · exact AgS.refl _
  · rename_i hb
    exact agA_all (by simpa using hb) h 16 j
theorem agX_near {born stay : Nat} {p : Pat} (hx : ∀ k, 0 ≤ p.xs.getD k 0 ∧ p.xs.getD k 0 ≤ 1) (hW : p.W ≤ 100) (hH : p.H ≤ 100) : -10000 ≤ (agX born stay p).r ∧ (agX born stay p).r ≤ 10000 ∧ -10000 ≤ (agX born stay p).d ∧ (agX born stay p).d ≤ 10000 := by
  unfold agX
  split
  · dsimp only; omega
  · exact agA_near hx hW hH
theorem again_arg (o : Out) (ta : Option Addr) (tn tc : Nat) (p : Pat) (a : Option Addr) (n c : Nat) (born stay : Nat) (w : World) (hR : ArgR w o ta tn tc) (hP : ArgP w p.xs a n c) (hT : TzTab w) (hf : plaE o (p.W : Int) (p.H : Int) p.xs 0) (hb : o.born = (born : Int)) (hs : o.stay = (stay : Int)) (b5 : born ≤ 511) (s5 : stay ≤ 511) (h : bitsP p) (hW : p.W ≤ 100) (hH : p.H ≤ 100) :
    Calls Tryd.prog 18 #[.agg #[.int .i64 o.kind, .int .i64 o.born, .int .i64 o.stay, .int .i64 o.states, .int .i64 o.radius, .slice ta tn tc, .string o.turns], .agg #[.int .i64 (p.W : Int), .int .i64 (p.H : Int), .slice a n c], .int .i64 16] w (AgainPost (agX born stay p) w) := by
  have bm : born.testBit 0 = decide (born % 2 = 1) := by rw [Nat.testBit_eq_decide_div_mod_eq]; simp
  unfold agX
  by_cases ob : born.testBit 0 = true
  · rw [if_pos ob]
    rw [bm] at ob
    simp at ob
    refine again_bad o ta tn tc (p.W : Int) (p.H : Int) p.xs a n c 16 1 w hR hP ?_
    rintro g (⟨g', h1, h2, h3⟩ | ⟨h1, h2, h3⟩ | ⟨h1, h2, h3⟩)
    · exact absurd (plaE_only h1 hf) h2
    · exact Or.inl ⟨by omega, h3.symm⟩
    · rw [hb] at h2; omega
  · rw [if_neg ob]
    have bt : born.testBit 0 = false := by simpa using ob
    rw [bm] at ob
    simp at ob
    have t := again_good o ta tn tc p.W p.H p.xs a n c born stay 16 w hR hP hT (by
      rintro g (⟨g', h1, h2, h3⟩ | ⟨h1, h2, h3⟩ | ⟨h1, h2, h3⟩)
      · exact absurd (plaE_only h1 hf) h2
      · rw [hb] at h2; omega
      · exact h3) hb hs b5 s5 bt h.1 h.2 hW hH (by omega) (by omega)
    exact t
theorem plaE_turn {o : Out} {p : Pat} {q : Pat} (hf : plaE o (p.W : Int) (p.H : Int) p.xs 0) (hq : bitsP q) (hW : q.W ≤ 100) (hH : q.H ≤ 100) : plaE o (q.W : Int) (q.H : Int) q.xs 0 := by
  rcases hf with ⟨_, h⟩ | ⟨_, h1, h2⟩ | ⟨_, _, _, h⟩ | ⟨hg, hs, hk, _⟩
  · omega
  · exact absurd h2.symm h1
  · omega
  · exact Or.inr (Or.inr (Or.inr ⟨hg, sides_shape hW hH hq.1 hq.2, hk, rfl⟩))
end Go.Proofs.YtdbgdfodoceadaaDoor

