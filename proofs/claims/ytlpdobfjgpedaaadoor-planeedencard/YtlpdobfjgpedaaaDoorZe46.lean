/-
  What the last text of this claim leans on, part 46: Gv2, Gv3, Gw4, Ce0, OpenZg, OpenP.
-/
import Derived.Test.YtlpdobfjgpedaaaDoorZe42
import Derived.Test.YtlpdobfjgpedaaaDoorZe45
import Derived.Test.YtlpdobfjgpedaaaDoorZe44
import Derived.Test.YtlpdobfjgpedaaaDoorZe10
import Derived.Test.YtlpdobfjgpedaaaDoorZe12
import Derived.Test.YtlpdobfjgpedaaaDoorRows
import Derived.Test.YtlpdobfjgpedaaaDoorCards
import Derived.Test.YtlpdobfjgpedaaaDoorTie
import Derived.Deep.CutRange
import Derived.Deep.MidRow
import Derived.ProofKit
import Derived.OpenShut
import Derived.ChangeSame
import Derived.ChangeSlices
import Derived.LaidSub
import Derived.Carry
import Derived.Lib.LaidTab
import Derived.ChangeVars
import Derived.JoinedOf
import Derived.RowKit
import Derived.RowKitTokens
import Derived.LaidLaws
import Derived.LaidHandle
import Derived.Lay
import Derived.Stop.Joined
import Derived.SevenTiedAt
namespace Go.Proofs.YtlpdobfjgpedaaaDoor
open Go.RowKit
set_option linter.unusedVariables false
def agV (x : AgR) : Value := .agg #[.int .i64 (x.n : Int), .int .i64 x.r, .int .i64 x.d]
theorem three_row {w : World} {g : Nat} {x0 x1 x2 : Value} {t : TypeId} (h : w.heap[g]? = some (.cells #[x0, x1, x2] t (0, 0))) (a b c : Value) :
    (((w.setCell ⟨g, 0, none⟩ a).setCell ⟨g, 1, none⟩ b).setCell ⟨g, 2, none⟩ c).heap[g]? = some (.cells #[a, b, c] t (0, 0)) := by
  have h0 : (w.setCell ⟨g, 0, none⟩ a).heap[g]? = some (.cells #[a, x1, x2] t (0, 0)) := by rw [heap_setCell_same _ _ _ _ _ _ h]; rfl
  have h1 : ((w.setCell ⟨g, 0, none⟩ a).setCell ⟨g, 1, none⟩ b).heap[g]? = some (.cells #[a, b, x2] t (0, 0)) := by rw [heap_setCell_same _ _ _ _ _ _ h0]; rfl
  rw [heap_setCell_same _ _ _ _ _ _ h1]; rfl
/-- What Again has when some steps were gone. -/
def AgInv (born stay : Nat) (s0 : Gst) (m j : Nat) (u : Gst) : Prop := (u.P.W = 0 → agA born stay s0 m = ⟨0, 0, 0, 5⟩) ∧ (u.P.W ≠ 0 → agA born stay s0 m = agn born stay s0 (m - j) j u ∧ s0.P.W ≠ 0)
theorem AgInv.start (born stay : Nat) (s0 : Gst) (m : Nat) : AgInv born stay s0 m 0 s0 := ⟨fun h => by unfold agA; rw [if_pos h], fun h => ⟨by unfold agA; rw [if_neg h]; rfl, h⟩⟩
theorem AgInv.last {born stay : Nat} {s0 : Gst} {m : Nat} {u : Gst} (h : AgInv born stay s0 m m u) : agA born stay s0 m = ⟨0, 0, 0, 5⟩ := by
  by_cases z : u.P.W = 0
  · exact h.1 z
  · rw [(h.2 z).1, Nat.sub_self]; rfl
theorem AgInv.big {born stay : Nat} {s0 : Gst} {m j : Nat} {u : Gst} (h : AgInv born stay s0 m j u) (hj : j < m) (z : u.P.W ≠ 0) (b : 100 < (nextG born stay u).P.W ∨ 100 < (nextG born stay u).P.H) : agA born stay s0 m = ⟨0, 0, 0, 4⟩ := by
  rw [(h.2 z).1, show m - j = (m - (j + 1)) + 1 by omega, agn, if_pos b]
theorem AgInv.found {born stay : Nat} {s0 : Gst} {m j : Nat} {u : Gst} (h : AgInv born stay s0 m j u) (hj : j < m) (z : u.P.W ≠ 0) (b : ¬ (100 < (nextG born stay u).P.W ∨ 100 < (nextG born stay u).P.H)) (k : sameP (nextG born stay u).P s0.P = true) : agA born stay s0 m = ⟨j + 1, (nextG born stay u).r - s0.r, (nextG born stay u).d - s0.d, 0⟩ := by
  rw [(h.2 z).1, show m - j = (m - (j + 1)) + 1 by omega, agn, if_neg b, if_pos k]
theorem AgInv.next {born stay : Nat} {s0 : Gst} {m j : Nat} {u : Gst} (b0 : born.testBit 0 = false) (h : AgInv born stay s0 m j u) (hj : j < m) (z : u.P.W ≠ 0) (b : ¬ (100 < (nextG born stay u).P.W ∨ 100 < (nextG born stay u).P.H)) (k : sameP (nextG born stay u).P s0.P = false) : AgInv born stay s0 m (j + 1) (nextG born stay u) := by
  have e : agA born stay s0 m = agn born stay s0 (m - (j + 1)) (j + 1) (nextG born stay u) := by
    rw [(h.2 z).1, show m - j = (m - (j + 1)) + 1 by omega, agn, if_neg b, if_neg (by rw [k]; simp)]
  refine ⟨fun t => ?_, fun _ => ⟨e, (h.2 z).2⟩⟩
  have tn : nextG born stay u = noG := box_zero t
  rw [e, tn]
  exact agn_noG b0 (h.2 z).2 _ _
def RefAgainPost (born stay : Nat) (s0 : Gst) (m : Nat) (w : World) (e : Ending) (w' : World) : Prop := e = .returned (.tuple #[agV (agA born stay s0 m), .int .i64 ((agA born stay s0 m).f : Int)]) ∧ Below w.heap.size w w'
end Go.Proofs.YtlpdobfjgpedaaaDoor

namespace Go.Proofs.YtlpdobfjgpedaaaDoor
open Go.RowKit
set_option linter.unusedVariables false
def AgainBad (f : Nat) (w : World) (e : Ending) (w' : World) : Prop := e = .returned (.tuple #[.agg #[.int .i64 0, .int .i64 0, .int .i64 0], errOf f]) ∧ Below w.heap.size w w'
def AgainPost (x : AgR) (w : World) (e : Ending) (w' : World) : Prop := e = .returned (.tuple #[agV x, errOf x.f]) ∧ Below w.heap.size w w'
theorem sheet_eq (X Y : Nat → Nat) (b : Bool) (hb : b = true ↔ ∀ k, k < 204 → X k = Y k) (w : World) : (Op.equalIn 10000 111 (.agg (arrF 204 (uF X))) (.agg (arrF 204 (uF Y)))).run Tryd.prog w = .ok b w := by
  rw [run_equalIn_array w 9999 (t := 111) (e := 109) (n := 102) (i := (Tryd.prog.info? 109).getD default) _ _ Tryd.underlying111 (by kernel_rfl)]
  have hc : Tryd.prog.cellsOf 109 = 2 := by kernel_rfl
  rw [hc]
  have g : ∀ (Z : Nat → Nat) k, k < 204 → (arrF 204 (uF Z))[k]? = some (.int .u64 ((Z k : Nat) : Int)) := fun Z k hk => by rw [arrF_get _ hk]; rfl
  have e := eqItems_rows (P := Tryd.prog) w 9997 (e := 109) (e2 := 107) (m := 2) (k := .u64) (i := (Tryd.prog.info? 109).getD default) (i2 := (Tryd.prog.info? 107).getD default) Tryd.underlying109 (by kernel_rfl) (by kernel_rfl) (by kernel_rfl) (by kernel_rfl) Tryd.underlying107 (arrF 204 (uF X)) (arrF 204 (uF Y)) (fun k => ((X k : Nat) : Int)) (fun k => ((Y k : Nat) : Int)) (List.range 102) (fun y hy j hj => by
    have := List.mem_range.1 hy
    exact ⟨g X _ (by omega), g Y _ (by omega)⟩)
  rw [e]
  refine congrArg (fun z => Result.ok z w) ?_
  rw [Bool.eq_iff_iff, hb]
  simp only [List.all_eq_true, List.mem_range, beq_iff_eq]
  constructor
  · intro h k hk
    have := h (k / 2) (by omega) (k % 2) (by omega)
    rw [show k / 2 * 2 + k % 2 = k by omega] at this
    omega
  · intro h y hy j hj
    have := h (y * 2 + j) (by omega)
    omega
structure PA (w w4 wr : World) (pf p : Nat) (Z0 Z : Array Value) : Prop where
  keep : ∀ k, k < w.heap.size + 1 + 1 + 1 → wr.heap[k]? = w4.heap[k]?
  fb : wr.heap[pf]? = some (.cells Z0 113 (0, 0))
  blk : wr.heap[p]? = some (.cells Z 113 (0, 0))
  pq : w.heap.size + 1 + 1 + 1 ≤ pf
  pl : pf < p
  below : Below w.heap.size w wr
theorem PA.next {w w4 wr w' : World} {pf p : Nat} {Z0 Z : Array Value} (h : PA w w4 wr pf p Z0 Z) (b : Below wr.heap.size wr w') : PA w w4 w' pf p Z0 Z := by
  have l := lt_of_block h.blk
  have := h.pl
  have := h.pq
  exact ⟨fun k hk => (b.block k (by omega)).trans (h.keep k hk), (b.block _ (by omega)).trans h.fb, (b.block _ l).trans h.blk, h.pq, h.pl, h.below.trans (b.mono h.below.size)⟩
theorem PA.setRow {w w4 wr : World} {pf p : Nat} {Z0 Z : Array Value} (h : PA w w4 wr pf p Z0 Z) (Y : Array Value) : PA w w4 (wr.setRow p Y) pf p Z0 Y :=
  ⟨fun k hk => (setRow_other _ _ _ _ (by have := h.pl; have := h.pq; omega)).trans (h.keep k hk), (setRow_other _ _ _ _ (by have := h.pl; omega)).trans h.fb, setRow_heap _ _ _ _ _ _ h.blk, h.pq, h.pl, below_setRow h.below (by have := h.pl; have := h.pq; omega) _⟩
theorem words_list (s : Gst) : ∃ L : List Value, L.length = 204 ∧ L.toArray = arrF 204 (uF (wX s.P)) ∧ ∀ (w : World) (p : Nat), w.heap[p]? = some (.cells (grV s) 113 (0, 0)) → w.rangeAt p 0 L := by
  refine ⟨(List.range 204).map (uF (wX s.P)), by simp, rfl, fun w p h j v hv => ?_⟩
  have hj : j < 204 := by
    rcases Nat.lt_or_ge j 204 with q | q
    · exact q
    · rw [List.getElem?_eq_none (by simp; omega)] at hv; cases hv
  rw [Nat.zero_add, cell_of_row w _ _ _ _ _ h, grV, arrF_get _ (by omega), grF, if_pos hj]
  rw [List.getElem?_map, List.getElem?_range hj] at hv
  exact hv
end Go.Proofs.YtlpdobfjgpedaaaDoor

namespace Go.Proofs.YtlpdobfjgpedaaaDoor
open Go.RowKit
set_option linter.unusedVariables false
theorem sides_shape {W H : Nat} {xs : List Int} (hW : W ≤ 100) (hH : H ≤ 100) (hn : xs.length = W * H) (hx : ∀ k, 0 ≤ xs.getD k 0 ∧ xs.getD k 0 ≤ 1) : shapeF (W : Int) (H : Int) xs = 0 := by
  unfold shapeF
  rw [if_pos (by unfold sideB; simp; omega), if_pos (by rw [hn]; push_cast; rfl), if_pos]
  refine List.all_eq_true.2 fun x hm => ?_
  obtain ⟨k, hk, rfl⟩ := List.getElem_of_mem hm
  have e : xs.getD k 0 = xs[k] := by simp [List.getD, hk]
  have b := hx k
  rw [e] at b
  unfold cellB
  simp
  omega
theorem becN_le (born stay : Nat) (c : Int) (n : Nat) : becN born stay c n ≤ 1 := by
  unfold becN bitN
  split <;> omega
def lifeO : Out := ⟨1, 8, 12, 0, 0, [], ⟨#[]⟩⟩
theorem life_ok : plaE lifeO 3 1 [1, 1, 1] 0 := Or.inr (Or.inr (Or.inr ⟨Or.inl ⟨rfl, by decide, by decide, by decide, by rw [ByteArray.toList_eq]; rfl⟩, by decide, rfl, rfl⟩))
theorem life_grows : growG 8 12 (firstG ⟨3, 1, [1, 1, 1]⟩) 1 = some ⟨⟨1, 3, [1, 1, 1]⟩, 1, -1⟩ := by kernel_rfl
set_option maxRecDepth 100000 in
set_option maxHeartbeats 6400000 in
theorem lives_any (w : World) (hT : TzTab w) : Calls Tryd.prog 11 #[] w fun e w' => e = .returned (.bool true) ∧ Below w.heap.size w w' := by
  have GC := hide' (fun (V : World) (hV : Below w.heap.size w V) (g : Nat) (hg : V.heap[g]? = some (.cells #[.int .i64 1, .int .i64 1, .int .i64 1] 3 (0, 0))) => show Calls Tryd.prog 27 #[.agg #[.int .i64 1, .int .i64 8, .int .i64 12, .int .i64 0, .int .i64 0, .slice none 0 0, .string ⟨#[]⟩], .agg #[.int .i64 3, .int .i64 1, .slice (some ⟨g, 0, none⟩) 3 3], .int .i64 1] V (fun e w' => (∃ q, e = .returned (.tuple #[.agg #[.int .i64 1, .int .i64 3, .slice (some ⟨q, 0, none⟩) 3 3], .int .i64 1, .int .i64 (-1), .nilIface])) ∧ Below V.heap.size V w') from by
    have hP : ArgP V [1, 1, 1] (some ⟨g, 0, none⟩) 3 3 := ⟨rfl, by unfold maxLen; omega, fun k hk => ⟨g, 0, rfl, lt_of_block hg, by
      rw [cell_of_row V _ _ _ _ _ hg]
      have : k = 0 ∨ k = 1 ∨ k = 2 := by simp at hk; omega
      rcases this with rfl | rfl | rfl <;> rfl⟩⟩
    have hR : ArgR V lifeO none 0 0 := ⟨rfl, by unfold maxLen; omega, by show (0 : Nat) ≤ maxLen; unfold maxLen; omega, fun k hk => by simp [lifeO] at hk, by show (0 : Int) ≤ 9223372036854775807; omega⟩
    have t := grow_good lifeO none 0 0 3 1 [1, 1, 1] (some ⟨g, 0, none⟩) 3 3 8 12 1 V hR hP (hT.below hV) (by
      rintro f (⟨g', h1, h2, h3⟩ | ⟨h1, h2, h3⟩ | ⟨h1, h2, h3⟩)
      · exact absurd (plaE_only h1 life_ok) h2
      · simp [lifeO] at h2
      · exact h3) rfl rfl (by omega) (by omega) (by decide) rfl (fun k => by
        by_cases h : k < 3
        · have : k = 0 ∨ k = 1 ∨ k = 2 := by omega
          rcases this with rfl | rfl | rfl <;> simp
        · have e : ([1, 1, 1] : List Int).getD k 0 = 0 := by simp [List.getD, h]
          rw [e]; omega) (by omega) (by omega) (by omega)
    refine t.mono ?_
    rintro e w' (⟨h, _⟩ | ⟨u, q, h, rfl, _, b⟩)
    · rw [life_grows] at h; cases h
    · rw [life_grows] at h
      injection h with h
      subst h
      exact ⟨⟨q, rfl⟩, b⟩)
  obtain ⟨w1, hw1⟩ : ∃ w1, (w.alloc (.cells #[.int .i64 1, .int .i64 8, .int .i64 12, .int .i64 0, .int .i64 0, .slice none 0 0, .string ⟨#[]⟩] 24)).alloc (.cells #[.int .i64 1, .int .i64 1, .int .i64 1] 3) = w1 := ⟨_, rfl⟩
  have BB := hide' (show Below w.heap.size w w1 by rw [← hw1]; repeat (first | exact Below.refl _ _ | refine Below.alloc ?_ (by simp; try omega) _))
  have G1 := hide' (show w1.heap[w.heap.size + 1]? = some (.cells #[.int .i64 1, .int .i64 1, .int .i64 1] 3 (0, 0)) by rw [← hw1]; exact heap_atX _ _ _ (by simp))
  clear hT
  go_enter Tryd.func11, Tryd.ntmps11
  go_wp2_with fail
  try rw [hw1]
  refine (GC.out w1 BB.out _ G1.out).mono ?_
  rintro e w2 ⟨⟨q, rfl⟩, b⟩
  have BQ := hide' ((BB.out.trans (b.mono BB.out.size)).alloc (by have := BB.out.size; have := b.size; omega) (.cells #[.int .i64 1, .int .i64 3, .slice (some ⟨q, 0, none⟩) 3 3] 26))
  clear hw1 b
  go_wp2
  go_ret
  exact ⟨rfl, BQ.out⟩
theorem agn_near {born stay : Nat} {s0 : Gst} (h0 : -200 ≤ s0.r ∧ s0.r ≤ 200 ∧ -200 ≤ s0.d ∧ s0.d ≤ 200) : ∀ (k i : Nat) (u : Gst) (m : Int), u.P.W ≤ 100 → u.P.H ≤ 100 → 0 ≤ m → -m ≤ u.r → u.r ≤ m → -m ≤ u.d → u.d ≤ m → -(m + 103 * (k : Int) + 200) ≤ (agn born stay s0 k i u).r ∧ (agn born stay s0 k i u).r ≤ m + 103 * (k : Int) + 200 ∧ -(m + 103 * (k : Int) + 200) ≤ (agn born stay s0 k i u).d ∧ (agn born stay s0 k i u).d ≤ m + 103 * (k : Int) + 200
  | 0, i, u, m, hW, hH, m0, a1, a2, a3, a4 => by rw [agn]; dsimp only; omega
  | k + 1, i, u, m, hW, hH, m0, a1, a2, a3, a4 => by
    have nr := box_near (q := nextC born stay u.P) (R := u.r - 1) (D := u.d - 1) (m := m) (by show ((u.P.W + 2 : Nat) : Int) ≤ 102; omega) (by show ((u.P.H + 2 : Nat) : Int) ≤ 102; omega) (by omega) (by omega) (by omega) (by omega) m0
    rw [show boxG (nextC born stay u.P) (u.r - 1) (u.d - 1) = nextG born stay u from rfl] at nr
    rw [agn]
    by_cases big : 100 < (nextG born stay u).P.W ∨ 100 < (nextG born stay u).P.H
    · rw [if_pos big]; dsimp only; omega
    · rw [if_neg big]
      by_cases sm : sameP (nextG born stay u).P s0.P = true
      · rw [if_pos sm]; dsimp only; push_cast; omega
      · rw [if_neg sm]
        have := agn_near (born := born) (stay := stay) h0 k (i + 1) (nextG born stay u) (m + 102) (by omega) (by omega) (by omega) (by omega) (by omega) (by omega) (by omega)
        push_cast
        omega
theorem agA_near {born stay : Nat} {p : Pat} (hx : ∀ k, 0 ≤ p.xs.getD k 0 ∧ p.xs.getD k 0 ≤ 1) (hW : p.W ≤ 100) (hH : p.H ≤ 100) : -10000 ≤ (agA born stay (firstG p) 16).r ∧ (agA born stay (firstG p) 16).r ≤ 10000 ∧ -10000 ≤ (agA born stay (firstG p) 16).d ∧ (agA born stay (firstG p) 16).d ≤ 10000 := by
  obtain ⟨f1, f2, f3, f4⟩ := first_ok (p := p) hx hW hH
  unfold agA
  split
  · dsimp only; omega
  · have := agn_near (born := born) (stay := stay) f4 16 0 (firstG p) 200 f2 f3 (by omega) (by omega) (by omega) (by omega) (by omega)
    omega
theorem sq_near {x : Int} (h1 : -10000 ≤ x) (h2 : x ≤ 10000) : 0 ≤ x * x ∧ x * x ≤ 100000000 := by
  rcases Int.le_total 0 x with h | h
  · exact ⟨Int.mul_nonneg h h, Int.le_trans (Int.mul_le_mul h2 h2 h (by omega)) (by omega)⟩
  · have e : x * x = (-x) * (-x) := by rw [Int.neg_mul_neg]
    rw [e]
    exact ⟨Int.mul_nonneg (by omega) (by omega), Int.le_trans (Int.mul_le_mul (show -x ≤ 10000 by omega) (show -x ≤ 10000 by omega) (by omega) (by omega)) (by omega)⟩
end Go.Proofs.YtlpdobfjgpedaaaDoor

namespace Go.Proofs.YtlpdobfjgpedaaaDoor
open Go.RowKit
set_option linter.unusedVariables false
theorem errSameC_any (s : Nat) (w : World) (hg : Handle w) : Calls Tryd.prog 9 #[errOf s, .int .i64 (s : Int)] w fun e w' => e = .returned (.bool true) ∧ Below w.heap.size w w' := by
  by_cases h : s = 0
  · subst h
    refine (error_nil 0 w).mono ?_
    rintro e w' ⟨rfl, rfl⟩
    exact ⟨rfl, Below.refl _ _⟩
  · have := error_errno (s : Int) (s : Int) w hg
    unfold errOf
    rw [if_neg h]
    refine this.mono ?_
    rintro e w' ⟨rfl, b⟩
    exact ⟨by simp, b⟩
end Go.Proofs.YtlpdobfjgpedaaaDoor

namespace Go.Proofs.YtlpdobfjgpedaaaDoor
open Go.ChangeShapes Go.WideShapes Go.ChangeAt Go.RowKit
set_option linter.unusedVariables false

theorem tzAt : Tryd.prog.globalNamed "math/bits.deBruijn64tab" = some 1 := by kernel_rfl
theorem tz_of_laid {W : World} {l : List (String × DataW Unit)} (he : (l.filter fun x => x.1 == "math/bits.deBruijn64tab") = [("math/bits.deBruijn64tab", Lib.tabData .u8 (Lib.deBruijn64tab.map fun (x : Nat) => (x : Int)))])
    (h : laidMet Tryd.prog l W) : TzTab W := by
  have h1 := h.filter fun x => x.1 == "math/bits.deBruijn64tab"
  rw [he] at h1
  have h2 := Lib.tabIs_of_head tzAt (show (Tryd.prog.globals[1]?).map (·.type) = some 154 by kernel_rfl) Tryd.underlying154 Tryd.underlying5 (by kernel_rfl) (by kernel_rfl) h1
  intro j hj
  have hl : Lib.deBruijn64tab.length = 64 := by decide
  have h3 := h2.cell tzAt j (by rw [List.length_map, hl]; exact hj)
  rw [h3]
  have hj' : j < Lib.deBruijn64tab.length := by rw [hl]; exact hj
  simp [List.getD, hj']
end Go.Proofs.YtlpdobfjgpedaaaDoor

namespace Go.Proofs.YtlpdobfjgpedaaaDoor
open Go.ChangeShapes Go.WideShapes Go.ChangeAt Go.RowKit
open Go.ChangeMaps (setBlock shut_map_nil open_string shut_string keptBut_setBlock frozen?_setBlock heap_setBlock_same)
set_option linter.unusedVariables false

theorem laidOutP : laidOutB Tryd.prog = true := by kernel_rfl
theorem ownP : ownKnob Tryd.prog.godebug = none := by kernel_rfl
theorem errorTypeAtP : Tryd.prog.globalNamed "errors.errorType" = some 0 := by kernel_rfl
theorem rtypeAtP : (Tryd.prog.cutTypes.find? (·.1 == "internal/reflectlite.rtype")).map (·.2) = some 157 := by kernel_rfl
theorem oneRowP : ((List.range 219).filter fun t => Tryd.prog.rowNamed t [101, 114, 114, 111, 114]) = [31] := by kernel_rfl
theorem typesSizeP : Tryd.prog.types.size = 219 := by kernel_rfl

/-- What the condition on the listed variable gives a walk: its one cell. -/
theorem handle_laid {W : World} (h : handlesMet Tryd.prog [("errors.errorType", Rows.laid_errors_errorType)] W) : Handle W := by
  obtain ⟨name, u, ty, e1, e2, e3, e4, e5⟩ := h _ (List.mem_singleton.2 rfl)
  have en : name = [101, 114, 114, 111, 114] := (Option.some.inj e1).symm
  subst en
  obtain rfl := Option.some.inj (rtypeAtP.symm.trans e2)
  have hm : ty ∈ (List.range 219).filter fun t => Tryd.prog.rowNamed t [101, 114, 114, 111, 114] := List.mem_filter.2 ⟨List.mem_range.2 (by rw [← typesSizeP]; exact e3), e4⟩
  rw [oneRowP] at hm
  obtain rfl := List.mem_singleton.1 hm
  have hh : typeHandle Tryd.prog 31 = .pointer (some ⟨2, 31, none⟩) := by kernel_rfl
  rw [hh] at e5
  simpa [Handle] using World.var?_cell errorTypeAtP e5 0

/-- The variable's cell laid. -/
def layBlockP (o : Obj) : Obj := match o with
  | .cells _ t frozen => .cells #[.iface 157 (.agg #[.pointer (some ⟨2, 31, none⟩)])] t frozen
  | o => o
def layWorldP (w : World) : World := { w with heap := w.heap.modify 0 layBlockP }

/-- A list of ints as it is read. -/
theorem ints_arg {H : Type} {enc : TypeId × Value → H} {W : World} {fuel : Nat} {cs : List Value} {x : DataW H × List MemPlace}
    (h : DataW.trod enc Tryd.prog W 0 (fun _ => true) true fuel 22 cs = some x) :
    ∃ (xs : List Int) (a : Option Addr) (c : Nat), cs = [.slice a xs.length c] ∧ ArgP W xs a xs.length c ∧ xs.length ≤ c ∧ c ≤ maxLen := by
  have q3 : Tryd.prog.cellsOf 3 = 1 := by kernel_rfl
  rcases open_ints Tryd.underlying22 Tryd.underlying3 q3 h with ⟨rfl, -⟩ | ⟨a, len, cap, zs, rfl, hb, hlc, hcm, hzl, -, hcell, hwf⟩
  · exact ⟨[], none, 0, rfl, ⟨rfl, by simp, fun k hk => absurd hk (by simp)⟩, by simp, by simp⟩
  · simp only [if_true] at hzl
    have hl : (zs.take len).length = len := by simp; omega
    refine ⟨zs.take len, some a, cap, by rw [hl], ⟨rfl, by omega, fun k hk => ?_⟩, by omega, hcm⟩
    have hk' : k < len ∧ k < zs.length := by simp only [List.length_take] at hk; omega
    have hc0 := hcell 0 (by omega)
    have hck := hcell k hk'.2
    obtain ⟨g, off, sp⟩ := a
    have hsp : sp = none := by
      cases sp with
      | none => rfl
      | some q =>
        exfalso
        simp [Addr.add, World.cell?] at hc0
        split at hc0 <;> simp at hc0
    subst hsp
    have ea : (⟨g, off, none⟩ : Addr).add k = ⟨g, off + k, none⟩ := by
      unfold Addr.add
      split
      · rename_i hz; subst hz; rfl
      · rfl
    rw [ea] at hck
    refine ⟨g, off, rfl, ?_, ?_⟩
    · rcases Nat.lt_or_ge g W.heap.size with q | q
      · exact q
      · simp [World.cell?, Array.getElem?_eq_none q] at hck
    · rw [hck]
      simp [List.getD, hk'.2]

set_option maxRecDepth 100000 in
/-- A pattern that came in. -/
theorem open_pattern {H : Type} {enc : TypeId × Value → H} {W : World} {base : Nat} {v : Value} {d : DataW H} {p : List MemPlace}
    (hv : Value.okWide Tryd.prog W .any base 26 v) (h : DataW.Trod enc Tryd.prog W 0 (fun _ => true) true 26 v d p) :
    ∃ (w h : Int) (xs : List Int) (a : Option Addr) (c : Nat), v = .agg #[.int .i64 w, .int .i64 h, .slice a xs.length c] ∧ ArgP W xs a xs.length c ∧ xs.length ≤ c ∧ c ≤ maxLen := by
  obtain ⟨cs, rfl, hsz⟩ := okWide_struct Tryd.underlying26 hv
  obtain ⟨fuel, h⟩ := h
  obtain ⟨xs, m, _, hx, hl, hlen, hf⟩ := DataW.trod_struct Tryd.underlying26 h
  have f0 := hf 0 _ rfl
  have f1 := hf 1 _ rfl
  have f2 := hf 2 _ rfl
  clear hf hx h hv hl
  have q3 : Tryd.prog.cellsOf 3 = 1 := by kernel_rfl
  have k22 : Tryd.prog.cellsOf 22 = 1 := by kernel_rfl
  rw [show Tryd.prog.cellsOf 26 = 3 by kernel_rfl] at hsz
  obtain ⟨cl⟩ := cs
  match cl, hsz with
  | [c0, c1, c2], _ =>
  match xs, hlen with
  | [y0, y1, y2], _ =>
  simp [Value.cells, q3, k22] at f0 f1 f2
  obtain ⟨k0, e0, -, w0⟩ := DataW.trod_int Tryd.underlying3 f0
  obtain ⟨k1, e1, -, w1⟩ := DataW.trod_int Tryd.underlying3 f1
  obtain ⟨zs, a, c, e2, ha, h1, h2⟩ := ints_arg f2
  simp only [List.cons.injEq, and_true] at e0 e1 e2
  subst e0 e1 e2
  exact ⟨k0, k1, zs, a, c, rfl, ha, h1, h2⟩

set_option maxRecDepth 100000 in
/-- A list of ints that came in. -/
theorem open_list {H : Type} {enc : TypeId × Value → H} {W : World} {base : Nat} {v : Value} {d : DataW H} {p : List MemPlace}
    (hv : Value.okWide Tryd.prog W .any base 22 v) (h : DataW.Trod enc Tryd.prog W 0 (fun _ => true) true 22 v d p) :
    ∃ (xs : List Int) (a : Option Addr) (c : Nat), v = .slice a xs.length c ∧ ArgP W xs a xs.length c ∧ xs.length ≤ c ∧ c ≤ maxLen := by
  obtain ⟨a0, n0, c0, rfl⟩ := okWide_slice Tryd.underlying22 hv
  obtain ⟨fuel, h⟩ := h
  obtain ⟨xs, a, c, e, ha, h1, h2⟩ := ints_arg h
  simp [Value.cells] at e
  obtain ⟨rfl, rfl, rfl⟩ := e
  exact ⟨xs, _, _, rfl, ha, h1, h2⟩
end Go.Proofs.YtlpdobfjgpedaaaDoor

