/-
  What the last text of this claim leans on, part 20: Lt1, Lt2.
-/
import Derived.Test.YtjngjnkecnnmeaaJt15
import Derived.Test.YtjngjnkecnnmeaaJt17
import Derived.Test.YtjngjnkecnnmeaaJt19
import Derived.Maps.AppendAt
namespace Go.Proofs.Ytjngjnkecnnmeaa
open Go.RowKit
set_option linter.unusedVariables false

theorem Tab.argT {w : World} {v : Value} {xs : List Int} (h : Tab w v xs) (hm : xs.length ≤ maxLen) : ∃ a c, v = .slice a xs.length c ∧ ArgP w xs a xs.length c := by
  rcases h with ⟨h1, h2⟩ | ⟨g, cap, h1, h2, h3⟩
  · subst h1
    exact ⟨none, 0, h2, rfl, hm, fun k hk => by simp at hk⟩
  · exact ⟨some ⟨g, 0, none⟩, cap, h1, rfl, hm, fun k hk => ⟨g, 0, rfl, h2, by rw [Nat.zero_add]; exact h3 k hk⟩⟩
theorem moved_at (b : Int) (n : Nat) (i : Nat) (hn : 0 < n) (hi : i < n) : -(n : Int) < b.tmod n ∧ b.tmod n < n ∧ ((i : Int) + b.tmod n + n) % n = ((i : Int) + b) % n := by
  have h1 := Int.tmod_lt_of_pos b (show (0 : Int) < n by omega)
  have h2 : -(n : Int) < b.tmod n := by
    have := Int.tmod_lt_of_pos (-b) (show (0 : Int) < n by omega)
    rw [Int.neg_tmod] at this
    omega
  have h3 := Int.tmod_add_mul_tdiv b (n : Int)
  refine ⟨h2, h1, ?_⟩
  rw [show (i : Int) + b = ((i : Int) + b.tmod n + n) + (n : Int) * (b.tdiv n - 1) by rw [Int.mul_sub]; omega, Int.add_mul_emod_self_left]
theorem ownsRow_keepT {w w' : World} {base : Nat} {e : TypeId} {v : Value} {n : Nat} {xs : List Value} (h : w.ownsRow base e 1 v n xs) (hb : ∀ k, base ≤ k → k < w.heap.size → w'.heap[k]? = w.heap[k]?) : w'.ownsRow base e 1 v n xs := by
  refine ⟨h.1, ?_⟩
  rcases h.2 with h0 | ⟨g, cap, cur, hv, hg, hh, rest⟩
  · exact Or.inl h0
  · exact Or.inr ⟨g, cap, cur, hv, hg, (hb g hg (Array.getElem?_eq_some_iff.1 hh).1).trans hh, rest⟩
theorem ownsRow_lenT {w : World} {base : Nat} {e : TypeId} {v : Value} {n : Nat} {xs : List Value} (h : w.ownsRow base e 1 v n xs) : ∃ a c, v = .slice a n c := by
  rcases h.2 with ⟨h0, h1⟩ | ⟨g, cap, cur, hv, -⟩
  · subst h0 h1; exact ⟨none, 0, rfl⟩
  · exact ⟨_, cap, hv⟩
theorem grown_base {w0 wr w' : World} {v : Value} {n : Nat} {xs : List Value} {x : Int} (ho : wr.ownsRow w0.heap.size 3 1 v n xs) (hb : Below w0.heap.size w0 wr) (hg : (wr.alloc (.cells #[.int .i64 x] 3)).grownBy w' v.ownBlock) : Below w0.heap.size w0 w' := by
  have hz := hb.size
  have hsz : wr.heap.size + 1 ≤ w'.heap.size := by have := hg.size; rw [World.size_alloc] at this; exact this
  refine hb.trans ⟨hg.os, hg.tape, hg.output, by omega, fun k hk => ?_⟩
  rw [hg.block k (by rw [World.size_alloc]; omega) (fun e => by have := ownsRow_block ho k e.symm; omega)]
  exact Below.heap_alloc _ _ _ (by omega)
theorem take_nextT {xs : List Int} {i : Nat} (h : i < xs.length) {x : Int} (hx : xs.getD i 0 = x) : xs.take (i + 1) = xs.take i ++ [x] := by
  rw [List.take_succ_eq_append_getElem h, ← hx]
  simp [List.getD, h]
/-- A list that is answered. -/
def ListRefT (xs : List Int) (w : World) (e : Ending) (w' : World) : Prop :=
  ∃ v, e = .returned v ∧ Tab w' v xs ∧ Below w.heap.size w w'

set_option maxRecDepth 100000 in
set_option maxHeartbeats 3200000 in
theorem moved_any (ws : List Int) (wa : Option Addr) (wc : Nat) (b : Int) (w : World) (hW : ArgP w ws wa ws.length wc) (h0 : 0 < ws.length) (hl : ws.length ≤ 1000) :
    Calls Try.prog 7 #[.slice wa ws.length wc, .int .i64 b] w (ListRefT (movedL ws b) w) := by
  obtain ⟨i0, hi, hz0, hz1, hz2⟩ := info_parts info_int
  obtain ⟨n, hn⟩ : ∃ n, ws.length = n := ⟨_, rfl⟩
  have HN := hide' hn
  rw [hn] at hW h0 hl ⊢
  have n0 : ((n : Int) == 0) = false := by rw [beq_eq_false_iff_ne]; omega
  have AW := hide' hW
  obtain ⟨t, ht⟩ : ∃ t, b.tmod (n : Int) = t := ⟨_, rfl⟩
  have TM := hide' (fun i (hi : i < n) => moved_at b n i h0 hi)
  have t1 : -(n : Int) < t := by rw [← ht]; exact (TM.out 0 h0).1
  have t2 : t < (n : Int) := by rw [← ht]; exact (TM.out 0 h0).2.1
  obtain ⟨out, hout⟩ : ∃ out, movedL ws b = out := ⟨_, rfl⟩
  have OUT := hide' hout
  have OL := hide' (show out.length = n by rw [← hout, movedL_length, hn])
  rw [hout]
  clear hW hn hout
  go_enter Try.func7, Try.ntmps7
  go_wp2
  go_loopw [5, 7] (fun ov iv wr => ∃ i : Nat, iv = .int .i64 (i : Int) ∧ i ≤ n ∧ wr.ownsRow w.heap.size 3 1 ov (out.take i).length ((out.take i).map fun x => .int .i64 x) ∧ Below w.heap.size w wr) (fun _ iv _ => n - (intOf iv).toNat)
  case atStart => exact ⟨0, rfl, by omega, ⟨by simp, Or.inl ⟨rfl, by simp⟩⟩, Below.refl _ _⟩
  case round =>
    obtain ⟨i, rfl, hi', ow, bl⟩ := hrel
    have hle : (out.take i).length = i := by rw [List.length_take]; have := OL.out; omega
    have HLE := hide' hle
    obtain ⟨sa, sc, e0⟩ := ownsRow_lenT ow
    rw [hle] at e0
    subst e0
    have OW := hide' ow
    have BL := hide' bl
    have sz := bl.size
    clear ow bl hle
    by_cases d : (i : Int) < (n : Int)
    · obtain ⟨r, hr⟩ : ∃ r : Nat, ((i : Int) + t + (n : Int)) % (n : Int) = (r : Int) := ⟨(((i : Int) + t + (n : Int)) % (n : Int)).toNat, by have := Int.emod_nonneg ((i : Int) + t + (n : Int)) (show (n : Int) ≠ 0 by omega); omega⟩
      have hrl : r < n := by have := Int.emod_lt_of_pos ((i : Int) + t + (n : Int)) (show (0 : Int) < (n : Int) by omega); omega
      have p0 : 0 ≤ (i : Int) + t + (n : Int) := by omega
      have q1 : ((i : Int) + t + (n : Int)).tmod (n : Int) = (r : Int) := by rw [Int.tmod_eq_emod_of_nonneg p0]; exact hr
      obtain ⟨g, off, rfl, hc⟩ := (AW.out.below BL.out).at (k := r) hrl
      obtain ⟨x, hx⟩ : ∃ x, ws.getD r 0 = x := ⟨_, rfl⟩
      rw [hx] at hc
      have TN := hide' (take_nextT (xs := out) (i := i) (x := x) (by have := OL.out; omega) (by
        rw [← OUT.out]
        have hh := (TM.out i (by omega)).2.2
        rw [ht, hr] at hh
        have hi2 : i < ws.length := by rw [HN.out]; omega
        rw [show (movedL ws b).getD i 0 = rat ws ((i : Int) + b) by simp [movedL, List.getD, hi2]]
        unfold rat
        rw [HN.out, ← hh, Int.toNat_natCast, hx]))
      clear hx
      go_wp2_with (at_builtin; refine wpList_append_own _ rfl _ _ 26 rfl w.heap.size 3 i0 (.int .i64 0) 1 8 Try.underlying26 hi hz0 hz1 hz2 rfl (by decide) (.slice sa i sc) _ _ rfl (OW.out.alloc _) ⟨wr.heap.size, 0, none⟩ 1 1 [.int .i64 x] rfl rfl (cell_one_new _ _ _) (fun x hx => by simp at hx; subst hx; rfl) (by rw [HLE.out]; unfold maxLen; omega) (by rw [HLE.out]; omega) (by simp; omega) ?_; intro v' w3 hown' hgrow3 hnil3; have O3 := hide' hown'; have B3 := hide' (grown_base OW.out BL.out hgrow3); clear hgrow3 hown' hnil3)
      refine ⟨⟨i + 1, by go_num, by omega, ?_, B3.out⟩, by simp [intOf]; omega⟩
      have h := O3.out
      rw [TN.out]
      simpa using h
    · have TK := hide' (show out.take i = out by rw [show i = out.length by have := OL.out; omega, List.take_length])
      go_wp2
      go_ret
      have h := OW.out
      rw [TK.out] at h
      exact ⟨_, rfl, ownsRow_tab h, BL.out⟩

theorem fact_line : LineOk 2 0 [1, 0] := ⟨by omega, by omega, by omega, rfl, by simp, fun x hx => by simp at hx; omega⟩
theorem fact_step (g g' : Nat) (w : World) (hT : Cel w g [1, 0]) (hW : Cel w g' [0, 1]) :
    Calls Try.prog 6 #[.agg #[.int .i64 2, .int .i64 0, .int .i64 0, .int .i64 2, .int .i64 0, .slice (some ⟨g, 0, none⟩) 2 2, .string ⟨#[]⟩], .slice (some ⟨g', 0, none⟩) 2 2] w (ListPost [1, 0] w) := by
  have h := lineStep_ok 2 0 [1, 0] (some ⟨g, 0, none⟩) 2 2 [0, 1] (some ⟨g', 0, none⟩) 2 w fact_line (hT.argP rfl (by simp [maxLen])) (hW.argP rfl (by simp [maxLen])) (wordE_ok (by simp) (fun x hx => by simp at hx; omega))
  have e : stepL ((2 : Nat) : Int) 0 [1, 0] [0, 1] = [1, 0] := by decide
  rw [e] at h
  exact h
/-- Two lists that are the same. -/
theorem Ints_bothT (xs : List Int) (a b : Option Addr) (n c m d : Nat) (w : World) (hA : ArgP w xs a n c) (hB : ArgP w xs b m d) :
    Calls Try.prog 8 #[.slice a n c, .slice b m d] w fun e w' => e = .returned (.bool true) ∧ Below w.heap.size w w' :=
  (Ints_any xs xs a b n c m d w hA hB).mono fun e w' ⟨h1, q, h2⟩ => ⟨by rw [h1]; simp, by rw [h2]; exact below_drewN (Below.refl _ _) q⟩
end Go.Proofs.Ytjngjnkecnnmeaa

namespace Go.Proofs.Ytjngjnkecnnmeaa
open Go.RowKit
set_option linter.unusedVariables false

theorem cell_ltT {w : World} {p o : Nat} {v : Value} (h : w.cell? ⟨p, o, none⟩ = some v) : p < w.heap.size := by
  rcases Nat.lt_or_ge p w.heap.size with k | k
  · exact k
  · simp [World.cell?, Array.getElem?_eq_none k] at h
theorem cellOT {w : World} {p k j : Nat} {u v : Value} (h : w.cell? ⟨p, k, none⟩ = some v) (hj : j ≠ k) : (w.setCell ⟨p, j, none⟩ u).cell? ⟨p, k, none⟩ = some v :=
  (World.cell?_setCell_other _ ⟨p, j, none⟩ ⟨p, k, none⟩ _ (fun q => hj (congrArg Addr.off q))).trans h
theorem seven_heapT (w : World) (p q : Nat) (a b c d e f g : Value) (h : q ≠ p) : (((((((w.setCell ⟨p, 0, none⟩ a).setCell ⟨p, 1, none⟩ b).setCell ⟨p, 2, none⟩ c).setCell ⟨p, 3, none⟩ d).setCell ⟨p, 4, none⟩ e).setCell ⟨p, 5, none⟩ f).setCell ⟨p, 6, none⟩ g).heap[q]? = w.heap[q]? :=
  ((((((Below.heap_setCell _ _ _ _ h).trans (Below.heap_setCell _ _ _ _ h)).trans (Below.heap_setCell _ _ _ _ h)).trans (Below.heap_setCell _ _ _ _ h)).trans (Below.heap_setCell _ _ _ _ h)).trans (Below.heap_setCell _ _ _ _ h)).trans (Below.heap_setCell _ _ _ _ h)
/-- Seven values in a box. -/
structure S7 (p : Nat) (v0 v1 v2 v3 v4 v5 v6 : Value) (w : World) : Prop where
  c0 : w.cell? ⟨p, 0, none⟩ = some v0
  c1 : w.cell? ⟨p, 1, none⟩ = some v1
  c2 : w.cell? ⟨p, 2, none⟩ = some v2
  c3 : w.cell? ⟨p, 3, none⟩ = some v3
  c4 : w.cell? ⟨p, 4, none⟩ = some v4
  c5 : w.cell? ⟨p, 5, none⟩ = some v5
  c6 : w.cell? ⟨p, 6, none⟩ = some v6
  fz : ∀ k, w.frozen? ⟨p, k, none⟩ = false
theorem S7.lt {p : Nat} {v0 v1 v2 v3 v4 v5 v6 : Value} {w : World} (h : S7 p v0 v1 v2 v3 v4 v5 v6 w) : p < w.heap.size := cell_ltT h.c0
theorem S7.block {p : Nat} {v0 v1 v2 v3 v4 v5 v6 : Value} {w w' : World} (h : S7 p v0 v1 v2 v3 v4 v5 v6 w) (e : w'.heap[p]? = w.heap[p]?) : S7 p v0 v1 v2 v3 v4 v5 v6 w' :=
  ⟨(World.cell?_of_block (w := w) (a := ⟨p, 0, none⟩) e).trans h.c0, (World.cell?_of_block (w := w) (a := ⟨p, 1, none⟩) e).trans h.c1, (World.cell?_of_block (w := w) (a := ⟨p, 2, none⟩) e).trans h.c2, (World.cell?_of_block (w := w) (a := ⟨p, 3, none⟩) e).trans h.c3, (World.cell?_of_block (w := w) (a := ⟨p, 4, none⟩) e).trans h.c4, (World.cell?_of_block (w := w) (a := ⟨p, 5, none⟩) e).trans h.c5, (World.cell?_of_block (w := w) (a := ⟨p, 6, none⟩) e).trans h.c6, fun k => (World.frozen?_of_block (w := w) (a := ⟨p, k, none⟩) e).trans (h.fz k)⟩
theorem S7.next {p : Nat} {v0 v1 v2 v3 v4 v5 v6 : Value} {w w' : World} (h : S7 p v0 v1 v2 v3 v4 v5 v6 w) (hb : Below w.heap.size w w') : S7 p v0 v1 v2 v3 v4 v5 v6 w' := h.block (hb.block p h.lt)
theorem S7.alloc {p : Nat} {v0 v1 v2 v3 v4 v5 v6 : Value} {w : World} (h : S7 p v0 v1 v2 v3 v4 v5 v6 w) (o : Obj) : S7 p v0 v1 v2 v3 v4 v5 v6 (w.alloc o) := h.block (Below.heap_alloc _ _ _ h.lt)
theorem S7.new (w : World) (v0 v1 v2 v3 v4 v5 v6 : Value) (t : TypeId) : S7 w.heap.size v0 v1 v2 v3 v4 v5 v6 (w.alloc (.cells #[v0, v1, v2, v3, v4, v5, v6] t)) :=
  ⟨by rw [World.cell?_alloc_at _ _ _ _ rfl]; rfl, by rw [World.cell?_alloc_at _ _ _ _ rfl]; rfl, by rw [World.cell?_alloc_at _ _ _ _ rfl]; rfl, by rw [World.cell?_alloc_at _ _ _ _ rfl]; rfl, by rw [World.cell?_alloc_at _ _ _ _ rfl]; rfl, by rw [World.cell?_alloc_at _ _ _ _ rfl]; rfl, by rw [World.cell?_alloc_at _ _ _ _ rfl]; rfl, fun k => by simp⟩
theorem S7.keep {p q : Nat} {v0 v1 v2 v3 v4 v5 v6 : Value} {w : World} (h : S7 p v0 v1 v2 v3 v4 v5 v6 w) (hq : p ≠ q) (u0 u1 u2 u3 u4 u5 u6 : Value) : S7 p v0 v1 v2 v3 v4 v5 v6 ((((((((w.setCell ⟨q, 0, none⟩ u0).setCell ⟨q, 1, none⟩ u1).setCell ⟨q, 2, none⟩ u2).setCell ⟨q, 3, none⟩ u3).setCell ⟨q, 4, none⟩ u4).setCell ⟨q, 5, none⟩ u5).setCell ⟨q, 6, none⟩ u6)) := h.block (seven_heapT w q p _ _ _ _ _ _ _ hq)
theorem S7.store {p : Nat} {v0 v1 v2 v3 v4 v5 v6 : Value} {w : World} (h : S7 p v0 v1 v2 v3 v4 v5 v6 w) (u0 u1 u2 u3 u4 u5 u6 : Value) : S7 p u0 u1 u2 u3 u4 u5 u6 ((((((((w.setCell ⟨p, 0, none⟩ u0).setCell ⟨p, 1, none⟩ u1).setCell ⟨p, 2, none⟩ u2).setCell ⟨p, 3, none⟩ u3).setCell ⟨p, 4, none⟩ u4).setCell ⟨p, 5, none⟩ u5).setCell ⟨p, 6, none⟩ u6)) := by
  have s0 : ∀ (w : World) (k : Nat) (v u : Value), w.cell? ⟨p, k, none⟩ = some v → (w.setCell ⟨p, k, none⟩ u).cell? ⟨p, k, none⟩ = some u := fun w k v u h => World.cell?_setCell_same _ _ _ h
  refine ⟨?_, ?_, ?_, ?_, ?_, ?_, ?_, fun k => by simp only [World.frozen?_setCell]; exact h.fz k⟩
  · exact cellOT (cellOT (cellOT (cellOT (cellOT (cellOT (s0 _ _ _ _ (h.c0)) (by omega)) (by omega)) (by omega)) (by omega)) (by omega)) (by omega)
  · exact cellOT (cellOT (cellOT (cellOT (cellOT (s0 _ _ _ _ (cellOT (h.c1) (by omega))) (by omega)) (by omega)) (by omega)) (by omega)) (by omega)
  · exact cellOT (cellOT (cellOT (cellOT (s0 _ _ _ _ (cellOT (cellOT (h.c2) (by omega)) (by omega))) (by omega)) (by omega)) (by omega)) (by omega)
  · exact cellOT (cellOT (cellOT (s0 _ _ _ _ (cellOT (cellOT (cellOT (h.c3) (by omega)) (by omega)) (by omega))) (by omega)) (by omega)) (by omega)
  · exact cellOT (cellOT (s0 _ _ _ _ (cellOT (cellOT (cellOT (cellOT (h.c4) (by omega)) (by omega)) (by omega)) (by omega))) (by omega)) (by omega)
  · exact cellOT (s0 _ _ _ _ (cellOT (cellOT (cellOT (cellOT (cellOT (h.c5) (by omega)) (by omega)) (by omega)) (by omega)) (by omega))) (by omega)
  · exact s0 _ _ _ _ (cellOT (cellOT (cellOT (cellOT (cellOT (cellOT (h.c6) (by omega)) (by omega)) (by omega)) (by omega)) (by omega)) (by omega))
theorem getD_ok {S : Int} {xs : List Int} (h : cellsOk S xs) (hx : 0 < xs.length) : 0 ≤ xs.getD 0 0 ∧ xs.getD 0 0 < S := cellsOk_at h hx
theorem made_line (S K : Nat) (F : List Int → Int) (hS : 2 ≤ S) (hS4 : S ≤ 4) (hk : K ≤ 10) (hsz : S ^ (2 * K + 1) ≤ 4096) (hF : ∀ ds, ds.length = 2 * K + 1 → cellsOk S ds → 0 ≤ F ds ∧ F ds < (S : Int)) : LineOk S K (madeL S K F) := by
  refine ⟨hS, hS4, hk, madeL_length S K F, by rw [madeL_length]; exact hsz, fun x hx => ?_⟩
  simp only [madeL, List.mem_map] at hx
  obtain ⟨i, -, rfl⟩ := hx
  exact hF _ (spellL_length _ _ _) (spellL_ok S _ i hS)
theorem compose_line (S Ra Rb : Nat) (Ta Tb : List Int) (hLa : LineOk S Ra Ta) (hLb : LineOk S Rb Tb) (hsz : S ^ (2 * (Ra + Rb) + 1) ≤ 4096) : LineOk S (Ra + Rb) (madeL S (Ra + Rb) fun ds => (applyL S Rb Tb (applyL S Ra Ta ds)).getD 0 0) := by
  have s2 := hLa.s2
  refine made_line S (Ra + Rb) _ s2 hLa.s4 (pow_small s2 hsz) hsz fun ds hl hok => ?_
  exact getD_ok (applyL_ok (by omega) hLb.lenI hLb.ok (applyL_ok (by omega) hLa.lenI hLa.ok hok)) (by rw [applyL_length, applyL_length, hl]; omega)
theorem widen_line (S R K : Nat) (T : List Int) (hL : LineOk S R T) (hk : R ≤ K) (hsz : S ^ (2 * K + 1) ≤ 4096) : LineOk S K (madeL S K fun ds => (applyL S R T ((ds.drop (K - R)).take (2 * R + 1))).getD 0 0) := by
  have s2 := hL.s2
  refine made_line S K _ s2 hL.s4 (pow_small s2 hsz) hsz fun ds hl hok => ?_
  exact getD_ok (applyL_ok (by omega) hL.lenI hL.ok (mid_ok hok _ _)) (by rw [applyL_length]; simp; omega)
theorem fact_tab {w : World} {v : Value} (h : Tab w v [1, 0]) : ∃ g c, v = .slice (some ⟨g, 0, none⟩) 2 c ∧ w.cell? ⟨g, 0, none⟩ = some (.int .i64 1) ∧ w.cell? ⟨g, 1, none⟩ = some (.int .i64 0) := by
  rcases h with ⟨h, -⟩ | ⟨g, cap, e, hg, hc⟩
  · cases h
  · exact ⟨g, cap, e, hc 0 (by simp), hc 1 (by simp)⟩
theorem cel_two (w : World) (a b : Int) (t : TypeId) : Cel (w.alloc (.cells #[.int .i64 a, .int .i64 b] t)) w.heap.size [a, b] := by
  refine ⟨by simp, fun k hk => ?_, fun k => by simp⟩
  rw [World.cell?_alloc_at _ _ _ _ rfl]
  have : k = 0 ∨ k = 1 := by simp at hk; omega
  rcases this with rfl | rfl <;> rfl
end Go.Proofs.Ytjngjnkecnnmeaa

