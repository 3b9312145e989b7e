/-
  What the last text of this claim leans on, part 16: Gk8, Gc7, Gc8, Bki.
-/
import Derived.Test.YtbkllhlapdmlfaaQg15
import Derived.Test.YtbkllhlapdmlfaaQg4
import Derived.Test.YtbkllhlapdmlfaaQg6
import Derived.Deep.CutRange
import Derived.BigRegion
import Derived.Deep.RegionHeld3
namespace Go.Proofs.Ytbkllhlapdmlfaa
open Go.RowKit
set_option linter.unusedVariables false
theorem list_told {xs : List Int} (h : ∀ x ∈ xs, 0 ≤ x) : xs = (List.range xs.length).map fun i => (((xs.getD i 0).toNat : Nat) : Int) := by
  refine List.ext_getElem (by simp) fun i h1 h2 => ?_
  have e : xs.getD i 0 = xs[i] := by simp [List.getD, h1]
  simp only [List.getElem_map, List.getElem_range]
  rw [e]
  have := h xs[i] (List.getElem_mem h1)
  omega
theorem getD_in {xs : List Int} {p : Int → Prop} (h : ∀ x ∈ xs, p x) (h0 : p 0) (i : Nat) : p (xs.getD i 0) := by
  by_cases q : i < xs.length
  · have e : xs.getD i 0 = xs[i] := by simp [List.getD, q]
    rw [e]; exact h _ (List.getElem_mem q)
  · have e : xs.getD i 0 = 0 := by simp [List.getD, q]
    rw [e]; exact h0
/-- What is known of a gas that is right. -/
theorem gasE_zero {K W H : Int} {xs : List Int} (h : gasE K W H xs = 0) : ∃ (Kn Wn Hn : Nat) (f : Nat → Nat), K = (Kn : Int) ∧ W = (Wn : Int) ∧ H = (Hn : Int) ∧ (Kn = 4 ∨ Kn = 6) ∧ (1 ≤ Wn ∧ Wn ≤ 100) ∧ (1 ≤ Hn ∧ Hn ≤ 100) ∧ (Kn = 6 → Hn % 2 = 0) ∧ xs.length = Wn * Hn ∧ xs = ((List.range xs.length).map fun i => (f i : Int)) ∧ ∀ i, f i < 2 ^ Kn := by
  unfold gasE at h
  by_cases h1 : K = 4 ∨ K = 6
  · rw [if_pos h1] at h
    by_cases h2 : (sideG W && sideG H) = true
    · rw [if_pos h2] at h
      simp only [Bool.and_eq_true] at h2
      obtain ⟨Wn, rfl, hW⟩ := sideG_nat h2.1
      obtain ⟨Hn, rfl, hH⟩ := sideG_nat h2.2
      by_cases h3 : K = 6 ∧ (Hn : Int) % 2 ≠ 0
      · rw [if_pos h3] at h; exact absurd h (by omega)
      · rw [if_neg h3] at h
        by_cases h4 : (xs.length : Int) = (Wn : Int) * (Hn : Int)
        · rw [if_pos h4] at h
          by_cases h5 : xs.all (cellG K) = true
          · have h6 : ∀ x ∈ xs, 0 ≤ x ∧ x < limG K := fun x hx => by
              have := List.all_eq_true.1 h5 x hx
              unfold cellG at this
              simpa using this
            refine ⟨K.toNat, Wn, Hn, fun i => (xs.getD i 0).toNat, by omega, rfl, rfl, by omega, hW, hH, by omega, by exact_mod_cast h4, list_told fun x hx => (h6 x hx).1, fun i => ?_⟩
            have h7 := getD_in (p := fun x => 0 ≤ x ∧ x < limG K) h6 (by unfold limG; split <;> omega) i
            rcases h1 with rfl | rfl
            · have e : limG 4 = 16 := rfl
              rw [e] at h7
              show (xs.getD i 0).toNat < 16
              omega
            · have e : limG 6 = 64 := rfl
              rw [e] at h7
              show (xs.getD i 0).toNat < 64
              omega
          · rw [if_neg h5] at h; exact absurd h (by omega)
        · rw [if_neg h4] at h; exact absurd h (by omega)
    · rw [if_neg h2] at h; exact absurd h (by omega)
  · rw [if_neg h1] at h; exact absurd h (by omega)
theorem gasE_ok {K W H : Nat} {f : Nat → Nat} {n : Nat} (hK : K = 4 ∨ K = 6) (hW : 1 ≤ W ∧ W ≤ 100) (hH : 1 ≤ H ∧ H ≤ 100) (he : K = 6 → H % 2 = 0) (hn : n = W * H) (hf : ∀ i, f i < 2 ^ K) : gasE (K : Int) (W : Int) (H : Int) ((List.range n).map fun i => (f i : Int)) = 0 := by
  unfold gasE
  rw [if_pos (by omega), if_pos (by unfold sideG; simp; omega), if_neg (by omega), if_pos (by rw [hn]; simp), if_pos]
  refine List.all_eq_true.2 fun x hx => ?_
  obtain ⟨i, hi, rfl⟩ := List.mem_map.1 hx
  have := hf i
  unfold cellG limG
  rcases hK with rfl | rfl
  · simp at this ⊢; omega
  · simp at this ⊢; omega
theorem runGE_gas {K W H : Int} {xs cs : List Int} {k : Int} (h : runGE K W H xs cs k = 0) : gasE K W H xs = 0 := by
  unfold runGE at h
  by_cases h1 : gasE K W H xs ≠ 0
  · rw [if_pos h1] at h; exact absurd h h1
  · omega
theorem runGE_zero {K W H : Int} {xs cs : List Int} {k : Int} (h : runGE K W H xs cs k = 0) : gasE K W H xs = 0 ∧ (∃ kn : Nat, k = (kn : Int) ∧ kn ≤ 100000) ∧ (K = 6 → 1 ≤ cs.length) ∧ ∃ f : Nat → Nat, cs = ((List.range cs.length).map fun i => (f i : Int)) ∧ ∀ i, f i ≤ 1 := by
  have g0 := runGE_gas h
  unfold runGE at h
  rw [if_neg (by omega)] at h
  by_cases h2 : k < 0 ∨ 100000 < k
  · rw [if_pos h2] at h; exact absurd h (by omega)
  · rw [if_neg h2] at h
    by_cases h3 : cs.all cellB = true
    · rw [if_pos h3] at h
      have h4 : ¬ (K = 6 ∧ cs.length = 0) := fun q => by rw [if_pos q] at h; exact absurd h (by omega)
      have h6 : ∀ x ∈ cs, 0 ≤ x ∧ x ≤ 1 := fun x hx => by
        have := List.all_eq_true.1 h3 x hx
        unfold cellB at this
        simp at this
        omega
      refine ⟨g0, ⟨k.toNat, by omega, by omega⟩, by omega, fun i => (cs.getD i 0).toNat, list_told fun x hx => (h6 x hx).1, fun i => ?_⟩
      have h7 := getD_in (p := fun x => 0 ≤ x ∧ x ≤ 1) h6 (by omega) i
      show (cs.getD i 0).toNat ≤ 1
      omega
    · rw [if_neg h3] at h; exact absurd h (by omega)
/-- Another gas of that kind and those sides may be run as well. -/
theorem runGE_next {K W H : Int} {xs ys cs : List Int} {k : Int} (h : runGE K W H xs cs k = 0) (g : gasE K W H ys = 0) : runGE K W H ys cs k = 0 := by
  have g0 := runGE_gas h
  unfold runGE at h ⊢
  rw [if_neg (by omega)] at h ⊢
  exact h
end Go.Proofs.Ytbkllhlapdmlfaa

namespace Go.Proofs.Ytbkllhlapdmlfaa
open Go.RowKit
set_option linter.unusedVariables false
end Go.Proofs.Ytbkllhlapdmlfaa

namespace Go.Proofs.Ytbkllhlapdmlfaa
open Go.RowKit
set_option linter.unusedVariables false
set_option maxRecDepth 100000 in
set_option maxHeartbeats 3200000 in
theorem gases_same (K W H : Int) (xs : List Int) (a b : Option Addr) (n c m d : Nat) (w : World) (hA : ArgP w xs a n c) (hB : ArgP w xs b m d) :
    Calls Try.prog 10 #[.agg #[.int .i64 K, .int .i64 W, .int .i64 H, .slice a n c], .agg #[.int .i64 K, .int .i64 W, .int .i64 H, .slice b m d]] w fun e w' => e = .returned (.bool true) ∧ Below w.heap.size w w' := by
  have mn : m = n := by rw [hA.len, hB.len]
  subst mn
  obtain ⟨w1, hw1⟩ : ∃ w1, (w.alloc (.cells #[.int .i64 K, .int .i64 W, .int .i64 H, .slice a m c] 24)).alloc (.cells #[.int .i64 K, .int .i64 W, .int .i64 H, .slice b m d] 24) = w1 := ⟨_, rfl⟩
  have BB := hide' (show Below w.heap.size w w1 by rw [← hw1]; exact ((Below.refl _ _).alloc (Nat.le_refl _) _).alloc (by simp) _)
  have g0 : w1.heap[w.heap.size]? = some (.cells #[.int .i64 K, .int .i64 W, .int .i64 H, .slice a m c] 24 (0, 0)) := by rw [← hw1, Below.heap_alloc _ _ _ (by simp)]; exact heap_alloc_new _ _
  have g1 : w1.heap[w.heap.size + 1]? = some (.cells #[.int .i64 K, .int .i64 W, .int .i64 H, .slice b m d] 24 (0, 0)) := by rw [← hw1]; exact heap_atX _ _ _ (by simp)
  have SV := hide' (fun (V : World) (h : V.heap = w1.heap) => show V.cell? ⟨w.heap.size, 3, none⟩ = some (.slice a m c) ∧ V.cell? ⟨w.heap.size + 1, 3, none⟩ = some (.slice b m d) from by
    rw [← h] at g0 g1
    exact ⟨cell_of_row V _ 3 _ _ _ g0, cell_of_row V _ 3 _ _ _ g1⟩)
  have AA := hide' (hA.below BB.out)
  have AB := hide' (hB.below BB.out)
  have c0 := cell_of_row w1 _ 0 _ _ _ g0
  have c1 := cell_of_row w1 _ 1 _ _ _ g0
  have c2 := cell_of_row w1 _ 2 _ _ _ g0
  have c3 := cell_of_row w1 _ 3 _ _ _ g0
  have d0 := cell_of_row w1 _ 0 _ _ _ g1
  have d1 := cell_of_row w1 _ 1 _ _ _ g1
  have d2 := cell_of_row w1 _ 2 _ _ _ g1
  have d3 := cell_of_row w1 _ 3 _ _ _ g1
  simp at c0 c1 c2 c3 d0 d1 d2 d3
  have hmax := hA.max
  unfold maxLen at hmax
  have HL := hide' hA.len
  clear hA hB g0 g1
  go_enter Try.func10, Try.ntmps10
  go_upto_region 1 with fail
  clear hw1
  go_wp2
  clear c0 c1 c2 c3 d0 d1 d2 d3
  go_loopw [5] (fun iv wr => ∃ (i q : Nat), iv = .int .i64 (i : Int) ∧ i ≤ m ∧ wr = w1.drewN q) (fun iv _ => ((m : Int) - intOf iv).toNat)
  case atStart => exact ⟨0, 0, by go_num, by omega, rfl⟩
  case round =>
    obtain ⟨i, q, rfl, hi, rfl⟩ := hrel
    obtain ⟨c3, d3⟩ := SV.out (w1.drewN q) rfl
    by_cases dd : (i : Int) < (m : Int)
    · have il : i < xs.length := by have := HL.out; omega
      obtain ⟨g, off, rfl, hg, hc⟩ := AA.out.cells i il
      obtain ⟨g', off', rfl, hg', hc'⟩ := AB.out.cells i il
      obtain ⟨x, hx⟩ : ∃ x, xs[i] = x := ⟨_, rfl⟩
      rw [hx] at hc hc'
      have e1 : (w1.drewN q).cell? ⟨g, off + i, none⟩ = some (.int .i64 x) := hc
      have e2 : (w1.drewN q).cell? ⟨g', off' + i, none⟩ = some (.int .i64 x) := hc'
      have il' : (i : Int) < (m : Int) := dd
      have i0 : (0 : Int) ≤ (i : Int) := by omega
      clear hx hc hc'
      obtain ⟨V, hV⟩ : ∃ V, w1.drewN q = V := ⟨_, rfl⟩
      rw [hV] at c3 d3 e1 e2 ⊢
      go_upto_region 6 with fail
      go_region_held3 (fun U => U.cell? ⟨w.heap.size, 3, none⟩ = some (.slice (some ⟨g, off, none⟩) m c) ∧ U.cell? ⟨w.heap.size + 1, 3, none⟩ = some (.slice (some ⟨g', off', none⟩) m d) ∧ U.cell? ⟨g, off + i, none⟩ = some (.int .i64 x) ∧ U.cell? ⟨g', off' + i, none⟩ = some (.int .i64 x)) (first | exact ⟨c3, d3, e1, e2⟩ | fail) (first | fail | fail)
      go_wp2
      exact ⟨⟨i + 1, q + 1, by go_num, by omega, by rw [← hV]; rfl⟩, by simp [intOf]; omega⟩
    · go_wp2
      go_ret
      exact ⟨rfl, below_drewN BB.out q⟩
end Go.Proofs.Ytbkllhlapdmlfaa

namespace Go.Proofs.Ytbkllhlapdmlfaa
open Go.RowKit
set_option linter.unusedVariables false
theorem ArgP.keepB {w w' : World} {xs : List Int} {a : Option Addr} {n c : Nat} (h : ArgP w xs a n c) (hk : 0 < xs.length → ∀ g off, a = some ⟨g, off, none⟩ → w'.heap[g]? = w.heap[g]?) : ArgP w' xs a n c :=
  ⟨h.len, h.max, fun k hk' => by
    obtain ⟨g, off, e, hg, hc⟩ := h.cells k hk'
    have b := hk (by omega) g off e
    refine ⟨g, off, e, ?_, (World.cell?_of_block (w := w) (a := ⟨g, off + k, none⟩) b).trans hc⟩
    rcases Nat.lt_or_ge g w'.heap.size with u | u
    · exact u
    · rw [Array.getElem?_eq_none u, Array.getElem?_eq_getElem hg] at b; cases b⟩
end Go.Proofs.Ytbkllhlapdmlfaa

