/-
  What the last text of this claim leans on, part 24: Oj5.
-/
import Derived.Test.YtjjdjdodhedihaaDoorJs23
import Derived.Test.YtjjdjdodhedihaaDoorJs21
namespace Go.Proofs.YtjjdjdodhedihaaDoor
open Go.RowKit
set_option linter.unusedVariables false

theorem runQ_lt {f : Nat → Nat → Nat} {S q0 N : Nat} (h0 : q0 < N) (hf : ∀ c m, f c m < N) : ∀ t e, e ∈ runQ f S q0 t → e.set < N
  | 0, e, h => by simp [runQ] at h; rw [h]; exact h0
  | t + 1, e, h => by
    have ih := runQ_lt (S := S) h0 hf t
    change e ∈ stepQ f S (runQ f S q0 t) t at h
    unfold stepQ at h
    split at h
    · exact ih e h
    · split at h
      · exact ih e h
      · rcases List.mem_append.1 h with h | h
        · exact ih e h
        · simp at h; rw [h]; exact hf _ _
theorem runQ_dist {f : Nat → Nat → Nat} {S q0 : Nat} : ∀ (t i j : Nat) (a b : En), i < j → (runQ f S q0 t)[i]? = some a → (runQ f S q0 t)[j]? = some b → a.set ≠ b.set
  | 0, i, j, a, b, hij, ha, hb => by
    have := (List.getElem?_eq_some_iff.1 hb).1
    simp [runQ] at this
    omega
  | t + 1, i, j, a, b, hij, ha, hb => by
    have ih := runQ_dist (f := f) (S := S) (q0 := q0) t
    change (stepQ f S (runQ f S q0 t) t)[i]? = some a at ha
    change (stepQ f S (runQ f S q0 t) t)[j]? = some b at hb
    unfold stepQ at ha hb
    cases he : (runQ f S q0 t)[t / S]? with
    | none =>
      rw [he] at ha hb
      exact ih i j a b hij ha hb
    | some e =>
      rw [he] at ha hb
      simp only at ha hb
      by_cases hm : f (t % S) e.set ∈ (runQ f S q0 t).map En.set
      · rw [if_pos hm] at ha hb
        exact ih i j a b hij ha hb
      · rw [if_neg hm] at ha hb
        have hjl := (List.getElem?_eq_some_iff.1 hb).1
        simp at hjl
        by_cases c : j < (runQ f S q0 t).length
        · rw [List.getElem?_append_left c] at hb
          rw [List.getElem?_append_left (by omega)] at ha
          exact ih i j a b hij ha hb
        · rw [List.getElem?_append_right (by omega)] at hb
          rw [List.getElem?_append_left (by omega)] at ha
          rw [show j - (runQ f S q0 t).length = 0 by omega] at hb
          simp at hb
          rw [← hb]
          intro q
          exact hm (List.mem_map.2 ⟨a, List.mem_of_getElem? ha, q⟩)
theorem runQ_length {f : Nat → Nat → Nat} {S q0 N : Nat} (h0 : q0 < N) (hf : ∀ c m, f c m < N) (t : Nat) : (runQ f S q0 t).length ≤ N := by
  rcases Nat.lt_or_ge N (runQ f S q0 t).length with c | c
  · exfalso
    obtain ⟨i, j, hij, hj, e⟩ := pigeon N (fun i => ((runQ f S q0 t)[i]?.getD ⟨0, 0, 0, []⟩).set) (fun i hi => by
      have hl : i < (runQ f S q0 t).length := by omega
      rw [List.getElem?_eq_getElem hl]
      exact runQ_lt h0 hf t _ (List.getElem_mem hl))
    have h1 : i < (runQ f S q0 t).length := by omega
    have h2 : j < (runQ f S q0 t).length := by omega
    simp only [List.getElem?_eq_getElem h1, List.getElem?_eq_getElem h2] at e
    exact runQ_dist t i j _ _ hij (List.getElem?_eq_getElem h1) (List.getElem?_eq_getElem h2) e
  · exact c
theorem QOk.wd_le {S : Nat} {Q : List En} (h : QOk S Q) : ∀ (k : Nat) (e : En), Q[k]? = some e → e.wd.length ≤ k := by
  intro k
  induction k using Nat.strongRecOn with
  | ind k ih =>
    intro e he
    rcases Nat.eq_zero_or_pos k with z | z
    · subst z; rw [h.first e he]; simp
    · obtain ⟨a1, _, e', a3, a4⟩ := h.link k e z he
      have := ih e.ah a1 e' a3
      rw [a4, List.length_append]
      simp only [List.length_cons, List.length_nil]
      omega
def enCells (Q : List En) : List Value := Q.flatMap fun e => [.int .i64 (e.set : Int), .int .i64 (e.st : Int), .int .i64 (e.ah : Int)]
theorem enCells_snoc (l : List En) (x : En) : enCells (l ++ [x]) = enCells l ++ [.int .i64 (x.set : Int), .int .i64 (x.st : Int), .int .i64 (x.ah : Int)] := by simp [enCells]
theorem enCells_at : ∀ (l : List En) (i : Nat) (e : En), l[i]? = some e → (enCells l)[i * 3]? = some (.int .i64 (e.set : Int)) ∧ (enCells l)[i * 3 + 1]? = some (.int .i64 (e.st : Int)) ∧ (enCells l)[i * 3 + 2]? = some (.int .i64 (e.ah : Int))
  | [], i, e, h => by simp at h
  | x :: r, 0, e, h => by
    simp at h
    subst h
    exact ⟨rfl, rfl, rfl⟩
  | x :: r, i + 1, e, h => by
    have ih := enCells_at r i e (by simpa using h)
    have : enCells (x :: r) = [.int .i64 (x.set : Int), .int .i64 (x.st : Int), .int .i64 (x.ah : Int)] ++ enCells r := rfl
    rw [this, show (i + 1) * 3 = i * 3 + 3 by omega]
    refine ⟨?_, ?_, ?_⟩
    · rw [List.getElem?_append_right (by simp)]; simpa using ih.1
    · rw [List.getElem?_append_right (by simp), show i * 3 + 3 + 1 - [Value.int .i64 (x.set : Int), .int .i64 (x.st : Int), .int .i64 (x.ah : Int)].length = i * 3 + 1 by simp]; exact ih.2.1
    · rw [List.getElem?_append_right (by simp), show i * 3 + 3 + 2 - [Value.int .i64 (x.set : Int), .int .i64 (x.st : Int), .int .i64 (x.ah : Int)].length = i * 3 + 2 by simp]; exact ih.2.2
theorem owns_qc {w : World} {base : Nat} {v : Value} {Q : List En} (h : w.ownsRow base 121 3 v Q.length (enCells Q)) (h0 : 0 < Q.length) : ∃ g cap, v = .slice (some ⟨g, 0, none⟩) Q.length cap ∧ base ≤ g ∧ Q.length ≤ cap ∧ cap ≤ maxLen ∧ QC w g Q := by
  rcases h.2 with ⟨_, h1⟩ | ⟨g, cap, cur, rfl, hg, hh, hc, hm, hs, ht⟩
  · omega
  · have at_ : ∀ j u, j < Q.length * 3 → (enCells Q)[j]? = some u → w.cell? ⟨g, j, none⟩ = some u := fun j u hj hu => by
      rw [← ht, List.getElem?_take, if_pos hj] at hu
      simp only [World.cell?, hh]
      simpa using hu
    have il : ∀ i e, Q[i]? = some e → i < Q.length := fun i e he => (List.getElem?_eq_some_iff.1 he).1
    exact ⟨g, cap, rfl, hg, hc, hm, (Array.getElem?_eq_some_iff.1 hh).1, fun i e he => at_ _ _ (by have := il i e he; omega) (enCells_at Q i e he).1, fun i e he => at_ _ _ (by have := il i e he; omega) (enCells_at Q i e he).2.1, fun i e he => at_ _ _ (by have := il i e he; omega) (enCells_at Q i e he).2.2⟩
theorem owns_stay {w w' : World} {base size n : Nat} {e : TypeId} {v : Value} {xs : List Value} (h : w.ownsRow base e size v n xs) (hb : ∀ k, v.ownBlock = some k → w'.heap[k]? = w.heap[k]?) : w'.ownsRow base e size v n xs := by
  refine ⟨h.1, ?_⟩
  rcases h.2 with h0 | ⟨g, cap, cur, hv, hg, hh, rest⟩
  · exact Or.inl h0
  · exact Or.inr ⟨g, cap, cur, hv, hg, (hb g (by rw [hv]; rfl)).trans hh, rest⟩
theorem info_reached : (Tryd.prog.info? 121).map (fun i => (i.zero, i.size, i.bytes)) = some (some (.agg #[.int .i64 0, .int .i64 0, .int .i64 0]), 3, 24) := by kernel_rfl
theorem three_new (w : World) (x0 x1 x2 : Value) (t : TypeId) : ∀ j u, [x0, x1, x2][j]? = some u → (w.alloc (.cells #[x0, x1, x2] t)).cell? ((⟨w.heap.size, 0, none⟩ : Addr).add j) = some u := by
  intro j u hj
  have e : (⟨w.heap.size, 0, none⟩ : Addr).add j = ⟨w.heap.size, j, none⟩ := by unfold Addr.add; split <;> simp_all
  rw [e, World.cell?_alloc_at _ _ _ _ rfl]
  simpa using hj
/-- What orphan holds. -/
structure OQ (w wr : World) (S R n : Nat) (T : List Int) (vt : Value) (gl gs B : Nat) (qv : Value) (Q : List En) : Prop where
  gb : GB w.heap.size S R n vt wr
  lt : ∀ c, c < S → wr.cell? ⟨gl, c, none⟩ = some (.slice (some ⟨gl + 1 + c, 0, none⟩) n n)
  ll : gl < wr.heap.size
  lr : ∀ c, c < S → Cel wr (gl + 1 + c) ((List.range n).map fun p => ((leadN S n T c p : Nat) : Int))
  sn : ∀ k, k < 2 ^ n → wr.cell? ⟨gs, k, none⟩ = some (.bool (decide (k ∈ Q.map En.set)))
  sf : ∀ k, wr.frozen? ⟨gs, k, none⟩ = false
  qr : wr.ownsRow B 121 3 qv Q.length (enCells Q)
  bl : Below w.heap.size w wr
  o1 : w.heap.size < gl
  o2 : gl + S < gs
  o3 : gs < B
  o4 : B ≤ wr.heap.size
/-- Blocks below a bound, but one, and the row's own, lie as they lay. -/
theorem OQ.keep {w wr wr' : World} {S R n : Nat} {T : List Int} {vt : Value} {gl gs B : Nat} {qv qv' : Value} {Q Q' : List En} (h : OQ w wr S R n T vt gl gs B qv Q) (hs : wr.heap.size ≤ wr'.heap.size) (hk : ∀ k, k < B → k ≠ gs → wr'.heap[k]? = wr.heap[k]?) (hb : Below w.heap.size w wr') (hq : wr'.ownsRow B 121 3 qv' Q'.length (enCells Q')) (h1 : ∀ k, k < 2 ^ n → wr'.cell? ⟨gs, k, none⟩ = some (.bool (decide (k ∈ Q'.map En.set)))) (h2 : ∀ k, wr'.frozen? ⟨gs, k, none⟩ = false) : OQ w wr' S R n T vt gl gs B qv' Q' := by
  have a1 := h.o1
  have a2 := h.o2
  have a3 := h.o3
  have a4 := h.o4
  exact ⟨h.gb.block (hk _ (by omega) (by omega)), fun c hc => (World.cell?_of_block (w := wr) (a := ⟨gl, c, none⟩) (hk gl (by omega) (by omega))).trans (h.lt c hc), by have := h.ll; omega, fun c hc => (h.lr c hc).block hs (hk _ (by omega) (by omega)), h1, h2, hq, hb, a1, a2, a3, by omega⟩
theorem OQ.below {w wr wr' : World} {S R n : Nat} {T : List Int} {vt : Value} {gl gs B : Nat} {qv : Value} {Q : List En} (h : OQ w wr S R n T vt gl gs B qv Q) (hb : Below wr.heap.size wr wr') : OQ w wr' S R n T vt gl gs B qv Q := by
  have a3 := h.o3
  have a4 := h.o4
  exact h.keep hb.size (fun k hk _ => hb.block k (by omega)) (h.bl.trans (hb.mono h.bl.size)) (h.qr.kept (grown_of_below hb) (Classical.em _)) (fun k hk => (World.cell?_of_block (w := wr) (a := ⟨gs, k, none⟩) (hb.block gs (by omega))).trans (h.sn k hk)) (fun k => (World.frozen?_of_block (w := wr) (a := ⟨gs, k, none⟩) (hb.block gs (by omega))).trans (h.sf k))
/-- One set more. -/
theorem OQ.push {w wr w3 : World} {S R n : Nat} {T : List Int} {vt v' : Value} {gl gs g L cap nq s : Nat} {Q : List En} {x : En} {X : Obj} (h : OQ w wr S R n T vt gl gs (gs + 1) (.slice (some ⟨g, 0, none⟩) L cap) Q) (hx : x.set = s) (hg : gs + 1 ≤ g) (hsn : s < 2 ^ n) (GR : (((wr.drewN nq).setCell ⟨gs, s, none⟩ (.bool true)).alloc X).grownBy w3 (Value.slice (some ⟨g, 0, none⟩) L cap).ownBlock) (ON : w3.ownsRow (gs + 1) 121 3 v' (Q ++ [x]).length (enCells (Q ++ [x]))) : OQ w w3 S R n T vt gl gs (gs + 1) v' (Q ++ [x]) := by
  have a1 := h.o1
  have a2 := h.o2
  have a4 := h.o4
  obtain ⟨W, hW⟩ : ∃ W, (wr.drewN nq).setCell ⟨gs, s, none⟩ (.bool true) = W := ⟨_, rfl⟩
  rw [hW] at GR
  have wz : W.heap.size = wr.heap.size := by rw [← hW, World.size_setCell]; rfl
  have gsz : (W.alloc X).heap.size = wr.heap.size + 1 := by rw [World.size_alloc, wz]
  have hsz : wr.heap.size + 1 ≤ w3.heap.size := by have := GR.size; omega
  have hk : ∀ k, k < gs + 1 → w3.heap[k]? = W.heap[k]? := fun k hk => by
    rw [GR.block k (by omega) (by simp [Value.ownBlock]; omega)]
    exact Below.heap_alloc _ _ _ (by omega)
  have hk2 : ∀ k, k ≠ gs → W.heap[k]? = wr.heap[k]? := fun k hne => by
    rw [← hW, heap_setCell_other _ _ _ _ _ hne]; rfl
  have BW : Below w.heap.size w W := by rw [← hW]; exact (below_drewN h.bl nq).setCell (p := ⟨gs, s, none⟩) (by show w.heap.size ≤ gs; omega) _
  have B3 : Below w.heap.size w w3 := BW.trans ⟨GR.os, GR.tape, GR.output, by omega, fun k hk' => by
    rw [GR.block k (by omega) (by simp [Value.ownBlock]; omega)]
    exact Below.heap_alloc _ _ _ (by omega)⟩
  refine h.keep (by omega) (fun k hk1 hne => (hk k hk1).trans (hk2 k hne)) B3 ON (fun k hkn => ?_) (fun k => ?_)
  · rw [World.cell?_of_block (w := W) (a := ⟨gs, k, none⟩) (hk gs (by omega)), ← hW]
    by_cases e : k = s
    · subst e
      rw [World.cell?_setCell_same _ _ _ (show (wr.drewN nq).cell? ⟨gs, k, none⟩ = _ from h.sn k hkn)]
      simp [hx]
    · rw [World.cell?_setCell_other _ ⟨gs, s, none⟩ ⟨gs, k, none⟩ _ (fun q => e (congrArg Addr.off q).symm), show (wr.drewN nq).cell? ⟨gs, k, none⟩ = _ from h.sn k hkn]
      simp [hx, e]
  · rw [World.frozen?_of_block (w := W) (a := ⟨gs, k, none⟩) (hk gs (by omega)), ← hW, World.frozen?_setCell]
    exact h.sf k
/-- What orphan answers. -/
def OrphanPost (S n : Nat) (T : List Int) (w : World) (e : Ending) (w' : World) : Prop :=
  (∃ wd, OrphanIs (follN S n T) S (2 ^ n - 1) (some wd) ∧ 0 < wd.length ∧ wd.length ≤ 65536 ∧ SpellPost wd w e w') ∨ (OrphanIs (follN S n T) S (2 ^ n - 1) none ∧ e = .returned (.slice none 0 0) ∧ Below w.heap.size w w')

set_option maxRecDepth 100000 in
set_option maxHeartbeats 6400000 in
theorem orphan_any (S R n : Nat) (T : List Int) (ta : Option Addr) (tn tc : Nat) (w : World) (hL : LineOk S R T) (hT : ArgP w T ta tn tc) (hn : S ^ (2 * R) = n) (n16 : n ≤ 16) (hz : TzTab w) :
    Calls Tryd.prog 42 #[.agg #[.int .i64 (S : Int), .int .i64 (2 * (R : Int)), .int .i64 (n : Int), .slice ta tn tc]] w (OrphanPost S n T w) := by
  obtain ⟨w1, hw1⟩ : ∃ w1, w.alloc (.cells #[.int .i64 (S : Int), .int .i64 (2 * (R : Int)), .int .i64 (n : Int), .slice ta tn tc] 79) = w1 := ⟨_, rfl⟩
  have z1 : w1.heap.size = w.heap.size + 1 := by rw [← hw1]; simp
  have BB := hide' (show Below w.heap.size w w1 by rw [← hw1]; exact (Below.refl _ _).alloc (Nat.le_refl _) _)
  have GX := hide' (show GB w.heap.size S R n (.slice ta tn tc) w1 by rw [← hw1]; exact GB.new w S R n _ _)
  have s2 := hL.s2
  have s4 := hL.s4
  have n0 : 0 < n := by rw [← hn]; exact Nat.pow_pos (by omega)
  obtain ⟨N, hN⟩ : ∃ N, 2 ^ n = N := ⟨_, rfl⟩
  have N16 : N ≤ 65536 := by rw [← hN]; exact Nat.le_trans (Nat.pow_le_pow_right (by omega) n16) (by decide)
  have N2 : 2 ≤ N := by rw [← hN]; exact Nat.le_trans (by decide) (Nat.pow_le_pow_right (show 0 < 2 by omega) n0)
  have sh : wrap64 ((2 : Int) ^ n) = (N : Int) := by
    rw [show (2 : Int) ^ n = ((2 ^ n : Nat) : Int) by simp, hN]
    unfold wrap64
    omega
  have HN := hide' hN
  obtain ⟨M, hM0⟩ : ∃ M, N = M + 1 := ⟨N - 1, by omega⟩
  have HM := hide' hM0
  have hM : (N : Int) - 1 = (M : Int) := by omega
  have hM1 : (M : Int) + 1 = (N : Int) := by omega
  clear hM0
  have LE := hide' (fun (W : World) (h : ArgP W T ta tn tc) => leads_any S R n T ta tn tc W hL h hn n16)
  have AT := hide' hT
  have HZ := hide' hz
  have Z1 := hide' z1
  have FW := hide' (fun (c m : Nat) (W : World) (a : Option Addr) (hm : m < 2 ^ n) (h : ArgP W ((List.range n).map fun p => ((leadN S n T c p : Nat) : Int)) a n n) (hz : TzTab W) => follow_any S n c m T a n n W hm n16 h hz)
  have FL := hide' (show ∀ c m, follN S n T c m < N from fun c m => by rw [← hN]; exact follN_lt ..)
  have hmk := run_make_row' (P := Tryd.prog) 90 4 (.bool false) 1 Tryd.underlying90 info_bool rfl .i64 .i64 N (by omega) (by omega)
  obtain ⟨i0, hi0, hz0, hz1, hz2⟩ := info_parts info_reached
  clear hL hT hn hz z1 hN
  obtain ⟨c0, c1, c2, c3⟩ := GX.out
  go_enter Tryd.func42, Tryd.ntmps42
  go_wp2_with fail
  refine (LE.out _ (AT.out.below BB.out)).mono ?_
  unfold LeadsPost
  rintro e w2 ⟨gl, rfl, l1, l2, hgl, b2⟩
  have L1 := hide' l1
  have L2 := hide' l2
  have B2 := hide' b2
  clear c0 c1 c2 c3 hw1 l1 l2 b2
  obtain ⟨c0, c1, c2, c3⟩ := GX.out.next B2.out
  have sc : (w2.alloc (.cells (madeCells #[.bool false] N) 4)).cell? ⟨w2.heap.size, M, none⟩ = some (.bool false) := by
    rw [World.cell?_alloc_at _ _ _ _ rfl, ← Array.getElem?_toList, toList_madeCells_one]
    have := HM.out
    rw [List.getElem?_replicate, if_pos (by omega)]
  have sf : (w2.alloc (.cells (madeCells #[.bool false] N) 4)).frozen? ⟨w2.heap.size, M, none⟩ = false := by simp
  obtain ⟨gs, hgs⟩ : ∃ gs, w2.heap.size = gs := ⟨_, rfl⟩
  rw [hgs] at sc sf
  obtain ⟨F, hF⟩ : ∃ F, follN S n T = F := ⟨_, rfl⟩
  have P0 := hide' (show OQ w ((w2.alloc (.cells ((madeCells #[.bool false] N).setIfInBounds M (.bool true)) 4)).alloc (.cells #[.int .i64 (M : Int), .int .i64 0, .int .i64 0] 121)) S R n T (.slice ta tn tc) gl gs (gs + 1) (.slice (some ⟨gs + 1, 0, none⟩) 1 1) [⟨M, 0, 0, []⟩] from by
    have g1 : gl + S < gs := by
      have := (L2.out (S - 1) (by omega)).lt
      omega
    have b1 : Below w2.heap.size w2 ((w2.alloc (.cells ((madeCells #[.bool false] N).setIfInBounds M (.bool true)) 4)).alloc (.cells #[.int .i64 (M : Int), .int .i64 0, .int .i64 0] 121)) := ((Below.refl _ _).alloc (Nat.le_refl _) _).alloc (by simp) _
    have cc : ∀ k, ((w2.alloc (.cells ((madeCells #[.bool false] N).setIfInBounds M (.bool true)) 4)).alloc (.cells #[.int .i64 (M : Int), .int .i64 0, .int .i64 0] 121)).cell? ⟨gs, k, none⟩ = ((madeCells #[.bool false] N).setIfInBounds M (.bool true))[k]? := fun k => by
      rw [World.cell?_alloc_lt _ _ ⟨gs, k, none⟩ (by simp; omega), World.cell?_alloc_at _ _ _ _ hgs.symm]
    have mc : (madeCells #[.bool false] N).size = N := by rw [← Array.length_toList, toList_madeCells_one]; simp
    refine ⟨(GX.out.next B2.out).next b1, fun c hc => (World.cell?_of_block (w := w2) (a := ⟨gl, c, none⟩) (b1.block gl (by omega))).trans (L1.out c hc), by have := b1.size; omega, fun c hc => (L2.out c hc).below b1, fun k hk => ?_, fun k => ?_, ?_, (BB.out.trans (B2.out.mono BB.out.size)).trans (b1.mono (by have := BB.out.size; have := B2.out.size; omega)), by have := BB.out.size; omega, g1, by omega, by have := b1.size; simp; omega⟩
    · rw [HN.out] at hk
      rw [cc k]
      by_cases e : k = M
      · subst e
        rw [Array.getElem?_setIfInBounds_self]
        simp [mc]
        omega
      · rw [Array.getElem?_setIfInBounds_ne (fun q => e q.symm), ← Array.getElem?_toList, toList_madeCells_one, List.getElem?_replicate, if_pos hk]
        simp [e]
    · rw [World.frozen?_of_block (w := w2.alloc (.cells ((madeCells #[.bool false] N).setIfInBounds M (.bool true)) 4)) (a := ⟨gs, k, none⟩) (Below.heap_alloc _ _ _ (by simp; omega)), ← hgs]
      simp
    · refine ⟨rfl, Or.inr ⟨gs + 1, 1, #[.int .i64 (M : Int), .int .i64 0, .int .i64 0], rfl, Nat.le_refl _, ?_, by simp, by unfold maxLen; decide, rfl, rfl⟩⟩
      have := World.alloc_heap_new (w2.alloc (.cells ((madeCells #[.bool false] N).setIfInBounds M (.bool true)) 4)) (.cells #[.int .i64 (M : Int), .int .i64 0, .int .i64 0] 121)
      rw [World.size_alloc, hgs] at this
      exact this)
  clear c0 c1 c2 c3
  obtain ⟨c0, c1, c2, c3⟩ := GX.out.next B2.out
  go_wp2
  try rw [sh]
  clear sc sf c0 c1 c2 c3 hgs sh
  go_loopw [6, 7] (fun qv av wr => ∃ (a L g cap : Nat) (Q : List En), av = .int .i64 (a : Int) ∧ qv = .slice (some ⟨g, 0, none⟩) L cap ∧ L ≤ 65536 ∧ a ≤ L ∧ Hid (Q = runQ F S M (a * S) ∧ Q.length = L ∧ NoZero Q ∧ OQ w wr S R n T (.slice ta tn tc) gl gs (gs + 1) (.slice (some ⟨g, 0, none⟩) L cap) Q)) (fun _ av _ => 70000 - (intOf av).toNat)
  case atStart => exact ⟨0, 1, gs + 1, 1, [⟨M, 0, 0, []⟩], rfl, rfl, by omega, by omega, hide' ⟨by simp [runQ], rfl, fun e he => by simp at he; subst he; show M ≠ 0; have := HM.out; omega, P0.out⟩⟩
  case round =>
    clear P0
    obtain ⟨a, L, g, cap, Q, rfl, rfl, hL, haL, H⟩ := hrel
    obtain ⟨c0, c1, c2, c3⟩ := H.out.2.2.2.gb
    by_cases d : (a : Int) < (L : Int)
    · go_wp2
      go_loopw [6, 33] (fun qv cv wr => ∃ (c L g cap : Nat) (Q : List En), cv = .int .i64 (c : Int) ∧ qv = .slice (some ⟨g, 0, none⟩) L cap ∧ L ≤ 65536 ∧ a < L ∧ c ≤ S ∧ Hid (Q = runQ F S M (a * S + c) ∧ Q.length = L ∧ NoZero Q ∧ OQ w wr S R n T (.slice ta tn tc) gl gs (gs + 1) (.slice (some ⟨g, 0, none⟩) L cap) Q)) (fun _ cv _ => S - (intOf cv).toNat)
      case atStart => exact ⟨0, L, g, cap, Q, rfl, rfl, hL, by omega, by omega, H⟩
      case round =>
        clear H c0 c1 c2 c3 hL haL d
        obtain ⟨c, L, g, cap, Q, rfl, rfl, hL, haL, hc, H⟩ := hrel
        by_cases dc : (c : Int) < (S : Int)
        · obtain ⟨e, he⟩ : ∃ e, Q[a]? = some e := ⟨_, List.getElem?_eq_getElem (show a < Q.length by rw [H.out.2.1]; exact haL)⟩
          obtain ⟨g', cap', ev, hgB, hLc, hcm, qc⟩ := owns_qc (show wr.ownsRow (gs + 1) 121 3 (.slice (some ⟨g, 0, none⟩) L cap) Q.length (enCells Q) from H.out.2.2.2.qr) (by rw [H.out.2.1]; omega)
          obtain ⟨rfl, rfl⟩ : g = g' ∧ cap = cap' := by injection ev with e1 e2 e3; injection e1 with e1; injection e1 with e1; exact ⟨e1, e3⟩
          clear ev
          have k0 := qc.c0 a e he
          have ml : e.set < N := runQ_lt (f := F) (S := S) (q0 := M) (by have := HM.out; omega) (by rw [← hF]; exact FL.out) _ e (by rw [← H.out.1]; exact List.mem_of_getElem? he)
          have l1 := H.out.2.2.2.lt c (by omega)
          have ll := H.out.2.2.2.ll
          obtain ⟨m, hm⟩ : ∃ m, e.set = m := ⟨_, rfl⟩
          rw [hm] at k0 ml
          have FQ := hide' (fun k => (FW.out c m (wr.drewN k) (some ⟨gl + 1 + c, 0, none⟩) (by rw [HN.out]; exact ml) (((H.out.2.2.2.lr c (by omega)).argP (n := n) (c := n) (by simp) (by unfold maxLen; omega)).below (below_drewN (Below.refl _ _) k)) (HZ.out.below (below_drewN H.out.2.2.2.bl k))).mono (fun e w' (h : e = .returned (.int .i64 ((follN S n T c m : Nat) : Int)) ∧ w' = wr.drewN k) => show e = .returned (.int .i64 ((follN S n T c m : Nat) : Int)) ∧ ∃ q, w' = (wr.drewN k).drewN q from ⟨h.1, 0, h.2⟩))
          have sl : follN S n T c m < N := FL.out c m
          obtain ⟨s, hs⟩ : ∃ s, follN S n T c m = s := ⟨_, rfl⟩
          simp only [hs] at FQ
          rw [hs] at sl
          have s1 := H.out.2.2.2.sn s (by rw [HN.out]; exact sl)
          have s3 := H.out.2.2.2.sf s
          have SEN := hide' (show (follN S n T c e.set) = s by rw [hm]; exact hs)
          have EA := hide' he
          have dv : (a * S + c) / S = a := by rw [Nat.mul_comm, Nat.mul_add_div (by omega), Nat.div_eq_of_lt (by omega)]; rfl
          have md : (a * S + c) % S = c := by rw [Nat.mul_comm, Nat.mul_add_mod, Nat.mod_eq_of_lt (by omega)]
          have NXT := hide' (show runQ F S M (a * S + (c + 1)) = if s ∈ Q.map En.set then Q else Q ++ [⟨s, c, a, e.wd ++ [((c : Nat) : Int)]⟩] by
            rw [← Nat.add_assoc]
            show stepQ F S (runQ F S M (a * S + c)) (a * S + c) = _
            rw [← H.out.1, stepQ, dv, md, he, ← hF]
            simp only [SEN.out])
          have OK0 := hide' (show QOk S (runQ F S M (a * S + (c + 1))) from runQ_ok (by omega) _)
          have ORP := hide' (show s = 0 → OrphanIs F S M (some (e.wd ++ [((c : Nat) : Int)])) from fun h0 => ⟨a * S + c, e, by rw [← H.out.1]; exact H.out.2.2.1, by rw [dv, ← H.out.1]; exact he, by rw [md, ← hF, SEN.out]; exact h0, by rw [md]⟩)
          have LNX := hide' (show (runQ F S M (a * S + (c + 1))).length ≤ N from runQ_length (by have := HM.out; omega) (by rw [← hF]; exact FL.out) _)
          have QW := hide' (show e.wd.length ≤ a from (show QOk S Q by rw [H.out.1]; exact runQ_ok (by omega) _).wd_le a e he)
          clear hm hs he dv md qc
          by_cases hmem : s ∈ Q.map En.set
          · rw [decide_eq_true hmem] at s1
            rw [if_pos hmem] at NXT
            go_wp2_with fail
            go_quiet ((go_at_call 75; exact Calls.quiet_of (FQ.out _)))
            go_wp2
            exact ⟨⟨c + 1, L, g, cap, Q, by go_num, rfl, hL, haL, by omega, hide' ⟨NXT.out.symm, H.out.2.1, H.out.2.2.1, H.out.2.2.2.below (below_drewN (Below.refl _ _) _)⟩⟩, by simp [intOf]; omega⟩
          · rw [decide_eq_false hmem] at s1
            rw [if_neg hmem] at NXT
            have HME := hide' hmem
            clear hmem
            go_wp2_with fail
            go_quiet ((go_at_call 75; exact Calls.quiet_of (FQ.out _)))
            have SB := hide' H.out.2.2.2.o4
            have OW := hide' (show ((wr.drewN nq).setCell ⟨gs, s, none⟩ (.bool true)).ownsRow (gs + 1) 121 3 (.slice (some ⟨g, 0, none⟩) L cap) L (enCells Q) from by
              have h := H.out.2.2.2.qr
              rw [H.out.2.1] at h
              refine owns_stay h fun k hk => ?_
              have : g = k := by simpa [Value.ownBlock] using hk
              rw [heap_setCell_other _ _ _ _ _ (by omega)]; rfl)
            go_upto_region 15 with fail
            obtain ⟨W1, hW1⟩ : ∃ W1, (wr.drewN nq).setCell ⟨gs, s, none⟩ (.bool true) = W1 := ⟨_, rfl⟩
            have WZ := hide' (show gs + 1 ≤ W1.heap.size by rw [← hW1, World.size_setCell]; exact SB.out)
            rw [hW1] at OW ⊢
            have HW1 := hide' hW1
            have QL := hide' H.out.2.1
            have LN : L + 1 ≤ N := by have := LNX.out; rw [NXT.out, List.length_append, QL.out] at this; exact this
            clear hW1
            rcases Nat.eq_zero_or_pos s with sz | sz
            · have sq : ((s : Int) == 0) = true := by rw [sz]; rfl
              have SZ := hide' sz
              clear sz
              go_wp2_with (at_builtin; refine wpList_append_own_at _ rfl _ _ 122 rfl (gs + 1) 121 i0 (.agg #[.int .i64 0, .int .i64 0, .int .i64 0]) 3 24 Tryd.underlying122 hi0 hz0 hz1 hz2 rfl (by decide) _ L (enCells Q) rfl (OW.out.alloc _) ⟨W1.heap.size, 0, none⟩ 1 1 [.int .i64 (s : Int), .int .i64 (c : Int), .int .i64 (a : Int)] rfl rfl (three_new _ _ _ _ _) (by simp [Value.oneCell']) (by unfold maxLen; omega) (by omega) (by have := WZ.out; simp; omega) ?_; intro v' w3 hown' hgrow3 hnil3 hloc3; have GR := hide' hgrow3; have ON0 := hide' hown'; clear hown' hgrow3 hnil3 hloc3)
              have ON := hide' (show w3.ownsRow (gs + 1) 121 3 v' (Q ++ [(⟨s, c, a, e.wd ++ [((c : Nat) : Int)]⟩ : En)]).length (enCells (Q ++ [(⟨s, c, a, e.wd ++ [((c : Nat) : Int)]⟩ : En)])) from by rw [enCells_snoc, List.length_append, QL.out]; exact ON0.out)
              obtain ⟨g', cap', ev, hgB', hLc', hcm', qc'⟩ := owns_qc ON.out (by simp)
              have lq : (Q ++ [(⟨s, c, a, e.wd ++ [((c : Nat) : Int)]⟩ : En)]).length = L + 1 := by rw [List.length_append, QL.out]; rfl
              rw [lq] at ev
              subst ev
              have O3 := hide' (OQ.push (nq := nq) H.out.2.2.2 (x := ⟨s, c, a, e.wd ++ [((c : Nat) : Int)]⟩) rfl hgB (by rw [HN.out]; exact sl) (by rw [HW1.out]; exact GR.out) ON.out)
              have OK1 := hide' OK0.out
              rw [NXT.out] at OK1
              refine (spelled_any S _ ⟨s, c, a, e.wd ++ [((c : Nat) : Int)]⟩ g' (L + 1) cap' w3 qc' OK1.out (by rw [List.length_append, QL.out]; rfl) (by omega) (by rw [Nat.add_sub_cancel, List.getElem?_append_right (by rw [QL.out]; exact Nat.le_refl _), QL.out]; simp) (by omega)).mono ?_
              unfold SpellPost
              rintro e5 w5 ⟨g5, c5, rfl, hg5, cl5, b5⟩
              have C5 := hide' cl5
              have BF := hide' (O3.out.bl.trans (b5.mono O3.out.bl.size))
              clear cl5 b5
              go_wp2
              go_ret
              refine Or.inl ⟨e.wd ++ [((c : Nat) : Int)], ?_, by simp, ?_, g5, c5, by rw [List.length_append]; rfl, by have := O3.out.bl.size; omega, C5.out, BF.out⟩
              · have := ORP.out SZ.out
                rw [hF, HN.out, show N - 1 = M by have := HM.out; omega]
                exact this
              · have := QW.out
                rw [List.length_append]
                simp only [List.length_cons, List.length_nil]
                omega
            · have sq : ((s : Int) == 0) = false := by rw [beq_eq_false_iff_ne]; omega
              go_wp2_with (at_builtin; refine wpList_append_own_at _ rfl _ _ 122 rfl (gs + 1) 121 i0 (.agg #[.int .i64 0, .int .i64 0, .int .i64 0]) 3 24 Tryd.underlying122 hi0 hz0 hz1 hz2 rfl (by decide) _ L (enCells Q) rfl (OW.out.alloc _) ⟨W1.heap.size, 0, none⟩ 1 1 [.int .i64 (s : Int), .int .i64 (c : Int), .int .i64 (a : Int)] rfl rfl (three_new _ _ _ _ _) (by simp [Value.oneCell']) (by unfold maxLen; omega) (by omega) (by have := WZ.out; simp; omega) ?_; intro v' w3 hown' hgrow3 hnil3 hloc3; have GR := hide' hgrow3; have ON0 := hide' hown'; clear hown' hgrow3 hnil3 hloc3)
              have ON := hide' (show w3.ownsRow (gs + 1) 121 3 v' (Q ++ [(⟨s, c, a, e.wd ++ [((c : Nat) : Int)]⟩ : En)]).length (enCells (Q ++ [(⟨s, c, a, e.wd ++ [((c : Nat) : Int)]⟩ : En)])) from by rw [enCells_snoc, List.length_append, QL.out]; exact ON0.out)
              obtain ⟨g', cap', ev, hgB', hLc', hcm', qc'⟩ := owns_qc ON.out (by simp)
              have lq : (Q ++ [(⟨s, c, a, e.wd ++ [((c : Nat) : Int)]⟩ : En)]).length = L + 1 := by rw [List.length_append, QL.out]; rfl
              rw [lq] at ev
              subst ev
              have O3 := hide' (OQ.push (nq := nq) H.out.2.2.2 (x := ⟨s, c, a, e.wd ++ [((c : Nat) : Int)]⟩) rfl hgB (by rw [HN.out]; exact sl) (by rw [HW1.out]; exact GR.out) ON.out)
              clear ON0 GR ON qc'
              exact ⟨⟨c + 1, L + 1, g', cap', _, by go_num, rfl, by omega, by omega, by omega, hide' ⟨NXT.out.symm, lq, fun e' he' => (List.mem_append.1 he').elim (H.out.2.2.1 e') (fun h => by simp at h; rw [h]; show s ≠ 0; omega), O3.out⟩⟩, by simp [intOf]; omega⟩
        · have H2 := hide' (show Q = runQ F S M ((a + 1) * S) by rw [Nat.add_mul, Nat.one_mul, show S = c by omega]; exact (show c = S by omega) ▸ H.out.1)
          have H3 := hide' H.out.2
          clear H
          go_wp2
          exact ⟨⟨a + 1, L, g, cap, Q, by go_num, rfl, hL, by omega, hide' ⟨H2.out, H3.out⟩⟩, by simp [intOf]; omega⟩
    · have HO := hide' (show OrphanIs F S M none from ⟨a, by rw [← H.out.1]; exact H.out.2.2.1, by rw [← H.out.1, H.out.2.1]; omega⟩)
      have BF := hide' H.out.2.2.2.bl
      clear H
      go_wp2
      go_ret
      refine Or.inr ⟨?_, rfl, BF.out⟩
      rw [hF, HN.out, show N - 1 = M by have := HM.out; omega]
      exact HO.out
end Go.Proofs.YtjjdjdodhedihaaDoor

