/-
  What the last text of this claim leans on, part 24: LawRb.
-/
import Derived.Test.YtpppmollmiomlaaDoorZu23
import Derived.Test.YtpppmollmiomlaaDoorZu21
namespace Go.Proofs.YtpppmollmiomlaaDoor
open Go.RowKit
set_option linter.unusedVariables false
set_option linter.unusedSimpArgs false
/-- What stands: signs and chips behind so many moves. -/
structure OrS (Q t : Nat) (xs : List EgT) (sg : Nat → Nat) (c : Nat → Int) (u : Nat → Nat) : Prop where
  ok : RtOk Q t xs sg
  st : WSt Q t (wyF xs) (dgF xs) sg c u
  ct : c t = 0
  tot : smS Q c ≤ 1000
theorem OrS.on {Q t : Nat} {xs : List EgT} {sg : Nat → Nat} {c : Nat → Int} {u : Nat → Nat} (h : OrS Q t xs sg c u) : RtOk Q t xs (sgR (dgF xs) sg u) := h.ok.on h.st.wk.zero h.st.zr
theorem sgN_ls {Q t : Nat} {xs : List EgT} {f : Nat → Nat} (h : RtOk Q t xs f) : sgN (lsN Q f) = f := funext fun k => by
  unfold sgN
  rw [lsN_getD]
  rcases Nat.lt_or_ge k Q with q | q
  · rw [if_pos q]; simp
  · rw [if_neg (by omega), h.zr k q]; rfl
theorem OrS.le {Q t : Nat} {xs : List EgT} {sg : Nat → Nat} {c : Nat → Int} {u : Nat → Nat} (h : OrS Q t xs sg c u) {k : Nat} (hk : k < Q) : (lfR Q t (wyF xs) (dgF xs) sg c u k : Int) ≤ chR Q t (wyF xs) (dgF xs) sg c u k := by
  have a := ch_nonneg h.st.wk (by rw [h.ct]; omega) k hk
  unfold lfR
  split <;> omega
theorem OrS.sg {Q t : Nat} {xs : List EgT} {sg : Nat → Nat} {c : Nat → Int} {u : Nat → Nat} (h : OrS Q t xs sg c u) : SgG (Q : Int) xs (t : Int) (lsN Q (sgR (dgF xs) sg u)) 0 := by
  have ok := h.on
  refine Or.inr ⟨SiG.of (FaG.of ok.gr) (by omega) (by have := ok.sk; omega), Or.inr (Or.inr ⟨by rw [lsN_len], fun k hk => ?_, rfl⟩)⟩
  rw [lsN_len] at hk
  rw [lsN_getD, if_pos hk]
  unfold mayI
  by_cases e : k = t
  · left
    rw [e, ok.zs]
    exact ⟨rfl, rfl⟩
  · right
    have := ok.low k hk e
    exact ⟨by omega, by omega, by omega⟩
theorem OrS.few {Q t : Nat} {xs : List EgT} {sg : Nat → Nat} {c : Nat → Int} {u : Nat → Nat} (h : OrS Q t xs sg c u) : totL (lsN Q (lfR Q t (wyF xs) (dgF xs) sg c u)) ≤ 1000 := by
  unfold totL
  rw [lsN_len]
  have : smS Q (fun k => (lsN Q (lfR Q t (wyF xs) (dgF xs) sg c u)).getD k 0) ≤ smS Q (chR Q t (wyF xs) (dgF xs) sg c u) := smS_le fun k hk => by
    rw [lsN_getD, if_pos hk]
    exact h.le hk
  rw [h.st.tot] at this
  have := h.tot
  omega
theorem ch_only {n s : Nat} {wy : Nat → Nat → Nat} {d sg : Nat → Nat} {c c' : Nat → Int} {u : Nat → Nat} {j : Nat} (e : c j = c' j) : chR n s wy d sg c u j = chR n s wy d sg c' u j := by unfold chR; rw [e]
theorem OrS.cur {Q t : Nat} {xs : List EgT} {sg : Nat → Nat} {c : Nat → Int} {u v : Nat → Nat} (h : OrS Q t xs sg c u) {j : Nat} (hj : j < Q) (jt : j ≠ t) : chR Q t (wyF xs) (dgF xs) (sgR (dgF xs) sg u) (chN (lsN Q (lfR Q t (wyF xs) (dgF xs) sg c u))) v j = chR Q t (wyF xs) (dgF xs) sg c (fun k => u k + v k) j := by
  rw [← ch_sg]
  refine ch_only ?_
  unfold chN
  rw [lsN_getD, if_pos hj]
  exact lf_at h.st.wk hj jt
theorem up_zero (u : Nat → Nat) (k : Nat) : (fun j => u j + upR (fun _ => 0) k j) = upR u k := funext fun j => by unfold upR; dsimp only; split <;> omega
/-- One place of the order: nothing goes, or a chip does. -/
theorem OrS.one {Q t : Nat} {xs : List EgT} {sg : Nat → Nat} {c : Nat → Int} {u : Nat → Nat} (h : OrS Q t xs sg c u) (x : Int) {f : Nat} {u' : Nat → Nat} (e : wkP (Q : Int) (t : Int) xs (lsN Q (sgR (dgF xs) sg u)) (lsN Q (lfR Q t (wyF xs) (dgF xs) sg c u)) [x] = (f, u')) (hf : f = 0) :
    ∃ k : Nat, x = (k : Int) ∧ k < Q ∧ OrS Q t xs sg c (upR u k) ∧ sgR (dgF xs) (sgN (lsN Q (sgR (dgF xs) sg u))) u' = sgR (dgF xs) sg (upR u k) ∧ ∀ j, j < Q → lfR Q t (wyF xs) (dgF xs) (sgN (lsN Q (sgR (dgF xs) sg u))) (chN (lsN Q (lfR Q t (wyF xs) (dgF xs) sg c u))) u' j = lfR Q t (wyF xs) (dgF xs) sg c (upR u k) j := by
  unfold wkP at e
  rw [sgN_ls h.on] at e ⊢
  simp only [Int.toNat_natCast] at e
  unfold walkU at e
  split at e
  · injection e with e1 e2; omega
  · rename_i q1
    obtain ⟨k, rfl⟩ := Int.eq_ofNat_of_zero_le (show 0 ≤ x by omega)
    rw [show (k : Int).toNat = k by omega] at e
    have kQ : k < Q := by omega
    have kt : k ≠ t := by omega
    split at e
    · injection e with e1 e2; omega
    · rename_i q2
      injection e with e1 e2
      have e2 : upR (fun _ => 0) k = u' := e2
      subst e2
      have z := h.cur (v := fun _ => 0) kQ kt
      rw [z] at q2
      have st := h.st.step h.ok.gr.wy.inn (h.ok.gr.pos h.ok.sk) kQ kt q2
      refine ⟨k, rfl, kQ, ⟨h.ok, st, h.ct, h.tot⟩, ?_, fun j hj => ?_⟩
      · rw [← up_zero u k]
        exact funext fun j => sg_then ..
      · have cu := h.cur (v := upR (fun _ => 0) k) hj
        obtain ⟨C, hC⟩ : ∃ C, chN (lsN Q (lfR Q t (wyF xs) (dgF xs) sg c u)) = C := ⟨_, rfl⟩
        rw [hC, up_zero] at cu
        rw [hC]
        unfold lfR
        by_cases ej : j = t
        · rw [if_pos ej, if_pos ej]
        · rw [if_neg ej, if_neg ej, cu ej]
theorem chips_ls {Q t : Nat} {xs : List EgT} {sg : Nat → Nat} {cs : List Int} (h : ChOk Q t cs) : cs = lsN Q (lfR Q t (wyF xs) (dgF xs) sg (chN cs) fun _ => 0) := by
  apply List.ext_getElem
  · rw [lsN_len]; exact h.len
  · intro i h1 h2
    have hi : i < Q := by rw [lsN_len] at h2; exact h2
    simp only [lsN, List.getElem_map, List.getElem_range]
    have lo := h.lo i hi
    have g : chN cs i = cs[i] := at_getD h1
    have c0 : chR Q t (wyF xs) (dgF xs) sg (chN cs) (fun _ => 0) i = chN cs i := by
      unfold chR
      rw [smS_congr (g := fun _ => 0) fun k _ => by split <;> rfl, smS_zero]
      dsimp only
      omega
    unfold lfR
    split
    · rename_i q; rw [← g, q, h.zs]; rfl
    · rw [c0, ← g]; omega
end Go.Proofs.YtpppmollmiomlaaDoor

