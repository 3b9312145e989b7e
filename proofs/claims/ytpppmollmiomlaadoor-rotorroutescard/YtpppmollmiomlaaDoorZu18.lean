/-
  What the last text of this claim leans on, part 18: Rt8, Rw8.
-/
import Derived.Test.YtpppmollmiomlaaDoorZu14
import Derived.Test.YtpppmollmiomlaaDoorZu17
import Derived.Deep.LoopGhost
namespace Go.Proofs.YtpppmollmiomlaaDoor
set_option linter.unusedVariables false
theorem OnR.start {n s v : Nat} {wy : Nat → Nat → Nat} {d sg : Nat → Nat} {c : Nat → Int} (nrm : ∀ k, sg k % d k = sg k) (hc : ∀ k, k < n → 0 ≤ c k) : OnR n s v wy d sg c 0 v fun _ => 0 :=
  ⟨by
    show stR s v wy d ⟨sg, s⟩ = _
    unfold stR
    rw [if_pos rfl]
    congr 1
    funext k
    unfold sgR
    rw [Nat.add_zero, nrm], fun i' h => by omega, WkR.start hc, fun j hj js => by
    unfold chR
    rw [smS_congr (g := fun _ => 0) fun k _ => by split <;> rfl, smS_zero]
    dsimp only
    omega, fun _ _ => rfl, (smS_congr fun _ _ => rfl).trans (smS_zero n)⟩
theorem OnR.step {n s v : Nat} {wy : Nat → Nat → Nat} {d sg : Nat → Nat} {c : Nat → Int} {i x : Nat} {u : Nat → Nat} (hc : ∀ k, k < n → 0 ≤ c k) (cv : 1 ≤ c v) (hx : x < n) (xs : x ≠ s) (h : OnR n s v wy d sg c i x u) : OnR n s v wy d sg c (i + 1) (wy x (sgR d sg (upR u x) x)) (upR u x) := by
  obtain ⟨h1, h2, h3, h4, h5, h6⟩ := h
  have can : 1 ≤ chR n s wy d sg c u x := by
    rw [h4 x hx xs, if_pos rfl]
    have := hc x hx
    split
    · rename_i q; rw [q]; omega
    · omega
  have st : itR s v wy d (i + 1 + 1) ⟨sg, s⟩ = ⟨sgR d sg (upR u x), wy x (sgR d sg (upR u x) x)⟩ := by
    show stR s v wy d (itR s v wy d (i + 1) ⟨sg, s⟩) = _
    rw [h1]
    unfold stR
    rw [if_neg xs]
    dsimp only
    rw [sg_up]
  have no : ∀ i', i' < i + 1 → (itR s v wy d (i' + 1) ⟨sg, s⟩).at' ≠ s := fun i' hi => by
    rcases Nat.lt_or_ge i' i with q | q
    · exact h2 i' q
    · obtain rfl : i' = i := by omega
      rw [h1]; exact xs
  have tw : towR wy d sg x (u x) = wy x (sgR d sg (upR u x) x) := by
    unfold towR sgR upR
    rw [if_pos rfl, show sg x + 1 + u x = sg x + (u x + 1) by omega]
  have z : ∀ k, n ≤ k → upR u x k = 0 := fun k hk => by unfold upR; rw [if_neg (by omega)]; exact h5 k hk
  have ch : ∀ j, j < n → j ≠ s → chR n s wy d sg c (upR u x) j = c j - (if j = v then 1 else 0) + (if j = wy x (sgR d sg (upR u x) x) then 1 else 0) := fun j hj js => by
    rw [ch_upR hx xs, h4 j hj js, tw]
    by_cases q : wy x (sgR d sg (upR u x) x) = j
    · rw [if_pos q, if_pos q.symm]; omega
    · have q' : ¬ j = wy x (sgR d sg (upR u x) x) := fun e => q e.symm
      rw [if_neg q, if_neg q']; omega
  have sm : smS n (fun k => (upR u x k : Int)) = ((i + 1 : Nat) : Int) := by rw [sum_up hx, h6]; omega
  exact ⟨st, no, h3.one hx xs can, ch, z, sm⟩
/-- On the way a chip is nowhere at the sink ahead of its end. -/
theorem OnR.before {n s v : Nat} {wy : Nat → Nat → Nat} {d sg : Nat → Nat} {c : Nat → Int} {i m x : Nat} {u um : Nat → Nat} (h : OnR n s v wy d sg c i x u) (hm : OnR n s v wy d sg c m s um) (xs : x ≠ s) (le : i ≤ m) : i < m := by
  rcases Nat.lt_or_ge i m with q | q
  · exact q
  · obtain rfl : i = m := by omega
    have a := h.1
    rw [hm.1] at a
    have : s = x := congrArg CsR.at' a
    exact absurd this.symm xs
theorem rcS_fold (xs : List EgT) (R : Nat → Bool) : ∀ j, j ≤ xs.length → rcS xs R j = rcL ((xs.take j).map edS) R
  | 0, _ => rfl
  | j + 1, h => by
    have e : (xs.take (j + 1)).map edS = (xs.take j).map edS ++ [edS (xs.getD j egz)] := by
      rw [List.take_succ_eq_append_getElem (by omega), List.map_append, eg_at (by omega)]
      rfl
    rw [e, rcS, rcS_fold xs R j (by omega)]
    unfold rcL
    rw [List.foldl_append]
    rfl
theorem rcN_out (es : List EdS) : ∀ (m : Nat) (R : Nat → Bool), rcN es (m + 1) R = rcL es (rcN es m R)
  | 0, R => rfl
  | m + 1, R => by
    show rcN es (m + 1) (rcL es R) = rcL es (rcN es m (rcL es R))
    rw [rcN_out es m]
theorem rcM_fold (xs : List EgT) : ∀ m, rcM xs m = rcN (xs.map edS) m fun k => decide (k = 0)
  | 0 => rfl
  | m + 1 => by
    rw [rcN_out, ← rcM_fold xs m, rcM, rcS_fold xs _ xs.length (Nat.le_refl _), List.take_length]
theorem OkG.edges {P : Nat} {xs : List EgT} (h : OkG P xs) : ∀ e ∈ xs.map edS, okE P e := fun e he => by
  obtain ⟨x, hx, rfl⟩ := List.mem_map.1 he
  obtain ⟨j, hj, rfl⟩ := List.getElem_of_mem hx
  have o := h.ok j hj
  rw [eg_at hj] at o
  unfold badE at o
  unfold okE edS
  dsimp only
  omega
theorem OkG.reach {P : Nat} {xs : List EgT} (h : OkG P xs) : ∀ k, k < P → rcN (xs.map edS) P (fun k => decide (k = 0)) k = true := fun k hk => by
  rw [← rcM_fold]
  exact h.all k hk
theorem OkG.gr {P s : Nat} {xs : List EgT} (h : OkG P xs) (hs : s < P) : GrS P s (btL (xs.map edS)) := graph_of hs h.edges h.reach
theorem OkG.wy {P : Nat} {xs : List EgT} (h : OkG P xs) : WyG P (btL (xs.map edS)) (wyF xs) (dgF xs) := ways_of h.edges
theorem OkG.pos {P s : Nat} {xs : List EgT} (h : OkG P xs) (hs : s < P) : ∀ k, k < P → k ≠ s → 0 < dgF xs k := fun k hk ks => by
  have a := dg_pos hs h.edges h.reach hk ks
  have b := wy_len h.edges k
  unfold dgF
  omega
theorem OkG.few {P : Nat} {xs : List EgT} (h : OkG P xs) (k : Nat) : dgF xs k ≤ 4000 := by
  have a := wyL_few (es := xs.map edS) k fun e he => by have := h.edges e he; unfold okE at this; omega
  have b := h.n4
  rw [List.length_map] at a
  unfold dgF
  omega
/-- What signs and chips are asked to be. -/
structure RtOk (P s : Nat) (xs : List EgT) (sg : Nat → Nat) : Prop where
  gr : OkG P xs
  sk : s < P
  low : ∀ k, k < P → k ≠ s → sg k < dgF xs k
  zs : sg s = 0
  zr : ∀ k, P ≤ k → sg k = 0
theorem RtOk.nrm {P s : Nat} {xs : List EgT} {sg : Nat → Nat} (h : RtOk P s xs sg) : ∀ k, sg k % dgF xs k = sg k := fun k => by
  rcases Nat.lt_or_ge k P with q | q
  · by_cases e : k = s
    · rw [e, h.zs]; exact Nat.zero_mod _
    · exact Nat.mod_eq_of_lt (h.low k q e)
  · rw [h.zr k q]; exact Nat.zero_mod _
theorem RtOk.sgOk {P s : Nat} {xs : List EgT} {sg : Nat → Nat} (h : RtOk P s xs sg) : SgOk P s xs sg := ⟨h.low, h.gr.wy.inn, h.sk⟩
theorem RtOk.on {P s : Nat} {xs : List EgT} {sg u : Nat → Nat} (h : RtOk P s xs sg) (zs : u s = 0) (zr : ∀ k, P ≤ k → u k = 0) : RtOk P s xs (sgR (dgF xs) sg u) :=
  ⟨h.gr, h.sk, fun k hk ks => by unfold sgR; exact Nat.mod_lt _ (h.gr.pos h.sk k hk ks), by unfold sgR; rw [h.zs, zs]; exact Nat.zero_mod _, fun k hk => by unfold sgR; rw [h.zr k hk, zr k hk]; exact Nat.zero_mod _⟩
theorem smS_le_mul {f : Nat → Int} {C : Int} : ∀ {n : Nat}, (∀ k, k < n → f k ≤ C) → smS n f ≤ C * n
  | 0, _ => by simp [smS]
  | n + 1, h => by
    have a := smS_le_mul (f := f) (C := C) (n := n) fun k hk => h k (by omega)
    have b := h n (by omega)
    rw [smS, Int.natCast_add, Int.mul_add]
    simp
    omega
/-- No place lets more than so many chips go. -/
theorem went_few {P s : Nat} {xs : List EgT} {sg u : Nat → Nat} {c : Nat → Int} (h : RtOk P s xs sg) (hc : ∀ k, k < P → 0 ≤ c k) (hs : smS P c ≤ 100000) (hw : WkR P s (wyF xs) (dgF xs) sg c u) (k : Nat) (hk : k < P) : u k < 10000000000 := by
  have dl : ∀ k, k < P → smS P (btL (xs.map edS) k) ≤ 4000 := fun k hk => by
    have := h.gr.wy.deg k hk
    have := h.gr.few k
    omega
  have tot : smS P (fun k => c k + smS P (btL (xs.map edS) k)) ≤ 140000 := by
    rw [smS_add]
    have a := smS_le_mul (f := fun k => smS P (btL (xs.map edS) k)) (C := 4000) dl
    have := h.gr.p2
    omega
  have f := hw.few (h.gr.gr h.sk) h.gr.wy (h.gr.pos h.sk) hc tot k hk
  have p2 := h.gr.p2
  have b1 : ((u k / dgF xs k : Nat) : Int) ≤ 140000 * 9 := by
    have : ((P - 1 : Nat) : Int) ≤ 9 := by omega
    have := Int.mul_le_mul_of_nonneg_left this (show (0 : Int) ≤ 140000 by omega)
    omega
  by_cases ks : k = s
  · rw [ks, hw.zero]; omega
  · have dp := h.gr.pos h.sk k hk ks
    have df := h.gr.few k
    have e := Nat.div_add_mod (u k) (dgF xs k)
    have l := Nat.mod_lt (u k) dp
    have b2 : u k / dgF xs k ≤ 1260000 := by omega
    have := Nat.mul_le_mul df b2
    omega
/-- All signs lead to the sink or to a chip. -/
def LdA (n s : Nat) (wy : Nat → Nat → Nat) (d sg : Nat → Nat) (c : Nat → Int) (u : Nat → Nat) : Prop := ∀ k, k < n → LdR s wy (sgR d sg u) (fun j => j < n ∧ j ≠ s ∧ 1 ≤ chR n s wy d sg c u j) k
theorem OnR.can {n s v : Nat} {wy : Nat → Nat → Nat} {d sg : Nat → Nat} {c : Nat → Int} {i x : Nat} {u : Nat → Nat} (hc : ∀ k, k < n → 0 ≤ c k) (cv : 1 ≤ c v) (hx : x < n) (xs : x ≠ s) (h : OnR n s v wy d sg c i x u) : 1 ≤ chR n s wy d sg c u x := by
  rw [h.2.2.2.1 x hx xs, if_pos rfl]
  have := hc x hx
  split
  · rename_i q; rw [q]; omega
  · omega
theorem LdA.step {n s x : Nat} {wy : Nat → Nat → Nat} {d sg : Nat → Nat} {c : Nat → Int} {u : Nat → Nat} (hx : x < n) (xs : x ≠ s) (inn : ∀ k i, k < n → i < d k → wy k i < n) (hd : ∀ k, k < n → k ≠ s → 0 < d k) (can : 1 ≤ chR n s wy d sg c u x) (wk : WkR n s wy d sg c u) (h : LdA n s wy d sg c u) : LdA n s wy d sg c (upR u x) := lead_on hx xs inn hd can wk.has h
theorem LdA.shift {n s : Nat} {wy : Nat → Nat → Nat} {d sg : Nat → Nat} {c : Nat → Int} {u v : Nat → Nat} : LdA n s wy d (sgR d sg u) (chR n s wy d sg c u) v ↔ LdA n s wy d sg c fun k => u k + v k := by
  unfold LdA
  rw [show sgR d (sgR d sg u) v = sgR d sg (fun k => u k + v k) from funext fun k => sg_then d sg u v k, show chR n s wy d (sgR d sg u) (chR n s wy d sg c u) v = chR n s wy d sg c (fun k => u k + v k) from funext fun j => ch_sg n s wy d sg c u v j]
theorem LdR.some {s : Nat} {wy : Nat → Nat → Nat} {sg : Nat → Nat} {C : Nat → Prop} {x : Nat} (h : LdR s wy sg (fun _ => False) x) : LdR s wy sg C x := by
  induction h using LdR.ind with
  | sink => exact .sink
  | chip q => exact q.elim
  | go ks _ ih => exact .go ks ih
theorem LdA.tree {P s : Nat} {xs : List EgT} {sg : Nat → Nat} {c : Nat → Int} {u : Nat → Nat} (h : RtOk P s xs sg) (hd : doneR P s (wyF xs) (dgF xs) sg c u) (z0 : u s = 0) (zr : ∀ k, P ≤ k → u k = 0) (a : LdA P s (wyF xs) (dgF xs) sg c (fun _ => 0) → LdA P s (wyF xs) (dgF xs) sg c u) (t : treeR P s (wyF xs) sg) : treeR P s (wyF xs) (sgR (dgF xs) sg u) := fun k hk => by
  have e : (sgR (dgF xs) sg fun _ => 0) = sg := funext fun k => by unfold sgR; rw [Nat.add_zero, h.nrm]
  have b := a fun k hk => by rw [e]; exact (t k hk).some
  exact (b k hk).none (fun j hj js q => by have := q.2.2; rw [hd j hj js] at this; omega) (fun j hj js => (h.on z0 zr).sgOk.hop hj js) hk
end Go.Proofs.YtpppmollmiomlaaDoor

namespace Go.Proofs.YtpppmollmiomlaaDoor
open Go.RowKit
set_option linter.unusedVariables false
set_option linter.unusedSimpArgs false
def LeadOut (V : World) (pb B P s wb sb sc tb : Nat) (v : Nat → Value) (xs : List EgT) (sg wt : Nat → Nat) (c : Nat → Int) (k : Nat) (e : Ending) (w' : World) : Prop :=
  e = .returned (.tuple #[]) ∧ ∃ m u, OnR P s k (wyF xs) (dgF xs) sg c m s u ∧ BdR w' pb B P s wb sb sc tb v (wyO xs) (lsN P (sgR (dgF xs) sg u)) (lsN P fun k => wt k + u k) ∧ KpB sb tb V w' ∧ (LdA P s (wyF xs) (dgF xs) sg c (fun _ => 0) → LdA P s (wyF xs) (dgF xs) sg c u)
theorem up_sg {P : Nat} {xs : List EgT} {sg u : Nat → Nat} (x : Nat) : upN (sgR (dgF xs) sg u) x ((sgR (dgF xs) sg u x + 1) % dgF xs x) = sgR (dgF xs) sg (upR u x) := by
  rw [← sg_up]
  funext j
  unfold upN tnR
  by_cases q : j = x
  · rw [if_pos q, if_pos q, q]
  · rw [if_neg q, if_neg q]
theorem up_wt (wt u : Nat → Nat) (x : Nat) : upN (fun k => wt k + u k) x (wt x + u x + 1) = fun k => wt k + upR u x k := by
  funext j
  unfold upN upR
  by_cases q : j = x
  · rw [if_pos q, if_pos q, q]; omega
  · rw [if_neg q, if_neg q]
set_option maxRecDepth 100000 in
set_option maxHeartbeats 6400000 in
theorem lead_any (V : World) (pb B P s wb sb sc tb : Nat) (v : Nat → Value) (xs : List EgT) (sg wt : Nat → Nat) (h : BdR V pb B P s wb sb sc tb v (wyO xs) (lsN P sg) (lsN P wt)) (ok : RtOk P s xs sg) (c : Nat → Int) (hc : ∀ k, k < P → 0 ≤ c k) (k : Nat) (hk : k < P) (ks : k ≠ s) (cv : 1 ≤ c k) (hB : ∀ u, WkR P s (wyF xs) (dgF xs) sg c u → ∀ j, j < P → wt j + u j < 4611686018427387904) :
    Calls Tryd.prog 23 #[.pointer (some ⟨pb, 0, none⟩), .int .i64 (k : Int)] V (LeadOut V pb B P s wb sb sc tb v xs sg wt c k) := by
  obtain ⟨M, uM, hM⟩ := comes (ok.gr.gr ok.sk) ok.gr.wy (ok.gr.pos ok.sk) ok.nrm hc hk ks cv
  have HM := hide' hM
  have OK := hide' ok
  have ST := hide' (show BdR V pb B P s wb sb sc tb v (wyO xs) (lsN P (sgR (dgF xs) sg fun _ => 0)) (lsN P fun k => wt k + 0) by
    rw [show (sgR (dgF xs) sg fun _ => 0) = sg from funext fun k => by unfold sgR; rw [Nat.add_zero, ok.nrm]]
    exact h)
  have S0 := hide' (OnR.start (n := P) (s := s) (v := k) (wy := wyF xs) ok.nrm hc)
  have SP := hide' (fun (i x : Nat) (u : Nat → Nat) (hx : x < P) (xs' : x ≠ s) (q : OnR P s k (wyF xs) (dgF xs) sg c i x u) => q.step hc cv hx xs')
  have LS := hide' (fun (i x : Nat) (u : Nat → Nat) (hx : x < P) (xs' : x ≠ s) (q : OnR P s k (wyF xs) (dgF xs) sg c i x u) (a : LdA P s (wyF xs) (dgF xs) sg c u) => a.step hx xs' ok.gr.wy.inn (ok.gr.pos ok.sk) (q.can hc cv hx xs') q.2.2.1)
  have TU := hide' (fun (X : World) (u : Nat → Nat) (x : Nat) (hx : x < P) (xs' : x ≠ s) (hX : BdR X pb B P s wb sb sc tb v (wyO xs) (lsN P (sgR (dgF xs) sg u)) (lsN P fun k => wt k + u k)) (hw : WkR P s (wyF xs) (dgF xs) sg c u) => show Calls Tryd.prog 27 #[.pointer (some ⟨pb, 0, none⟩), .int .i64 (x : Int)] X fun e w' => e = .returned (.int .i64 ((wyF xs x (sgR (dgF xs) sg (upR u x) x) : Nat) : Int)) ∧ BdR w' pb B P s wb sb sc tb v (wyO xs) (lsN P (sgR (dgF xs) sg (upR u x))) (lsN P fun k => wt k + upR u x k) ∧ KpB sb tb X w' by
    have lo : sgR (dgF xs) sg u x < dgF xs x := by unfold sgR; exact Nat.mod_lt _ (ok.gr.pos ok.sk x hx xs')
    have := turn_any X pb B P s wb sb sc tb v (wyO xs) (sgR (dgF xs) sg u) (fun k => wt k + u k) hX x hx (by rw [wyO_len]; exact lo) (hB u hw x hx) (by rw [wyO_len]; have := ok.gr.few x; omega)
    unfold TurnOut at this
    rw [wyO_len, up_sg (P := P), up_wt, wyO_at] at this
    refine this.mono fun e w' q => ?_
    obtain ⟨q1, q2, q3⟩ := q
    refine ⟨?_, q2, q3⟩
    rw [q1]
    congr 4
    have e : upN (sgR (dgF xs) sg u) x ((sgR (dgF xs) sg u x + 1) % dgF xs x) x = sgR (dgF xs) sg (upR u x) x := by rw [up_sg (P := P)]
    rw [← e]
    unfold upN
    rw [if_pos rfl])
  have LT := hide' (fun (i x : Nat) (u : Nat → Nat) (q : OnR P s k (wyF xs) (dgF xs) sg c i x u) (xs' : x ≠ s) => show ∀ (y : Nat), y = wyF xs x (sgR (dgF xs) sg (upR u x) x) → x < P → y < P from fun y e hx => by
    rw [e]
    exact ok.gr.wy.inn x _ hx (by unfold sgR; exact Nat.mod_lt _ (ok.gr.pos ok.sk x hx xs')))
  have SK := hide' ok.sk
  have HK := hide' hk
  clear h ok hM hc cv hB ks
  go_enter Tryd.func23, Tryd.ntmps23
  go_wp2
  go_loopg [1] M (fun g pv wr => ∃ (i x : Nat) (u : Nat → Nat), pv = .int .i64 (x : Int) ∧ Hid (i + g = M) ∧ Hid (x < P) ∧ Hid (OnR P s k (wyF xs) (dgF xs) sg c i x u) ∧ Hid (BdR wr pb B P s wb sb sc tb v (wyO xs) (lsN P (sgR (dgF xs) sg u)) (lsN P fun k => wt k + u k)) ∧ Hid (KpB sb tb V wr) ∧ Hid (LdA P s (wyF xs) (dgF xs) sg c (fun _ => 0) → LdA P s (wyF xs) (dgF xs) sg c u))
  case atStart => exact ⟨0, k, fun _ => 0, rfl, hide' (by omega), HK, S0, ST, hide' (KpB.refl _ _ _), hide' fun a => a⟩
  case round =>
    obtain ⟨i, x, u, rfl, HI, HX, HO, HB, KW, LW⟩ := hrel
    have x0 := cell_of_row wr pb 0 _ _ _ HB.out.box
    simp at x0
    by_cases q : x = s
    · have e1 : ((x : Int) != (s : Int)) = false := by rw [q]; simp
      have X := hide' (show LeadOut V pb B P s wb sb sc tb v xs sg wt c k (.returned (.tuple #[])) wr from ⟨rfl, i, u, by have := HO.out; rw [q] at this; exact this, HB.out, KW.out, LW.out⟩)
      clear q
      go_wp2
      go_end0
      exact X.out
    · have e1 : ((x : Int) != (s : Int)) = true := by simp; omega
      have TC := hide' (TU.out wr u x HX.out q HB.out HO.out.2.2.1)
      have LI := hide' (HO.out.before HM.out q (by have := HI.out; omega))
      have NO := hide' (SP.out i x u HX.out q HO.out)
      have LN := hide' (fun a => LS.out i x u HX.out q HO.out (LW.out a))
      obtain ⟨y, hy⟩ : ∃ y, wyF xs x (sgR (dgF xs) sg (upR u x) x) = y := ⟨_, rfl⟩
      have NX := hide' (LT.out i x u HO.out q y hy.symm HX.out)
      rw [hy] at TC NO
      clear q hy
      go_wp2_with fail
      refine TC.out.mono ?_
      rintro e w3 ⟨rfl, b3, k3⟩
      have B3 := hide' b3
      have K3 := hide' (KW.out.trans k3)
      clear b3 k3 x0
      go_wp2
      go_roundg (M - (i + 1))
      case measure => have := HI.out; have := LI.out; omega
      case rel => exact ⟨i + 1, y, upR u x, rfl, hide' (by have := LI.out; omega), NX, NO, B3, K3, LN⟩
end Go.Proofs.YtpppmollmiomlaaDoor

