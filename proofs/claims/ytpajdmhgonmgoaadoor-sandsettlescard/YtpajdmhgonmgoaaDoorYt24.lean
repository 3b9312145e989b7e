/-
  What the last text of this claim leans on, part 24: Ke3, Ke4.
-/
import Derived.Test.YtpajdmhgonmgoaaDoorYt23
namespace Go.Proofs.YtpajdmhgonmgoaaDoor
open Go.RowKit
set_option linter.unusedVariables false
set_option linter.unusedSimpArgs false
theorem fold_get : ∀ (l : List Value) (i : Nat) (Z : Array Value), i + l.length ≤ Z.size → ∀ k : Nat, ((l.zipIdx i).foldl (fun cs (c : Value × Nat) => cs.setIfInBounds (0 + c.2) c.1) Z)[k]? = if i ≤ k ∧ k < i + l.length then l[k - i]? else Z[k]?
  | [], i, Z, _, k => by simp; omega
  | v :: l, i, Z, h, k => by
    simp only [List.length_cons] at h
    rw [List.zipIdx_cons, List.foldl_cons, fold_get l (i + 1) _ (by rw [Array.size_setIfInBounds]; omega) k]
    simp only [List.length_cons]
    by_cases h1 : i + 1 ≤ k ∧ k < i + 1 + l.length
    · rw [if_pos h1, if_pos (by omega), show k - i = (k - (i + 1)) + 1 by omega, List.getElem?_cons_succ]
    · rw [if_neg h1, Array.getElem?_setIfInBounds]
      by_cases h2 : 0 + i = k
      · rw [if_pos h2, if_pos (by omega), if_pos (by omega), show k - i = 0 by omega]; rfl
      · rw [if_neg h2, if_neg (by omega)]
/-- A pile's cells. -/
def pilV (F : Nat → Int) (a : Option Addr) (n c : Nat) (b : Option Addr) (m d : Nat) (k : Nat) : Value := if k < 112 then .int .i64 (F k) else if k = 112 then .slice a n c else .slice b m d
theorem built_pileX (F : Nat → Int) (a b : Option Addr) (n c m d : Nat) : Tryd.prog.built 60 [(0, .agg (arrS 112 fun k => .int .i64 (F k))), (1, .slice a n c), (2, .slice b m d)] = some (arrS 114 (pilV F a n c b m d)) := by
  have h := pile_info
  unfold Program.built
  obtain ⟨A, hA0⟩ : ∃ A, (arrS 112 fun k => Value.int .i64 (F k)) = A := ⟨_, rfl⟩
  have hA : A.size = 112 := by rw [← hA0, arrS_size]
  rw [hA0]
  cases hi : Tryd.prog.info? 60 with
  | none => simp [hi] at h
  | some it =>
    cases hu : Tryd.prog.underlying 60 with
    | none => simp [hi, hu] at h
    | some d' =>
      cases d' with
      | struct fields =>
        simp only [hi, hu, Prod.mk.injEq] at h
        obtain ⟨h1, h2⟩ := h
        cases hz : it.zero with
        | none => rw [hz] at h1; simp at h1
        | some z =>
          rw [hz] at h1
          simp only [Option.map_some, Option.some.injEq] at h1
          simp only [h2]
          obtain ⟨Y, hY⟩ : ∃ Y, (Value.agg A).cells.zipIdx.foldl (fun cs (c, j) => cs.setIfInBounds (0 + j) c) z.cells = Y := ⟨_, rfl⟩
          have ys : Y.size = 114 := by
            rw [← hY, ← Array.foldl_toList]
            have := fold_size 0 (Value.agg A).cells.zipIdx.toList z.cells
            rw [h1] at this
            exact this
          have yg : ∀ k, k < 112 → Y[k]? = A[k]? := fun k hk => by
            have hl : A.toList.length = 112 := by simpa using hA
            have := fold_get A.toList 0 z.cells (by rw [h1, hl]; omega) k
            rw [if_pos (by rw [hl]; omega), Nat.sub_zero] at this
            have e : (Value.agg A).cells.zipIdx.toList = A.toList.zipIdx 0 := by
              show A.zipIdx.toList = _
              simp
            rw [← hY, ← Array.foldl_toList, e]
            rw [this]
            simp
          have eC : (Y.setIfInBounds 112 (.slice a n c)).setIfInBounds 113 (.slice b m d) = arrS 114 (pilV F a n c b m d) := by
            apply Array.ext'
            apply List.ext_getElem?
            intro k
            simp only [Array.getElem?_toList]
            by_cases k3 : k < 114
            · rw [arrS_get _ k3]
              unfold pilV
              by_cases k1 : k < 112
              · rw [if_pos k1, Array.getElem?_setIfInBounds, if_neg (by omega), Array.getElem?_setIfInBounds, if_neg (by omega), yg k k1, ← hA0, arrS_get _ k1]
              · by_cases k2 : k = 112
                · rw [if_neg k1, if_pos k2, Array.getElem?_setIfInBounds, if_neg (by omega), Array.getElem?_setIfInBounds, if_pos k2.symm, if_pos (by omega)]
                · rw [if_neg k1, if_neg k2, Array.getElem?_setIfInBounds, if_pos (by omega), if_pos (by rw [Array.size_setIfInBounds]; omega)]
            · rw [Array.getElem?_eq_none (by rw [Array.size_setIfInBounds, Array.size_setIfInBounds, ys]; omega), Array.getElem?_eq_none (by rw [arrS_size]; omega)]
          rw [← eC, hz]
          show Instr.fill (fun i => ([(0, 112), (112, 1), (113, 1)].toArray)[i]?) z.cells _ = _
          refine (fill_cons (off := 0) (size := 112) rfl (show (Value.agg A).cells.size = 112 from hA) (by rw [h1]; decide)).trans ?_
          rw [hY]
          refine (fill_cons (off := 112) (size := 1) rfl rfl (by rw [ys]; decide)).trans ?_
          refine (fill_cons (off := 113) (size := 1) rfl rfl (by
            show 113 + 1 ≤ (Y.setIfInBounds (112 + 0) (.slice a n c)).size
            rw [Array.size_setIfInBounds, ys]; decide)).trans ?_
          rfl
      | _ => simp [hi, hu] at h
def crwV (F : Nat → Int) (k : Nat) : Value := if k < 112 then .int .i64 (F k) else .int .i64 0
end Go.Proofs.YtpajdmhgonmgoaaDoor

namespace Go.Proofs.YtpajdmhgonmgoaaDoor
open Go.RowKit
set_option linter.unusedVariables false
set_option linter.unusedSimpArgs false
/-- A pile as it lies: its ground, its chips, its topples. -/
structure PilAt (V : World) (pb ca q ta P s : Nat) (b : Nat → Nat → Int) (f u : Nat → Int) : Prop where
  pl : V.heap[pb]? = some (.cells (arrS 114 (pilV (gdF P s b) (some ⟨ca, 0, none⟩) P q (some ⟨ta, 0, none⟩) P P)) 60 (0, 0))
  ch : ∃ C, V.heap[ca]? = some (.cells C 3 (0, 0)) ∧ ∀ k, k < P → C[k]? = some (.int .i64 (f k))
  tp : V.heap[ta]? = some (.cells (arrS P fun k => .int .i64 (u k)) 3 (0, 0))
  n1 : pb ≠ ca
  n2 : pb ≠ ta
  n3 : ca ≠ ta
section
variable {V V' : World} {pb ca q ta P s : Nat} {b : Nat → Nat → Int} {f u : Nat → Int}
theorem PilAt.ground (h : PilAt V pb ca q ta P s b f u) {k : Nat} (hk : k < 112) : V.cell? ⟨pb, k, none⟩ = some (.int .i64 (gdF P s b k)) := by
  have := cell_of_row V pb k _ _ _ h.pl
  rw [arrS_get _ (by omega)] at this
  unfold pilV at this
  rw [if_pos hk] at this
  exact this
theorem PilAt.chs (h : PilAt V pb ca q ta P s b f u) : V.cell? ⟨pb, 112, none⟩ = some (.slice (some ⟨ca, 0, none⟩) P q) := by
  have := cell_of_row V pb 112 _ _ _ h.pl
  rw [arrS_get _ (by omega)] at this
  unfold pilV at this
  rw [if_neg (by omega), if_pos rfl] at this
  exact this
theorem PilAt.tps (h : PilAt V pb ca q ta P s b f u) : V.cell? ⟨pb, 113, none⟩ = some (.slice (some ⟨ta, 0, none⟩) P P) := by
  have := cell_of_row V pb 113 _ _ _ h.pl
  rw [arrS_get _ (by omega)] at this
  unfold pilV at this
  rw [if_neg (by omega), if_neg (by omega)] at this
  exact this
theorem PilAt.chip (h : PilAt V pb ca q ta P s b f u) {k : Nat} (hk : k < P) : V.cell? ⟨ca, k, none⟩ = some (.int .i64 (f k)) ∧ V.frozen? ⟨ca, k, none⟩ = false := by
  obtain ⟨C, h1, h2⟩ := h.ch
  exact ⟨(cell_of_row V ca k _ _ _ h1).trans (h2 k hk), frozen_of_row V ca k _ _ h1⟩
theorem PilAt.top (h : PilAt V pb ca q ta P s b f u) {k : Nat} (hk : k < P) : V.cell? ⟨ta, k, none⟩ = some (.int .i64 (u k)) ∧ V.frozen? ⟨ta, k, none⟩ = false :=
  ⟨(cell_of_row V ta k _ _ _ h.tp).trans (arrS_get _ hk), frozen_of_row V ta k _ _ h.tp⟩
theorem PilAt.on (h : PilAt V pb ca q ta P s b f u) (e1 : V'.heap[pb]? = V.heap[pb]?) (e2 : V'.heap[ca]? = V.heap[ca]?) (e3 : V'.heap[ta]? = V.heap[ta]?) : PilAt V' pb ca q ta P s b f u := by
  refine ⟨e1.trans h.pl, ?_, e3.trans h.tp, h.n1, h.n2, h.n3⟩
  obtain ⟨C, h1, h2⟩ := h.ch
  exact ⟨C, e2.trans h1, h2⟩
theorem hSetR (w : World) (a : Addr) (k : Nat) (v : Value) (h : k ≠ a.block) : (w.setCell a v).heap[k]? = w.heap[k]? := by
  simp only [World.setCell, Array.getElem?_modify]
  rw [if_neg (fun e => h e.symm)]
theorem PilAt.setCh (h : PilAt V pb ca q ta P s b f u) {i : Nat} (hi : i < P) (z : Int) : PilAt (V.setCell ⟨ca, i, none⟩ (.int .i64 z)) pb ca q ta P s b (upI f i z) u := by
  refine ⟨(hSetR _ _ _ _ h.n1).trans h.pl, ?_, (hSetR _ _ _ _ (Ne.symm h.n3)).trans h.tp, h.n1, h.n2, h.n3⟩
  obtain ⟨C, h1, h2⟩ := h.ch
  refine ⟨C.setIfInBounds i (.int .i64 z), heap_setCell_same V ca i _ _ _ h1, fun k hk => ?_⟩
  unfold upI
  rw [Array.getElem?_setIfInBounds]
  by_cases e : i = k
  · subst e
    rw [if_pos rfl, if_pos rfl, if_pos (Array.getElem?_eq_some_iff.1 (h2 i hi)).1]
  · rw [if_neg e, if_neg (Ne.symm e)]; exact h2 k hk
theorem PilAt.setTp (h : PilAt V pb ca q ta P s b f u) (i : Nat) (z : Int) : PilAt (V.setCell ⟨ta, i, none⟩ (.int .i64 z)) pb ca q ta P s b f (upI u i z) := by
  refine ⟨(hSetR _ _ _ _ h.n2).trans h.pl, ?_, ?_, h.n1, h.n2, h.n3⟩
  · obtain ⟨C, h1, h2⟩ := h.ch
    exact ⟨C, (hSetR _ _ _ _ h.n3).trans h1, h2⟩
  · rw [heap_setCell_same V ta i _ _ _ h.tp, arrS_set]
    congr 2
    exact arrS_ext fun k _ => by unfold upI; by_cases e : k = i <;> simp [e]
theorem PilAt.same {f' u' : Nat → Int} (h : PilAt V pb ca q ta P s b f u) (e1 : ∀ k, k < P → f k = f' k) (e2 : ∀ k, k < P → u k = u' k) : PilAt V pb ca q ta P s b f' u' := by
  refine ⟨h.pl, ?_, ?_, h.n1, h.n2, h.n3⟩
  · obtain ⟨C, h1, h2⟩ := h.ch
    exact ⟨C, h1, fun k hk => by rw [h2 k hk, e1 k hk]⟩
  · rw [h.tp, arrS_ext (f := fun k => Value.int .i64 (u k)) (g := fun k => .int .i64 (u' k)) (fun k hk => by rw [e2 k hk])]
end
/-- A world that differs in two blocks. -/
def Two (x y : Nat) (w w' : World) : Prop := w'.os = w.os ∧ w'.tape = w.tape ∧ w'.output = w.output ∧ w'.heap.size = w.heap.size ∧ ∀ k, k ≠ x → k ≠ y → w'.heap[k]? = w.heap[k]?
theorem Two.refl (x y : Nat) (w : World) : Two x y w w := ⟨rfl, rfl, rfl, rfl, fun _ _ _ => rfl⟩
theorem Two.trans {x y : Nat} {w w' w'' : World} (h : Two x y w w') (k : Two x y w' w'') : Two x y w w'' := ⟨k.1.trans h.1, k.2.1.trans h.2.1, k.2.2.1.trans h.2.2.1, k.2.2.2.1.trans h.2.2.2.1, fun j h1 h2 => (k.2.2.2.2 j h1 h2).trans (h.2.2.2.2 j h1 h2)⟩
theorem Two.drew (x y : Nat) (w : World) : Two x y w w.drew := ⟨rfl, rfl, rfl, rfl, fun _ _ _ => rfl⟩
theorem Two.setL (x y : Nat) (w : World) (i : Nat) (v : Value) : Two x y w (w.setCell ⟨x, i, none⟩ v) := ⟨rfl, rfl, rfl, by simp, fun k h1 _ => hSetR _ _ _ _ h1⟩
theorem Two.setR (x y : Nat) (w : World) (i : Nat) (v : Value) : Two x y w (w.setCell ⟨y, i, none⟩ v) := ⟨rfl, rfl, rfl, by simp, fun k _ h2 => hSetR _ _ _ _ h2⟩
/-- What lies behind k's toppling t times. -/
def tpF (P s : Nat) (b : Nat → Nat → Int) (f : Nat → Int) (k : Nat) (t : Int) (j : Nat) : Int := (if j = k then f j - t * smS P (b k) else f j) + t * gvS P s b k j
def TopW (pb ca q ta P s : Nat) (b : Nat → Nat → Int) (f u : Nat → Int) (k : Nat) (t : Int) (w : World) (e : Ending) (w' : World) : Prop := e = .returned (.tuple #[]) ∧ PilAt w' pb ca q ta P s b (tpF P s b f k t) (upI u k (u k + t)) ∧ Two ca ta w w'
theorem gdX_d (P s : Nat) (b : Nat → Nat → Int) {k : Nat} (hk : k < 10) : gdF P s b (2 + k) = smS P (b k) := by
  unfold gdF
  rw [if_neg (by omega), if_neg (by omega), if_pos (by omega), show 2 + k - 2 = k by omega]
theorem gdX_g (P s : Nat) (b : Nat → Nat → Int) {k j : Nat} (hk : k < 10) (hj : j < 10) : gdF P s b (12 + k * 10 + j) = gvS P s b k j := by
  unfold gdF
  rw [if_neg (by omega), if_neg (by omega), if_neg (by omega), show (12 + k * 10 + j - 12) / 10 = k by omega, show (12 + k * 10 + j - 12) % 10 = j by omega]
theorem wrap_mid {x : Int} (h0 : -100000000 ≤ x) (h1 : x ≤ 100000000) : wrap64 x = x := by
  unfold wrap64; omega
set_option maxRecDepth 100000 in
set_option maxHeartbeats 6400000 in
theorem topple_any (pb ca q ta P s k : Nat) (t : Int) (b : Nat → Nat → Int) (f u : Nat → Int) (w : World) (h : PilAt w pb ca q ta P s b f u) (hP : P ≤ 10) (hk : k < P) (ht : 0 ≤ t ∧ t ≤ 100000) (hd : 0 ≤ smS P (b k) ∧ smS P (b k) ≤ 4000) (hg : ∀ j, 0 ≤ gvS P s b k j ∧ gvS P s b k j ≤ smS P (b k)) (hm : t * smS P (b k) ≤ 100000) (hf : ∀ j, j < P → 0 ≤ f j ∧ f j ≤ 100000) (hu : 0 ≤ u k ∧ u k ≤ 10000000) :
    Calls Tryd.prog 28 #[.pointer (some ⟨pb, 0, none⟩), .int .i64 (k : Int), .int .i64 t] w (TopW pb ca q ta P s b f u k t w) := by
  obtain ⟨dg, hdg⟩ : ∃ dg, smS P (b k) = dg := ⟨_, rfl⟩
  rw [hdg] at hd hg hm
  have m0 : 0 ≤ t * dg := Int.mul_nonneg ht.1 hd.1
  have W1 : wrap64 (t * dg) = t * dg := wrap_mid (by omega) (by omega)
  have W2 : wrap64 (f k - t * dg) = f k - t * dg := by have := hf k hk; exact wrap_mid (by omega) (by omega)
  have lk0 : (0 : Int) ≤ (k : Int) := by omega
  have lk1 : (k : Int) < (P : Int) := by omega
  have lk2 : (k : Int) < 10 := by omega
  have c0 := h.chs
  have c1 := h.ground (k := 2 + k) (by omega)
  rw [gdX_d P s b (by omega), hdg] at c1
  obtain ⟨c2, f2⟩ := h.chip hk
  have H0 := hide' h
  have HM := hide' (show ∀ j, 0 ≤ t * gvS P s b k j ∧ t * gvS P s b k j ≤ 100000 from fun j => ⟨Int.mul_nonneg ht.1 (hg j).1, Int.le_trans (Int.mul_le_mul_of_nonneg_left (hg j).2 ht.1) hm⟩)
  have HT := hide' ht
  have HF := hide' hf
  have HU := hide' hu
  have HD := hide' hdg
  have HPs := hide' hP
  have HK := hide' hk
  have HQ := hide' (show 0 ≤ t * dg ∧ t * dg ≤ 100000 from ⟨m0, hm⟩)
  clear h ht hf hu hdg hP hd hg hm m0
  go_enter Tryd.func28, Tryd.ntmps28
  go_upto_region 0 with fail
  go_region
  rw [W2]
  obtain ⟨X, hX⟩ : ∃ X, (w.setCell ⟨ca, k, none⟩ (.int .i64 (f k - t * dg))).drew = X := ⟨_, rfl⟩
  have PX := hide' (show PilAt X pb ca q ta P s b (upI f k (f k - t * dg)) u by rw [← hX]; exact (H0.out.setCh HK.out _).on rfl rfl rfl)
  have TX := hide' (show Two ca ta w X by rw [← hX]; exact (Two.setL ca ta w k _).trans (Two.drew _ _ _))
  rw [hX]
  clear hX c0 c1 c2 f2 W1 W2
  have c0 := PX.out.chs
  go_wp2
  go_loopw [30] (fun iv V => ∃ (i : Nat) (F : Nat → Int), iv = .int .i64 (i : Int) ∧ i ≤ P ∧ Hid (PilAt V pb ca q ta P s b F u ∧ ∀ j, F j = (if j = k then f j - t * dg else f j) + (if j < i then t * gvS P s b k j else 0)) ∧ Hid (Two ca ta w V)) (fun iv _ => P - (intOf iv).toNat)
  case atStart => exact ⟨0, _, rfl, by omega, hide' ⟨PX.out, fun j => by unfold upI; rw [if_neg (Nat.not_lt_zero j)]; by_cases e : j = k; { rw [if_pos e, if_pos e, e]; omega }; { rw [if_neg e, if_neg e]; omega }⟩, TX⟩
  case round =>
    obtain ⟨i, F, rfl, hi, KF, TW⟩ := hrel
    clear c0
    by_cases d : (i : Int) < (P : Int)
    · have hin : i < P := by omega
      have l0 : (0 : Int) ≤ (i : Int) := by omega
      have l2 : (i : Int) < 10 := by have := HPs.out; omega
      have c0 := KF.out.1.chs
      have c1 := KF.out.1.ground (k := 12 + k * 10 + i) (by have := HPs.out; omega)
      rw [gdX_g P s b (by have := HPs.out; omega) (by have := HPs.out; omega)] at c1
      obtain ⟨c2, f2⟩ := KF.out.1.chip hin
      obtain ⟨gv, hgv⟩ : ∃ gv, gvS P s b k i = gv := ⟨_, rfl⟩
      obtain ⟨x, hx⟩ : ∃ x, F i = x := ⟨_, rfl⟩
      rw [hgv] at c1
      rw [hx] at c2
      have hm := HM.out i
      rw [hgv] at hm
      have hxb : -100000 ≤ x ∧ x ≤ 200000 := by
        have h1 := KF.out.2 i
        rw [hx, if_neg (Nat.lt_irrefl i)] at h1
        have h2 := HF.out i hin
        have h3 := HQ.out
        split at h1 <;> omega
      have W1 : wrap64 (t * gv) = t * gv := wrap_mid (by omega) (by omega)
      have W2 : wrap64 (x + t * gv) = x + t * gv := wrap_mid (by omega) (by omega)
      have HGV := hide' hgv
      have HX := hide' hx
      clear hm hxb hgv hx
      go_upto_region 4 with fail
      go_region
      rw [W2]
      obtain ⟨Y, hY⟩ : ∃ Y, (wr.setCell ⟨ca, i, none⟩ (.int .i64 (x + t * gv))).drew = Y := ⟨_, rfl⟩
      have PY := hide' (show PilAt Y pb ca q ta P s b (upI F i (x + t * gv)) u ∧ ∀ j, (upI F i (x + t * gv)) j = (if j = k then f j - t * dg else f j) + (if j < i + 1 then t * gvS P s b k j else 0) by
        refine ⟨by rw [← hY]; exact (KF.out.1.setCh hin _).on rfl rfl rfl, fun j => ?_⟩
        unfold upI
        by_cases e : j = i
        · subst e
          have h1 := KF.out.2 j
          rw [HX.out, if_neg (Nat.lt_irrefl j)] at h1
          rw [if_pos rfl, if_pos (Nat.lt_succ_self j), HGV.out]
          omega
        · rw [if_neg e, KF.out.2 j]
          congr 1
          by_cases e2 : j < i
          · rw [if_pos e2, if_pos (by omega)]
          · rw [if_neg e2, if_neg (by omega)])
      have TY := hide' (show Two ca ta w Y by rw [← hY]; exact TW.out.trans ((Two.setL ca ta wr i _).trans (Two.drew _ _ _)))
      rw [hY]
      clear hY c0 c1 c2 f2 W1 W2 l0 l2
      have hP10 := HPs.out
      go_wp2
      exact ⟨⟨i + 1, _, by go_num, by omega, PY, TY⟩, by simp [intOf]; omega⟩
    · obtain rfl : i = P := by omega
      have c0 := KF.out.1.tps
      obtain ⟨c2, f2⟩ := KF.out.1.top HK.out
      obtain ⟨y, hy⟩ : ∃ y, u k = y := ⟨_, rfl⟩
      rw [hy] at c2
      have W1 : wrap64 (y + t) = y + t := by have h1 := HU.out; have h2 := HT.out; rw [hy] at h1; exact wrap_mid (by omega) (by omega)
      have HY := hide' hy
      clear hy
      go_wp2
      go_end0
      refine ⟨rfl, ((KF.out.1.setTp k _).same (fun j hj => ?_) (fun j _ => by rw [HY.out])), TW.out.trans (Two.setR ca ta wr k _)⟩
      rw [KF.out.2 j, if_pos hj]
      unfold tpF
      rw [HD.out]
end Go.Proofs.YtpajdmhgonmgoaaDoor

