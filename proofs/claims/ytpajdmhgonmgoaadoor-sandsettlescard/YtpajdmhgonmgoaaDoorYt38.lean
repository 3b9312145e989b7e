/-
  What the last text of this claim leans on, part 38: Ta1, Ta2.
-/
import Derived.Test.YtpajdmhgonmgoaaDoorYt35
namespace Go.Proofs.YtpajdmhgonmgoaaDoor
open Go.RowKit
set_option linter.unusedVariables false
set_option linter.unusedSimpArgs false
/-- How many edges join two places, of the first so many. -/
def nbS (xs : List EgT) (k j : Int) (i : Nat) : Int := smS i fun m => if ((xs.getD m egz).a = k ∧ (xs.getD m egz).b = j) ∨ ((xs.getD m egz).a = j ∧ (xs.getD m egz).b = k) then (xs.getD m egz).t else 0
theorem nbS_yes {xs : List EgT} {k j : Int} {i : Nat} (h : ((xs.getD i egz).a = k ∧ (xs.getD i egz).b = j) ∨ ((xs.getD i egz).a = j ∧ (xs.getD i egz).b = k)) : nbS xs k j (i + 1) = nbS xs k j i + (xs.getD i egz).t := by
  unfold nbS; simp only [smS]; rw [if_pos h]
theorem nbS_no {xs : List EgT} {k j : Int} {i : Nat} (h : ¬ (((xs.getD i egz).a = k ∧ (xs.getD i egz).b = j) ∨ ((xs.getD i egz).a = j ∧ (xs.getD i egz).b = k))) : nbS xs k j (i + 1) = nbS xs k j i := by
  unfold nbS; simp only [smS]; rw [if_neg h]; omega
theorem nbS_le {xs : List EgT} (h : tmB xs) (k j : Int) : ∀ {i : Nat}, i ≤ xs.length → 0 ≤ nbS xs k j i ∧ nbS xs k j i ≤ 100 * i
  | 0, _ => by simp [nbS, smS]
  | i + 1, hi => by
    have a := nbS_le h k j (i := i) (by omega)
    have b := h.2 i (by omega)
    by_cases c : ((xs.getD i egz).a = k ∧ (xs.getD i egz).b = j) ∨ ((xs.getD i egz).a = j ∧ (xs.getD i egz).b = k)
    · rw [nbS_yes c]; omega
    · rw [nbS_no c]; omega
/-- Of the first so many edges: what a place's topple has done. -/
def fiS (xs : List EgT) (s : Nat) (f : Nat → Int) (k : Nat) (t : Int) (i j : Nat) : Int := (if j = k then f j - t * dgS xs (k : Int) i else f j) + (if j = s then 0 else t * nbS xs (k : Int) (j : Int) i)
theorem fi_zero (xs : List EgT) (s : Nat) (f : Nat → Int) (k : Nat) (t : Int) (j : Nat) : fiS xs s f k t 0 j = f j := by
  unfold fiS dgS nbS; simp only [smS]; split <;> split <;> omega
section
variable {xs : List EgT} {s k i : Nat} {f : Nat → Int} {t : Int}
theorem fi_no (h : ¬ ((xs.getD i egz).a = (k : Int) ∨ (xs.getD i egz).b = (k : Int))) (j : Nat) : fiS xs s f k t (i + 1) j = fiS xs s f k t i j := by
  unfold fiS
  rw [dgS_no h, nbS_no (by omega)]
/-- An edge from k to o. -/
theorem fi_yes {o : Nat} (hok : o ≠ k) (h : ((xs.getD i egz).a = (k : Int) ∧ (xs.getD i egz).b = (o : Int)) ∨ ((xs.getD i egz).a = (o : Int) ∧ (xs.getD i egz).b = (k : Int))) (j : Nat) :
    fiS xs s f k t (i + 1) j = if j = k then fiS xs s f k t i k - t * (xs.getD i egz).t else if j = o ∧ o ≠ s then fiS xs s f k t i o + t * (xs.getD i egz).t else fiS xs s f k t i j := by
  unfold fiS
  rw [dgS_yes (by omega)]
  by_cases e1 : j = k
  · subst e1
    rw [if_pos rfl, if_pos rfl, if_pos rfl, nbS_no (by omega), Int.mul_add]
    omega
  · rw [if_neg e1, if_neg e1, if_neg e1]
    by_cases e2 : j = o
    · subst e2
      rw [nbS_yes h, Int.mul_add]
      by_cases e3 : j = s
      · rw [if_pos e3, if_neg (by omega), if_pos e3]
      · rw [if_neg e3, if_pos ⟨rfl, e3⟩, if_neg e1, if_neg e3]; omega
    · rw [nbS_no (by omega), if_neg (show ¬ (j = o ∧ o ≠ s) from fun h => e2 h.1)]
theorem fi_size (ht : tmB xs) (h0 : 0 ≤ t) (h1 : t ≤ 100000) (hi : i ≤ xs.length) (j : Nat) (hf : 0 ≤ f j ∧ f j ≤ 100000) : -1000000000 ≤ fiS xs s f k t i j ∧ fiS xs s f k t i j ≤ 1000000000 := by
  have a := dgS_le ht (k : Int) hi
  have b := nbS_le ht (k : Int) (j : Int) hi
  have c := ht.1
  have a1 : 0 ≤ t * dgS xs (k : Int) i := Int.mul_nonneg h0 a.1
  have a2 : t * dgS xs (k : Int) i ≤ 100000 * 4000 := Int.mul_le_mul h1 (by omega) a.1 (by omega)
  have b1 : 0 ≤ t * nbS xs (k : Int) (j : Int) i := Int.mul_nonneg h0 b.1
  have b2 : t * nbS xs (k : Int) (j : Int) i ≤ 100000 * 4000 := Int.mul_le_mul h1 (by omega) b.1 (by omega)
  unfold fiS
  split <;> split <;> omega
end
theorem nd_same {P : Nat} {xs : List EgT} (h : OkG P xs) (k j : Nat) : dgS xs (k : Int) xs.length = smS P (btX xs k) ∧ nbS xs (k : Int) (j : Int) xs.length = btX xs k j := by
  have key : ∀ i, i ≤ xs.length → dgS xs (k : Int) i = dgL ((xs.take i).map edS) k ∧ nbS xs (k : Int) (j : Int) i = btL ((xs.take i).map edS) k j := fun i => by
    induction i with
    | zero => intro _; exact ⟨rfl, rfl⟩
    | succ i ih =>
      intro hi
      obtain ⟨h1, h2⟩ := ih (by omega)
      have o := h.ok i (by omega)
      unfold badE at o
      have e : (xs.take (i + 1)).map edS = (xs.take i).map edS ++ [edS (xs.getD i egz)] := by
        rw [List.take_succ_eq_append_getElem (by omega), List.map_append, eg_at (by omega)]
        rfl
      rw [e, dg_app, bt_app, ← h1, ← h2]
      constructor
      · by_cases q : (xs.getD i egz).a = (k : Int) ∨ (xs.getD i egz).b = (k : Int)
        · rw [dgS_yes q]; unfold dgE edS; dsimp only; rw [if_pos (by omega)]
        · rw [dgS_no q]; unfold dgE edS; dsimp only; rw [if_neg (by omega)]; omega
      · by_cases q : ((xs.getD i egz).a = (k : Int) ∧ (xs.getD i egz).b = (j : Int)) ∨ ((xs.getD i egz).a = (j : Int) ∧ (xs.getD i egz).b = (k : Int))
        · rw [nbS_yes q]; unfold btE edS; dsimp only; rw [if_pos (by omega)]
        · rw [nbS_no q]; unfold btE edS; dsimp only; rw [if_neg (by omega)]; omega
  obtain ⟨h1, h2⟩ := key xs.length (Nat.le_refl _)
  rw [List.take_length] at h1 h2
  exact ⟨h1.trans (dg_sum h.okE' k).symm, h2⟩
/-- All edges: a topple. -/
theorem fi_all {P s k : Nat} {xs : List EgT} (h : OkG P xs) (f : Nat → Int) (t : Int) {j : Nat} (hj : j < P) : fiS xs s f k t xs.length j = tpF P s (btX xs) f k t j := by
  obtain ⟨h1, h2⟩ := nd_same h k j
  unfold fiS tpF gvS
  rw [h1, h2]
  by_cases e : j = s
  · simp [e]
  · simp [e, hj]
end Go.Proofs.YtpajdmhgonmgoaaDoor

namespace Go.Proofs.YtpajdmhgonmgoaaDoor
open Go.RowKit
set_option linter.unusedVariables false
set_option linter.unusedSimpArgs false
/-- Of what was there one block may differ. -/
structure One (g : Nat) (w w' : World) : Prop where
  os : w'.os = w.os
  tape : w'.tape = w.tape
  output : w'.output = w.output
  size : w.heap.size ≤ w'.heap.size
  block : ∀ k, k < w.heap.size → k ≠ g → w'.heap[k]? = w.heap[k]?
theorem One.refl (g : Nat) (w : World) : One g w w := ⟨rfl, rfl, rfl, Nat.le_refl _, fun _ _ _ => rfl⟩
theorem One.trans {g : Nat} {w w' w'' : World} (h : One g w w') (k : One g w' w'') : One g w w'' :=
  ⟨k.os.trans h.os, k.tape.trans h.tape, k.output.trans h.output, Nat.le_trans h.size k.size, fun i hi hg => (k.block i (Nat.lt_of_lt_of_le hi h.size) hg).trans (h.block i hi hg)⟩
theorem One.alloc {g : Nat} {w w' : World} (h : One g w w') (o : Obj) : One g w (w'.alloc o) :=
  ⟨h.os, h.tape, h.output, by have := h.size; simp; omega, fun k hk hg => (heap_alloc_old _ _ (Nat.lt_of_lt_of_le hk h.size)).trans (h.block k hk hg)⟩
theorem One.set {g : Nat} {w w' : World} (h : One g w w') (i : Nat) (v : Value) : One g w (w'.setCell ⟨g, i, none⟩ v) :=
  ⟨h.os, h.tape, h.output, by simpa using h.size, fun k hk hg => (hSetR _ _ _ _ hg).trans (h.block k hk hg)⟩
theorem One.drew {g : Nat} {w w' : World} (h : One g w w') : One g w w'.drew := ⟨h.os, h.tape, h.output, h.size, h.block⟩
theorem ArgE.one {g : Nat} {w w' : World} {xs : List EgT} {ea : Option Addr} {n c : Nat} (h : ArgE w xs ea n c) (hb : One g w w') (hg : ∀ b off, ea = some ⟨b, off, none⟩ → 0 < xs.length → b ≠ g) : ArgE w' xs ea n c :=
  ⟨h.len, h.max, fun k hk => by
    obtain ⟨b, off, e, hb', h1, h2, h3⟩ := h.cells k hk
    have q := hb.block b hb' (hg b off e (by omega))
    exact ⟨b, off, e, Nat.lt_of_lt_of_le hb' hb.size, (World.cell?_of_block (w := w) (a := ⟨b, off + k * 3, none⟩) q).trans h1, (World.cell?_of_block (w := w) (a := ⟨b, off + k * 3 + 1, none⟩) q).trans h2, (World.cell?_of_block (w := w) (a := ⟨b, off + k * 3 + 2, none⟩) q).trans h3⟩⟩
theorem rowA_cell {w : World} {g n : Nat} {f : Nat → Int} (h : RowAt w g n f) {k : Nat} (hk : k < n) : w.cell? ⟨g, k, none⟩ = some (.int .i64 (f k)) ∧ w.frozen? ⟨g, k, none⟩ = false := by
  obtain ⟨C, h1, h2⟩ := h
  exact ⟨(cell_of_row w g k _ _ _ h1).trans (h2 k hk), frozen_of_row w g k _ _ h1⟩
theorem rowA_on {w w' : World} {g n : Nat} {f : Nat → Int} (h : RowAt w g n f) (e : w'.heap[g]? = w.heap[g]?) : RowAt w' g n f := by
  obtain ⟨C, h1, h2⟩ := h
  exact ⟨C, e.trans h1, h2⟩
theorem rowA_lt {w : World} {g n : Nat} {f : Nat → Int} (h : RowAt w g n f) : g < w.heap.size := by
  obtain ⟨C, h1, h2⟩ := h
  exact ltS_of_block h1
theorem rowA_set {w : World} {g n : Nat} {f : Nat → Int} (h : RowAt w g n f) {i : Nat} (hi : i < n) (z : Int) : RowAt (w.setCell ⟨g, i, none⟩ (.int .i64 z)) g n (upI f i z) := by
  obtain ⟨C, h1, h2⟩ := h
  refine ⟨C.setIfInBounds i (.int .i64 z), heap_setCell_same w g i _ _ _ h1, fun k hk => ?_⟩
  unfold upI
  rw [Array.getElem?_setIfInBounds]
  by_cases e : i = k
  · subst e
    rw [if_pos rfl, if_pos rfl, if_pos (Array.getElem?_eq_some_iff.1 (h2 i hi)).1]
  · rw [if_neg e, if_neg (Ne.symm e)]; exact h2 k hk
theorem rowA_ext {w : World} {g n : Nat} {f f' : Nat → Int} (h : RowAt w g n f) (e : ∀ k, k < n → f k = f' k) : RowAt w g n f' := by
  obtain ⟨C, h1, h2⟩ := h
  exact ⟨C, h1, fun k hk => by rw [h2 k hk, e k hk]⟩
theorem wrap_big {x : Int} (h0 : -1000000000000 ≤ x) (h1 : x ≤ 1000000000000) : wrap64 x = x := by
  unfold wrap64; omega
set_option maxRecDepth 100000 in
set_option maxHeartbeats 6400000 in
/-- edenref6.topple. -/
theorem refTopple_any (P : Nat) (xs : List EgT) (ea : Option Addr) (n c s g q k : Nat) (t : Int) (f : Nat → Int) (w : World) (hE : ArgE w xs ea n c) (hg : ∀ b off, ea = some ⟨b, off, none⟩ → 0 < xs.length → b ≠ g) (ok : OkG P xs) (hk : k < P) (ht : 0 ≤ t ∧ t ≤ 100000) (hf : ∀ j, j < P → 0 ≤ f j ∧ f j ≤ 100000) (hR : RowAt w g P f) :
    Calls Tryd.prog 26 #[.agg #[.int .i64 (P : Int), .slice ea n c], .int .i64 (s : Int), .slice (some ⟨g, 0, none⟩) P q, .int .i64 (k : Int), .int .i64 t] w fun e w' => e = .returned (.tuple #[]) ∧ One g w w' ∧ RowAt w' g P (tpF P s (btX xs) f k t) := by
  obtain ⟨w1, hw1⟩ : ∃ w1, w.alloc (.cells #[.int .i64 (P : Int), .slice ea n c] 24) = w1 := ⟨_, rfl⟩
  have HW1 := hide' hw1
  have lg := rowA_lt hR
  have B1 := hide' (show One g w w1 by rw [← hw1]; exact (One.refl _ _).alloc _)
  have R1 := hide' (show w1.heap[w.heap.size]? = some (.cells #[.int .i64 (P : Int), .slice ea n c] 24 (0, 0)) by rw [← hw1]; exact heap_alloc_new _ _)
  have ROW1 := hide' (show RowAt w1 g P f by rw [← hw1]; exact rowA_on hR (heap_alloc_old _ _ lg))
  have LG := hide' lg
  have HE := hide' (fun (V : World) (h : One g w V) => hE.one h hg)
  have HL := hide' hE.len
  have nm := hE.max
  have OK := hide' ok
  have HK := hide' hk
  have HT := hide' ht
  have HF := hide' hf
  have TM := hide' (show tmB xs from ⟨ok.n4, fun j hj => by have := ok.ok j hj; unfold badE at this; omega⟩)
  have HG := hide' hg
  clear hw1 hE hg ok hk ht hf hR lg
  go_enter Tryd.func26, Tryd.ntmps26
  go_upto_region 1 with fail
  rw [HW1.out]
  go_wp2
  go_loopw [10] (fun iv wr => ∃ i : Nat, iv = .int .i64 (i : Int) ∧ i ≤ n ∧ Hid (One g w1 wr ∧ RowAt wr g P (fiS xs s f k t i))) (fun iv _ => n - (intOf iv).toNat)
  case atStart => exact ⟨0, rfl, by omega, hide' ⟨One.refl _ _, rowA_ext ROW1.out fun j _ => (fi_zero xs s f k t j).symm⟩⟩
  case round =>
    obtain ⟨i, rfl, hi, BW⟩ := hrel
    have R2 := (BW.out.1.block _ (ltS_of_block R1.out) (by have := LG.out; omega)).trans R1.out
    have y1 := cell_of_row wr _ 1 _ _ _ R2
    simp at y1
    clear R2
    by_cases d : (i : Int) < (n : Int)
    · have hl : i < xs.length := by have := HL.out; omega
      obtain ⟨b, off, rfl, hb, c0, c1, c2⟩ := (HE.out wr (B1.out.trans BW.out.1)).cells i hl
      obtain ⟨⟨p, r, T⟩, hx⟩ : ∃ x, xs[i] = x := ⟨_, rfl⟩
      rw [hx] at c0 c1 c2
      simp only at c0 c1 c2
      have EQ := hide' (show xs.getD i egz = ⟨p, r, T⟩ by rw [eg_at hl, hx])
      have ob := OK.out.ok i hl
      rw [EQ.out] at ob
      unfold badE at ob
      simp only at ob
      have OB := hide' ob
      obtain ⟨V, hV⟩ : ∃ V, wr.alloc (.cells #[.int .i64 p, .int .i64 r, .int .i64 T] 46) = V := ⟨_, rfl⟩
      obtain ⟨E, hE⟩ : ∃ E, wr.heap.size = E := ⟨_, rfl⟩
      have OV := hide' (show One g w1 V by rw [← hV]; exact BW.out.1.alloc _)
      have RV := hide' (show RowAt V g P (fiS xs s f k t i) by rw [← hV]; exact rowA_on BW.out.2 (heap_alloc_old _ _ (rowA_lt BW.out.2)))
      have EV := hide' (show V.heap[E]? = some (.cells #[.int .i64 p, .int .i64 r, .int .i64 T] 46 (0, 0)) by rw [← hV, ← hE]; exact heap_alloc_new _ _)
      have GE := hide' (show g ≠ E by have := rowA_lt BW.out.2; omega)
      have HV := hide' hV
      have HEE := hide' hE
      have NEXT := hide' (show ∀ (X : World), One g w1 X → RowAt X g P (fiS xs s f k t (i + 1)) → Hid (One g w1 X ∧ RowAt X g P (fiS xs s f k t (i + 1))) from fun X h1 h2 => hide' ⟨h1, h2⟩)
      clear hx ob hV hE hb
      by_cases e1 : p = (k : Int)
      · obtain ⟨o, ho⟩ := Int.eq_ofNat_of_zero_le (show 0 ≤ r by have := OB.out; omega)
        subst e1
        subst ho
        have OKo := hide' (show o ≠ k ∧ o < P by have := OB.out; omega)
        have ne := OKo.out.1
        have l0 : (0 : Int) ≤ (k : Int) := by omega
        have l1 : (k : Int) < (P : Int) := by have := HK.out; omega
        have o0 : (0 : Int) ≤ (o : Int) := by omega
        have o1 : (o : Int) < (P : Int) := by have := OKo.out.2; omega
        have YES := hide' (fun j : Nat => fi_yes (xs := xs) (s := s) (f := f) (t := t) (k := k) (i := i) (o := o) OKo.out.1 (by rw [EQ.out]; exact Or.inl ⟨rfl, rfl⟩) j)
        have tb := OB.out
        have W1 : wrap64 (t * T) = t * T := by
          have h1 := HT.out
          have h2 : 0 ≤ t * T := Int.mul_nonneg h1.1 (by omega)
          have h3 : t * T ≤ 100000 * 100 := Int.mul_le_mul h1.2 (by omega) (by omega) (by omega)
          exact wrap_big (by omega) (by omega)
        obtain ⟨x, hx⟩ : ∃ x, fiS xs s f k t i k = x := ⟨_, rfl⟩
        obtain ⟨y, hy⟩ : ∃ y, fiS xs s f k t i o = y := ⟨_, rfl⟩
        have W2 : wrap64 (x - t * T) = x - t * T := by
          have h1 := HT.out
          have h2 : 0 ≤ t * T := Int.mul_nonneg h1.1 (by omega)
          have h3 : t * T ≤ 100000 * 100 := Int.mul_le_mul h1.2 (by omega) (by omega) (by omega)
          have h4 := fi_size (xs := xs) (s := s) (k := k) TM.out h1.1 h1.2 (i := i) (by omega) k (HF.out k HK.out)
          rw [hx] at h4
          exact wrap_big (by omega) (by omega)
        have W3 : wrap64 (y + t * T) = y + t * T := by
          have h1 := HT.out
          have h2 : 0 ≤ t * T := Int.mul_nonneg h1.1 (by omega)
          have h3 : t * T ≤ 100000 * 100 := Int.mul_le_mul h1.2 (by omega) (by omega) (by omega)
          have h4 := fi_size (xs := xs) (s := s) (k := k) TM.out h1.1 h1.2 (i := i) (by omega) o (HF.out o OKo.out.2)
          rw [hy] at h4
          exact wrap_big (by omega) (by omega)
        have HX := hide' hx
        have HY := hide' hy
        clear hx hy tb ne
        go_upto_region 5 with fail
        rw [HV.out, HEE.out]
        have z0 := cell_of_row V _ 0 _ _ _ EV.out
        have z1 := cell_of_row V _ 1 _ _ _ EV.out
        have z2 := cell_of_row V _ 2 _ _ _ EV.out
        simp at z0 z1 z2
        have ck : ((o : Int) == (k : Int)) = false := by have := OKo.out.1; simp; omega
        go_upto_region 11 with fail
        clear c0 c1 c2 y1
        obtain ⟨c3, f3⟩ := rowA_cell RV.out HK.out
        rw [HX.out] at c3
        go_region
        rw [W2]
        obtain ⟨Y, hY⟩ : ∃ Y, (V.setCell ⟨g, k, none⟩ (.int .i64 (x - t * T))).drew = Y := ⟨_, rfl⟩
        have RY := hide' (show RowAt Y g P (upI (fiS xs s f k t i) k (x - t * T)) by rw [← hY]; exact rowA_on (rowA_set RV.out HK.out _) rfl)
        have OY := hide' (show One g w1 Y by rw [← hY]; exact (OV.out.set k _).drew)
        have EY := hide' (show Y.heap[E]? = some (.cells #[.int .i64 ((k : Nat) : Int), .int .i64 ((o : Nat) : Int), .int .i64 T] 46 (0, 0)) by rw [← hY]; exact (hSetR _ _ _ _ (Ne.symm GE.out)).trans EV.out)
        rw [hY]
        clear hY c3 f3 z0 z1 z2 W2
        have z2 := cell_of_row Y _ 2 _ _ _ EY.out
        simp at z2
        by_cases es : o = s
        · have cs : ((o : Int) != (s : Int)) = false := by simp [es]
          have NX := hide' (show RowAt Y g P (fiS xs s f k t (i + 1)) from rowA_ext RY.out fun j _ => by
            rw [YES.out j, EQ.out]
            unfold upI
            by_cases j1 : j = k
            · rw [if_pos j1, if_pos j1, HX.out]
            · rw [if_neg j1, if_neg j1, if_neg (fun h => h.2 es)])
          clear es
          go_wp2
          exact ⟨⟨i + 1, by go_num, by omega, NEXT.out _ OY.out NX.out⟩, by simp [intOf]; omega⟩
        · have cs : ((o : Int) != (s : Int)) = true := by simp; omega
          have ES := hide' es
          clear es
          go_upto_region 13 with fail
          obtain ⟨c3, f3⟩ := rowA_cell RY.out OKo.out.2
          rw [show upI (fiS xs s f k t i) k (x - t * T) o = y by unfold upI; rw [if_neg OKo.out.1, HY.out]] at c3
          go_region
          rw [W3]
          obtain ⟨Z, hZ⟩ : ∃ Z, (Y.setCell ⟨g, o, none⟩ (.int .i64 (y + t * T))).drew = Z := ⟨_, rfl⟩
          have RZ := hide' (show RowAt Z g P (upI (upI (fiS xs s f k t i) k (x - t * T)) o (y + t * T)) by rw [← hZ]; exact rowA_on (rowA_set RY.out OKo.out.2 _) rfl)
          have OZ := hide' (show One g w1 Z by rw [← hZ]; exact (OY.out.set o _).drew)
          have NX := hide' (show RowAt Z g P (fiS xs s f k t (i + 1)) from rowA_ext RZ.out fun j _ => by
            rw [YES.out j, EQ.out]
            unfold upI
            by_cases j1 : j = k
            · rw [if_pos j1, if_neg (by have := OKo.out.1; omega), if_pos j1, HX.out]
            · by_cases j2 : j = o
              · rw [if_pos j2, if_neg j1, if_pos ⟨j2, ES.out⟩, HY.out]
              · rw [if_neg j2, if_neg j1, if_neg j1, if_neg (fun h => j2 h.1)])
          rw [hZ]
          clear hZ c3 f3 W3 z2
          go_wp2
          exact ⟨⟨i + 1, by go_num, by omega, NEXT.out _ OZ.out NX.out⟩, by simp [intOf]; omega⟩
      · by_cases e2 : r = (k : Int)
        · obtain ⟨o, ho⟩ := Int.eq_ofNat_of_zero_le (show 0 ≤ p by have := OB.out; omega)
          subst e2
          subst ho
          have OKo := hide' (show o ≠ k ∧ o < P by have := OB.out; omega)
          have ne := OKo.out.1
          have l0 : (0 : Int) ≤ (k : Int) := by omega
          have l1 : (k : Int) < (P : Int) := by have := HK.out; omega
          have o0 : (0 : Int) ≤ (o : Int) := by omega
          have o1 : (o : Int) < (P : Int) := by have := OKo.out.2; omega
          have YES := hide' (fun j : Nat => fi_yes (xs := xs) (s := s) (f := f) (t := t) (k := k) (i := i) (o := o) OKo.out.1 (by rw [EQ.out]; exact Or.inr ⟨rfl, rfl⟩) j)
          have tb := OB.out
          have W1 : wrap64 (t * T) = t * T := by
            have h1 := HT.out
            have h2 : 0 ≤ t * T := Int.mul_nonneg h1.1 (by omega)
            have h3 : t * T ≤ 100000 * 100 := Int.mul_le_mul h1.2 (by omega) (by omega) (by omega)
            exact wrap_big (by omega) (by omega)
          obtain ⟨x, hx⟩ : ∃ x, fiS xs s f k t i k = x := ⟨_, rfl⟩
          obtain ⟨y, hy⟩ : ∃ y, fiS xs s f k t i o = y := ⟨_, rfl⟩
          have W2 : wrap64 (x - t * T) = x - t * T := by
            have h1 := HT.out
            have h2 : 0 ≤ t * T := Int.mul_nonneg h1.1 (by omega)
            have h3 : t * T ≤ 100000 * 100 := Int.mul_le_mul h1.2 (by omega) (by omega) (by omega)
            have h4 := fi_size (xs := xs) (s := s) (k := k) TM.out h1.1 h1.2 (i := i) (by omega) k (HF.out k HK.out)
            rw [hx] at h4
            exact wrap_big (by omega) (by omega)
          have W3 : wrap64 (y + t * T) = y + t * T := by
            have h1 := HT.out
            have h2 : 0 ≤ t * T := Int.mul_nonneg h1.1 (by omega)
            have h3 : t * T ≤ 100000 * 100 := Int.mul_le_mul h1.2 (by omega) (by omega) (by omega)
            have h4 := fi_size (xs := xs) (s := s) (k := k) TM.out h1.1 h1.2 (i := i) (by omega) o (HF.out o OKo.out.2)
            rw [hy] at h4
            exact wrap_big (by omega) (by omega)
          have HX := hide' hx
          have HY := hide' hy
          clear hx hy tb ne
          go_upto_region 5 with fail
          rw [HV.out, HEE.out]
          have z0 := cell_of_row V _ 0 _ _ _ EV.out
          have z1 := cell_of_row V _ 1 _ _ _ EV.out
          have z2 := cell_of_row V _ 2 _ _ _ EV.out
          simp at z0 z1 z2
          have ck : ((o : Int) == (k : Int)) = false := by have := OKo.out.1; simp; omega
          go_upto_region 11 with fail
          clear c0 c1 c2 y1
          obtain ⟨c3, f3⟩ := rowA_cell RV.out HK.out
          rw [HX.out] at c3
          go_region
          rw [W2]
          obtain ⟨Y, hY⟩ : ∃ Y, (V.setCell ⟨g, k, none⟩ (.int .i64 (x - t * T))).drew = Y := ⟨_, rfl⟩
          have RY := hide' (show RowAt Y g P (upI (fiS xs s f k t i) k (x - t * T)) by rw [← hY]; exact rowA_on (rowA_set RV.out HK.out _) rfl)
          have OY := hide' (show One g w1 Y by rw [← hY]; exact (OV.out.set k _).drew)
          have EY := hide' (show Y.heap[E]? = some (.cells #[.int .i64 ((o : Nat) : Int), .int .i64 ((k : Nat) : Int), .int .i64 T] 46 (0, 0)) by rw [← hY]; exact (hSetR _ _ _ _ (Ne.symm GE.out)).trans EV.out)
          rw [hY]
          clear hY c3 f3 z0 z1 z2 W2
          have z2 := cell_of_row Y _ 2 _ _ _ EY.out
          simp at z2
          by_cases es : o = s
          · have cs : ((o : Int) != (s : Int)) = false := by simp [es]
            have NX := hide' (show RowAt Y g P (fiS xs s f k t (i + 1)) from rowA_ext RY.out fun j _ => by
              rw [YES.out j, EQ.out]
              unfold upI
              by_cases j1 : j = k
              · rw [if_pos j1, if_pos j1, HX.out]
              · rw [if_neg j1, if_neg j1, if_neg (fun h => h.2 es)])
            clear es
            go_wp2
            exact ⟨⟨i + 1, by go_num, by omega, NEXT.out _ OY.out NX.out⟩, by simp [intOf]; omega⟩
          · have cs : ((o : Int) != (s : Int)) = true := by simp; omega
            have ES := hide' es
            clear es
            go_upto_region 13 with fail
            obtain ⟨c3, f3⟩ := rowA_cell RY.out OKo.out.2
            rw [show upI (fiS xs s f k t i) k (x - t * T) o = y by unfold upI; rw [if_neg OKo.out.1, HY.out]] at c3
            go_region
            rw [W3]
            obtain ⟨Z, hZ⟩ : ∃ Z, (Y.setCell ⟨g, o, none⟩ (.int .i64 (y + t * T))).drew = Z := ⟨_, rfl⟩
            have RZ := hide' (show RowAt Z g P (upI (upI (fiS xs s f k t i) k (x - t * T)) o (y + t * T)) by rw [← hZ]; exact rowA_on (rowA_set RY.out OKo.out.2 _) rfl)
            have OZ := hide' (show One g w1 Z by rw [← hZ]; exact (OY.out.set o _).drew)
            have NX := hide' (show RowAt Z g P (fiS xs s f k t (i + 1)) from rowA_ext RZ.out fun j _ => by
              rw [YES.out j, EQ.out]
              unfold upI
              by_cases j1 : j = k
              · rw [if_pos j1, if_neg (by have := OKo.out.1; omega), if_pos j1, HX.out]
              · by_cases j2 : j = o
                · rw [if_pos j2, if_neg j1, if_pos ⟨j2, ES.out⟩, HY.out]
                · rw [if_neg j2, if_neg j1, if_neg j1, if_neg (fun h => j2 h.1)])
            rw [hZ]
            clear hZ c3 f3 W3 z2
            go_wp2
            exact ⟨⟨i + 1, by go_num, by omega, NEXT.out _ OZ.out NX.out⟩, by simp [intOf]; omega⟩
        · have k1 : (p == (k : Int)) = false := by simpa using e1
          have k2 : (r == (k : Int)) = false := by simpa using e2
          have NX := hide' (show RowAt V g P (fiS xs s f k t (i + 1)) from rowA_ext RV.out fun j _ => (fi_no (by rw [EQ.out]; show ¬ (p = (k : Int) ∨ r = (k : Int)); omega) j).symm)
          go_upto_region 5 with fail
          rw [HV.out, HEE.out]
          have z0 := cell_of_row V _ 0 _ _ _ EV.out
          have z1 := cell_of_row V _ 1 _ _ _ EV.out
          simp at z0 z1
          go_wp2
          exact ⟨⟨i + 1, by go_num, by omega, NEXT.out _ OV.out NX.out⟩, by simp [intOf]; omega⟩
    · obtain rfl : i = n := by omega
      have FIN := hide' (B1.out.trans BW.out.1)
      have FR := hide' (show RowAt wr g P (tpF P s (btX xs) f k t) from rowA_ext BW.out.2 fun j hj => by rw [HL.out]; exact fi_all OK.out f t hj)
      go_wp2
      go_end0
      exact ⟨rfl, FIN.out, FR.out⟩
end Go.Proofs.YtpajdmhgonmgoaaDoor

