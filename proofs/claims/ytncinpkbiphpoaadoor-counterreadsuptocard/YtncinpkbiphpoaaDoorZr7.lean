/-
  What the last text of this claim leans on, part 7: Ck4, Ck5.
-/
import Derived.Test.YtncinpkbiphpoaaDoorZr6
namespace Go.Proofs.YtncinpkbiphpoaaDoor
open Go.RowKit
set_option linter.unusedVariables false
theorem spN_more : ∀ (k : Nat) (l : List UInt8), l.length ≤ k → spN (k + 1) l = spN k l
  | 0, l, h => by
    have e : l = [] := List.eq_nil_of_length_eq_zero (by omega)
    subst e
    rfl
  | k + 1, l, h => by
    by_cases q : Lib.indexByte l 32 = -1
    · rw [spN_none q, spN_none q]
    · obtain ⟨i, hi, il, -⟩ := byte_split q
      rw [spN_some hi, spN_some hi, spN_more k _ (by simp; omega)]
theorem spN_few {l : List UInt8} (h : l.length < 4) : spN l.length l = spN 4 l := by
  have g : ∀ d, spN (l.length + d) l = spN l.length l := fun d => by
    induction d with
    | zero => rfl
    | succ d ih => rw [← Nat.add_assoc, spN_more _ _ (by omega), ih]
  have := g (4 - l.length)
  rw [show l.length + (4 - l.length) = 4 by omega] at this
  exact this.symm
set_option maxRecDepth 100000 in
theorem splitN_any (l : List UInt8) (w : World) (hl : l.length ≤ 1048576) : Calls Tryd.prog 19 #[.string ⟨l.toArray⟩, .string ⟨#[32]⟩, .int .i64 5] w (SpOut (spN 4 l) w) := by
  have GS := hide' (fun V => show Calls Tryd.prog 29 #[.string ⟨l.toArray⟩, .string ⟨#[32]⟩, .int .i64 0, .int .i64 5] V (SpOut (spN 4 l) V) from by
    by_cases h : 4 ≤ l.length
    · exact genSplit_any l V 5 4 rfl (Or.inl ⟨rfl, h⟩) hl
    · rw [← spN_few (by omega)]
      exact genSplit_any l V (l.length + 1) l.length rfl (Or.inr ⟨rfl, by omega⟩) hl)
  obtain ⟨ps, hp⟩ : ∃ ps, spN 4 l = ps := ⟨_, rfl⟩
  rw [hp] at GS ⊢
  clear hp
  go_enter Tryd.func19, Tryd.ntmps19
  go_wp2_with fail
  refine (GS.out _).mono ?_
  rintro e w1 ⟨g, q, f, rfl, h1, h2, h3, h4, h5⟩
  have HH := hide' (show SpOut ps w (.returned (.slice (some ⟨g, 0, none⟩) ps.length q)) w1 from ⟨g, q, f, rfl, h1, h2, h3, h4, h5⟩)
  clear h1 h2 h3 h4 h5
  go_wp2
  go_ret
  exact HH.out
end Go.Proofs.YtncinpkbiphpoaaDoor

namespace Go.Proofs.YtncinpkbiphpoaaDoor
open Go.RowKit
set_option linter.unusedVariables false
theorem toList_mk (l : List UInt8) : (⟨l.toArray⟩ : ByteArray).toList = l := by rw [ByteArray.toList_eq]
theorem spN_pos (k : Nat) (l : List UInt8) : 0 < (spN k l).length := by
  cases k with
  | zero => simp [spN]
  | succ k => rw [spN]; split <;> simp
theorem opW_lt (l : List UInt8) : opW l < 4 := by
  unfold opW
  split
  · omega
  · split
    · omega
    · split <;> omega
set_option maxRecDepth 100000 in
set_option maxHeartbeats 3200000 in
theorem readLine_word (l : List UInt8) (w : World) (hl : l.length ≤ 1048576) (hU : UsT w) (hW : WoT w) (hr : opW ((spN 4 l).getD 0 []) = 0 ∨ (((spN 4 l).length : Int) ≠ 1 + usN (opW ((spN 4 l).getD 0 [])))) :
    Calls Tryd.prog 14 #[.string ⟨l.toArray⟩] w fun e w' => e = .returned (.tuple #[.agg #[.int .i64 0, .int .i64 0, .int .i64 0, .int .i64 0], errOf 2]) ∧ Below w.heap.size w w' := by
  have E := hide' (errOf_is (f := 2) (by omega))
  have SN := hide' (fun V => splitN_any l V hl)
  have P0 := hide' (spN_pos 4 l)
  obtain ⟨ps, hp⟩ : ∃ ps, spN 4 l = ps := ⟨_, rfl⟩
  rw [hp] at SN P0 hr
  have HU := hide' (fun (V : World) (h : Below w.heap.size w V) => hU.below h)
  have HW := hide' (fun (V : World) (h : Below w.heap.size w V) => hW.below h)
  have HR := hide' hr
  clear hp hU hW hr
  go_enter Tryd.func14, Tryd.ntmps14
  go_wp2_with fail
  refine (SN.out _).mono ?_
  rintro e w1 ⟨g, q, f, rfl, hq, hS, hps, hg, hb⟩
  have B1 := hide' (show Below w.heap.size w w1 from ((Below.refl _ w).alloc (Nat.le_refl _) _).trans (hb.mono (by simp)))
  have R1 := hide' (show w1.heap[w.heap.size]? = some (.cells #[.int .i64 0, .int .i64 0, .int .i64 0, .int .i64 0] 34 (0, 0)) from (hb.block _ (by simp)).trans (heap_alloc_new _ _))
  have p0 := P0.out
  have F0 := hide' (show ps.getD 0 [] = f 0 by rw [hps]; simp [List.getD, p0])
  have c0 := hS.cell 0 (by omega)
  have l0 : (0 : Int) < (ps.length : Int) := by omega
  have OP := hide' (fun V (h : WoT V) => opOf_any ⟨(f 0).toArray⟩ V h)
  rw [toList_mk] at OP
  rw [F0.out] at HR
  have fr := frozen_of_row w1 _ 0 _ _ R1.out
  obtain ⟨o, ho⟩ : ∃ o, opW (f 0) = o := ⟨_, rfl⟩
  rw [ho] at OP HR
  have o4 : o < 4 := by rw [← ho]; exact opW_lt _
  have u1 := HU.out w1 B1.out o o4
  have o0 : (0 : Int) ≤ (o : Int) := by omega
  have o4' : (o : Int) < 4 := by omega
  have U1 := hide' u1
  have FR := hide' fr
  have P1 := hide' p0
  obtain ⟨P, hP⟩ : ∃ P, ps.length = P := ⟨_, rfl⟩
  rw [hP] at l0 ⊢
  have HP := hide' hP
  clear hb hS hps hq ho hg p0 u1 fr o0 o4' hP
  go_wp2_with fail
  refine (OP.out w1 (HW.out w1 B1.out)).mono ?_
  rintro e w2 ⟨rfl, rfl⟩
  have hr := HR.out
  rw [HP.out] at hr
  have f0 := frozen_of_row w2 _ 0 _ _ R1.out
  have f1 := frozen_of_row w2 _ 1 _ _ R1.out
  have f2 := frozen_of_row w2 _ 2 _ _ R1.out
  have f3 := frozen_of_row w2 _ 3 _ _ R1.out
  have d0 := cell_of_row w2 _ 0 _ _ _ R1.out
  have d1 := cell_of_row w2 _ 1 _ _ _ R1.out
  have d2 := cell_of_row w2 _ 2 _ _ _ R1.out
  have d3 := cell_of_row w2 _ 3 _ _ _ R1.out
  simp at d0 d1 d2 d3
  rcases (show o = 0 ∨ o = 1 ∨ o = 2 ∨ o = 3 by omega) with rfl | rfl | rfl | rfl
  · clear hr
    go_wp2
    refine bodyPost_ret (v := .tuple #[.agg #[.int .i64 0, .int .i64 0, .int .i64 0, .int .i64 0], .iface 38 (.int .i64 2)]) (by simp [results, Tryd.results14, go_sem, d0, d1, d2, d3]) rfl ?_
    refine ⟨by rw [E.out]; rfl, ?_⟩
    repeat (first | exact B1.out | refine Below.setCell ?_ (by simp) _)
  · have n1 : ((P : Int) == 3) = false := by
      rcases hr with h | h
      · omega
      · have h' : ¬ (P : Int) = 3 := h
        simpa using h'
    have v1 : w2.cell? ⟨0, 1, none⟩ = some (.int .i64 2) := U1.out
    clear hr
    go_wp2
    refine bodyPost_ret (v := .tuple #[.agg #[.int .i64 0, .int .i64 0, .int .i64 0, .int .i64 0], .iface 38 (.int .i64 2)]) (by simp [results, Tryd.results14, go_sem, d0, d1, d2, d3]) rfl ?_
    refine ⟨by rw [E.out]; rfl, ?_⟩
    repeat (first | exact B1.out | refine Below.setCell ?_ (by simp) _)
  · have n2 : ((P : Int) == 4) = false := by
      rcases hr with h | h
      · omega
      · have h' : ¬ (P : Int) = 4 := h
        simpa using h'
    have v2 : w2.cell? ⟨0, 2, none⟩ = some (.int .i64 3) := U1.out
    clear hr
    go_wp2
    refine bodyPost_ret (v := .tuple #[.agg #[.int .i64 0, .int .i64 0, .int .i64 0, .int .i64 0], .iface 38 (.int .i64 2)]) (by simp [results, Tryd.results14, go_sem, d0, d1, d2, d3]) rfl ?_
    refine ⟨by rw [E.out]; rfl, ?_⟩
    repeat (first | exact B1.out | refine Below.setCell ?_ (by simp) _)
  · have n3 : ((P : Int) == 1) = false := by
      rcases hr with h | h
      · omega
      · have h' : ¬ (P : Int) = 1 := h
        simpa using h'
    have v3 : w2.cell? ⟨0, 3, none⟩ = some (.int .i64 0) := U1.out
    clear hr
    go_wp2
    refine bodyPost_ret (v := .tuple #[.agg #[.int .i64 0, .int .i64 0, .int .i64 0, .int .i64 0], .iface 38 (.int .i64 2)]) (by simp [results, Tryd.results14, go_sem, d0, d1, d2, d3]) rfl ?_
    refine ⟨by rw [E.out]; rfl, ?_⟩
    repeat (first | exact B1.out | refine Below.setCell ?_ (by simp) _)
end Go.Proofs.YtncinpkbiphpoaaDoor

