/-
  What the last text of this claim leans on, part 10: Ke2, Ke3, Ke4.
-/
import Derived.Test.YtpajdmhgonmgoaaDoorYs9
import Derived.Test.YtpajdmhgonmgoaaDoorYs5
namespace Go.Proofs.YtpajdmhgonmgoaaDoor
open Go.RowKit
set_option linter.unusedVariables false
set_option linter.unusedSimpArgs false
theorem ok_edS {P : Nat} {x : EgT} (h : ¬ badE (P : Int) x) : okE P (edS x) := by
  unfold badE at h
  unfold okE edS
  simp only []
  omega
theorem OkG.okE' {P : Nat} {xs : List EgT} (h : OkG P xs) : ∀ e ∈ xs.map edS, Go.Proofs.YtpajdmhgonmgoaaDoor.okE P e := fun e he => by
  obtain ⟨x, hx, rfl⟩ := List.mem_map.1 he
  obtain ⟨j, hj, rfl⟩ := List.mem_iff_getElem.1 hx
  have := h.ok j hj
  rw [eg_at hj] at this
  exact ok_edS this
theorem OkG.okE {P : Nat} {xs : List EgT} (h : OkG P xs) (i : Nat) : ∀ e ∈ (xs.take i).map edS, Go.Proofs.YtpajdmhgonmgoaaDoor.okE P e := fun e he => by
  obtain ⟨x, hx, rfl⟩ := List.mem_map.1 he
  exact h.okE' _ (List.mem_map.2 ⟨x, List.mem_of_mem_take hx, rfl⟩)
/-- How many edges two places have. -/
def btX (xs : List EgT) : Nat → Nat → Int := btL (xs.map edS)
def LayX (w : World) (P s : Nat) (xs : List EgT) (e : Ending) (w' : World) : Prop := e = .returned (.agg (arrS 112 fun k => .int .i64 (gdF P s (btX xs) k))) ∧ Below w.heap.size w w'
set_option maxRecDepth 100000 in
set_option maxHeartbeats 6400000 in
theorem layX_any (P : Nat) (xs : List EgT) (ea : Option Addr) (n c : Nat) (s : Nat) (w : World) (hE : ArgE w xs ea n c) (hO : OkG P xs) (hs : s < P) :
    Calls Tryd.prog 32 #[.agg #[.int .i64 (P : Int), .slice ea n c], .int .i64 (s : Int)] w (LayX w P s xs) := by
  obtain ⟨w1, hw1⟩ : ∃ w1, w.alloc (.cells #[.int .i64 (P : Int), .slice ea n c] 24) = w1 := ⟨_, rfl⟩
  have HW1 := hide' hw1
  have B1 := hide' (show Below w.heap.size w w1 by rw [← hw1]; exact (Below.refl _ _).alloc (Nat.le_refl _) _)
  have R1 := hide' (show w1.heap[w.heap.size]? = some (.cells #[.int .i64 (P : Int), .slice ea n c] 24 (0, 0)) by rw [← hw1]; exact heap_alloc_new _ _)
  have HE := hide' (fun (V : World) (h : Below w.heap.size w V) => hE.below h)
  have HL := hide' hE.len
  have OK := hide' hO
  have n4 : n ≤ 40 := by rw [hE.len]; exact hO.n4
  have HS := hide' hs
  clear hw1 hE hO hs
  have zv := zero_groundS
  obtain ⟨Z, hZ⟩ : ∃ Z, (arrS 112 fun _ => Value.int .i64 0) = Z := ⟨_, rfl⟩
  rw [hZ] at zv
  go_enter Tryd.func32, Tryd.ntmps32
  go_upto_region 1 with fail
  rw [HW1.out]
  obtain ⟨rb, hrb⟩ : ∃ rb, w.heap.size + 1 = rb := ⟨_, rfl⟩
  obtain ⟨w2, hw2⟩ : ∃ w2, w1.alloc (.cells Z 58) = w2 := ⟨_, rfl⟩
  have S1 : w1.heap.size = rb := by have := HW1.out; rw [← this]; simp; exact hrb
  have RB := hide' (show w2.heap[rb]? = some (.cells Z 58 (0, 0)) by rw [← hw2, ← S1]; exact heap_alloc_new _ _)
  have B2 := hide' (show Below w.heap.size w w2 by rw [← hw2]; exact B1.out.alloc B1.out.size _)
  have R2 := hide' (show w2.heap[w.heap.size]? = some (.cells #[.int .i64 (P : Int), .slice ea n c] 24 (0, 0)) by rw [← hw2]; exact (heap_alloc_old _ _ (ltS_of_block R1.out)).trans R1.out)
  have LR := hide' (show w.heap.size < rb by omega)
  rw [hrb, hw2]
  clear hw2 S1 hrb
  have y0 := cell_of_row w2 _ 0 _ _ _ R2.out
  simp at y0
  obtain ⟨F0, eF0, hF0⟩ : ∃ F0 : Nat → Int, F0 = gdP P s [] ∧ ((arrS 112 fun _ => Value.int .i64 0).setIfInBounds 0 (.int .i64 (P : Int))).setIfInBounds 1 (.int .i64 (s : Int)) = arrS 112 fun k => .int .i64 (F0 k) := ⟨gdP P s [], rfl, by
    rw [show (arrS 112 fun _ => Value.int .i64 0) = arrS 112 fun k => .int .i64 ((fun _ => (0 : Int)) k) from rfl, set_arrI, set_arrI]
    exact arrS_ext fun k _ => by
      rw [gdP_nil]; unfold upI
      by_cases k1 : k = 1
      · subst k1; simp
      · by_cases k0 : k = 0
        · subst k0; simp
        · simp [k0, k1]⟩
  rw [hZ] at hF0
  obtain ⟨C, hC⟩ : ∃ C, (Z.setIfInBounds 0 (.int .i64 (P : Int))).setIfInBounds 1 (.int .i64 (s : Int)) = C := ⟨_, rfl⟩
  have HC := hide' (show C = arrS 112 fun k => .int .i64 (F0 k) by rw [← hC]; exact hF0)
  have G0 := heap_alloc_new w2 (.cells Z 58)
  have ZS : Z.size = 112 := by rw [← hZ, arrS_size]
  have CS := hide' (show C.size = 112 by rw [HC.out, arrS_size])
  have CA := hide' (show C.all (·.oneCell') = true by rw [HC.out]; exact arrS_all _ _)
  have HCC := hide' hC
  have zn : ¬ Z = #[] := fun e => by rw [e] at ZS; simp at ZS
  have EF0 := hide' eF0
  clear hF0 hZ hC eF0
  go_upto_region 2 with (refine wpList_store_row rfl 58 _ _ rfl w2.heap.size C rfl (by show Value.agg _ = _; rw [HCC.out]) 58 Z G0 (by rw [CS.out]; exact size_ground) (by rw [CS.out]; exact ZS) CA.out ?_)
  obtain ⟨gb, hgb⟩ : ∃ gb, w2.heap.size = gb := ⟨_, rfl⟩
  obtain ⟨w3, hw3⟩ : ∃ w3, (w2.alloc (.cells Z 58)).setRow gb C = w3 := ⟨_, rfl⟩
  rw [hgb] at G0
  have K3 := hide' (show GrI w3 gb F0 by rw [← hw3]; unfold GrI; rw [setRow_heap _ _ _ _ _ _ G0, HC.out])
  have B3 := hide' (show Below w.heap.size w w3 by rw [← hw3]; exact below_setRow (B2.out.alloc B2.out.size _) (by have := B2.out.size; omega) _)
  have LG := hide' (show rb < gb by rw [← hgb]; exact ltS_of_block RB.out)
  have R3 := hide' (show w3.heap[w.heap.size]? = some (.cells #[.int .i64 (P : Int), .slice ea n c] 24 (0, 0)) by
    rw [← hw3, heap_setRow_other _ _ _ _ (by have := LR.out; have := LG.out; omega)]
    exact (heap_alloc_old _ _ (ltS_of_block R2.out)).trans R2.out)
  have Q3 := hide' (show w3.heap[rb]? = some (.cells Z 58 (0, 0)) by
    rw [← hw3, heap_setRow_other _ _ _ _ (by have := LG.out; omega)]
    exact (heap_alloc_old _ _ (ltS_of_block RB.out)).trans RB.out)
  rw [hgb, hw3]
  clear hgb hw3 G0 y0
  have y1 := cell_of_row w3 _ 1 _ _ _ R3.out
  simp at y1
  go_wp2
  go_loopw [15] (fun iv V => ∃ (i : Nat), iv = .int .i64 (i : Int) ∧ i ≤ n ∧ Hid (GrI V gb (gdP P s ((xs.take i).map edS))) ∧ Hid (Below w.heap.size w V) ∧ Hid (V.heap[rb]? = some (.cells Z 58 (0, 0)))) (fun iv _ => n - (intOf iv).toNat)
  case atStart => exact ⟨0, rfl, by omega, hide' (by have := K3.out; rw [EF0.out] at this; exact this), B3, Q3⟩
  case round =>
    obtain ⟨i, rfl, hi, KFF, BW, QW⟩ := hrel
    obtain ⟨F, hF⟩ : ∃ F, gdP P s ((xs.take i).map edS) = F := ⟨_, rfl⟩
    have FB := hide' (show (∀ k, 0 ≤ F k ∧ F k ≤ 4000) ∧ F 1 = (s : Int) by
      rw [← hF]
      exact ⟨fun k => gdP_size OK.out.p2 (by have := HS.out; have := OK.out.p2; omega) (by have := OK.out.n4; simp; omega) (OK.out.okE i) k, rfl⟩)
    have KF := hide' (show GrI wr gb F by rw [← hF]; exact KFF.out)
    have HF := hide' hF
    clear KFF hF
    clear y1
    by_cases d : (i : Int) < (n : Int)
    · have hl : i < xs.length := by have := HL.out; omega
      obtain ⟨g, off, rfl, hg, c0, c1, c2⟩ := (HE.out wr BW.out).cells i hl
      obtain ⟨⟨p, q, t⟩, hx⟩ : ∃ x, xs[i] = x := ⟨_, rfl⟩
      rw [hx] at c0 c1 c2
      simp only at c0 c1 c2
      have b1 := OK.out.ok i hl
      have HX := hide' hx
      have b2 := OK.out.p2
      rw [eg_at hl, hx] at b1
      unfold badE at b1
      simp only at b1
      obtain ⟨pa, rfl⟩ := Int.eq_ofNat_of_zero_le (show 0 ≤ p by omega)
      obtain ⟨qa, rfl⟩ := Int.eq_ofNat_of_zero_le (show 0 ≤ q by omega)
      have LP := hide' (show pa < 10 ∧ qa < 10 by omega)
      have LT := hide' (show 0 ≤ t ∧ t ≤ 100 by omega)
      have LN := hide' (show pa ≠ qa by omega)
      obtain ⟨eb, heb⟩ : ∃ eb, wr.heap.size = eb := ⟨_, rfl⟩
      obtain ⟨w4, hw4⟩ : ∃ w4, wr.alloc (.cells #[.int .i64 (pa : Int), .int .i64 (qa : Int), .int .i64 t] 46) = w4 := ⟨_, rfl⟩
      have E4 := hide' (show w4.heap[eb]? = some (.cells #[.int .i64 (pa : Int), .int .i64 (qa : Int), .int .i64 t] 46 (0, 0)) by rw [← hw4, ← heb]; exact heap_alloc_new _ _)
      have K4 := hide' (show GrI w4 gb F by rw [← hw4]; exact (heap_alloc_old _ _ (ltS_of_block KF.out)).trans KF.out)
      have B4 := hide' (show Below w.heap.size w w4 by rw [← hw4]; exact BW.out.alloc BW.out.size _)
      have Q4 := hide' (show w4.heap[rb]? = some (.cells Z 58 (0, 0)) by rw [← hw4]; exact (heap_alloc_old _ _ (ltS_of_block QW.out)).trans QW.out)
      have LE := hide' (show gb < eb by rw [← heb]; exact ltS_of_block KF.out)
      have WG := hide' (show w.heap.size ≤ gb by have := LG.out; have := LR.out; omega)
      have HEB := hide' heb
      have HW4 := hide' hw4
      clear hx b1 b2 heb hw4
      go_upto_region 5 with fail
      rw [HEB.out, HW4.out]
      clear c0 c1 c2
      have y0 := cell_of_row w4 eb 0 _ _ _ E4.out
      have y1 := cell_of_row w4 eb 1 _ _ _ E4.out
      have y2 := cell_of_row w4 eb 2 _ _ _ E4.out
      simp at y0 y1 y2
      go_wp2_with fail
      refine (joinX_any gb pa qa s t F w4 K4.out LP.out.1 LP.out.2 FB.out.2 (fun k => ⟨(FB.out.1 k).1, by have := (FB.out.1 k).2; omega⟩) LT.out).mono ?_
      rintro e w5 ⟨rfl, k5, g5⟩
      obtain ⟨F1, hF1⟩ : ∃ F1, jnF s F pa qa t = F1 := ⟨_, rfl⟩
      rw [hF1] at k5
      have FB1 := hide' (show (∀ k, 0 ≤ F1 k ∧ F1 k ≤ 50000) ∧ F1 1 = (s : Int) by
        rw [← hF1]
        refine ⟨fun k => ?_, ?_⟩
        · rw [jn_at _ LP.out.1]
          have h1 := FB.out.1 k
          have h2 := LT.out
          constructor <;> (repeat' split) <;> omega
        · rw [jn_at _ LP.out.1, if_neg (by omega), if_neg (by omega)]
          have := FB.out.2; omega)
      have HF1 := hide' hF1
      clear hF1
      have K5 := hide' k5
      have B5 := hide' (B4.out.grown g5 B4.out.size (fun k hk => by have := WG.out; simp at hk; omega))
      have E5 := hide' ((g5.block eb (ltS_of_block E4.out) (by have := LE.out; simp; omega)).trans E4.out)
      have Q5 := hide' ((g5.block rb (ltS_of_block Q4.out) (by have := LG.out; simp; omega)).trans Q4.out)
      clear y0 y1 y2 k5 g5
      have y0 := cell_of_row w5 eb 0 _ _ _ E5.out
      have y1 := cell_of_row w5 eb 1 _ _ _ E5.out
      have y2 := cell_of_row w5 eb 2 _ _ _ E5.out
      simp at y0 y1 y2
      go_wp2_with fail
      refine (joinX_any gb qa pa s t F1 w5 K5.out LP.out.2 LP.out.1 FB1.out.2 FB1.out.1 LT.out).mono ?_
      rintro e w6 ⟨rfl, k6, g6⟩
      have K6 := hide' (show GrI w6 gb (gdP P s ((xs.take (i + 1)).map edS)) by
        unfold GrI
        rw [k6]
        congr 2
        refine arrS_ext fun k hk => ?_
        rw [← HF1.out, ← HF.out, jn_both _ LP.out.1 LP.out.2 LN.out hk, List.take_succ_eq_append_getElem hl, HX.out, List.map_append]
        rfl)
      have B6 := hide' (B5.out.grown g6 B5.out.size (fun k hk => by have := WG.out; simp at hk; omega))
      have Q6 := hide' ((g6.block rb (ltS_of_block Q5.out) (by have := LG.out; simp; omega)).trans Q5.out)
      clear y0 y1 y2 k6 g6
      go_wp2
      exact ⟨⟨i + 1, by go_num, by omega, K6, B6, Q6⟩, by simp [intOf]; omega⟩
    · obtain rfl : i = n := by omega
      obtain ⟨D, hD⟩ : ∃ D, (arrS 112 fun k => Value.int .i64 (F k)) = D := ⟨_, rfl⟩
      have DS := hide' (show D.size = 112 by rw [← hD, arrS_size])
      have DA := hide' (show D.all (·.oneCell') = true by rw [← hD]; exact arrS_all _ _)
      have GD : wr.heap[gb]? = some (.cells D 58 (0, 0)) := by rw [← hD]; exact KF.out
      have QD := QW.out
      have HD := hide' hD
      have WR := hide' (show w.heap.size ≤ rb by have := LR.out; omega)
      clear hD
      go_wp2_with (first | (refine wpList_load_row rfl 58 _ rfl gb rfl 58 D (0, 0) _ GD Tryd.underlying58 rfl (by rw [DS.out]; exact size_ground) ?_) | (refine wpList_store_row rfl 58 _ _ rfl rb D rfl rfl 58 Z QD (by rw [DS.out]; exact size_ground) (by rw [DS.out]; exact ZS) DA.out ?_))
      refine bodyPost_ret (v := .agg D) (results_cell_row Tryd.results32 _ _ rb 58 _ (0, 0) _ rfl (setRow_heap _ _ _ _ _ _ QD) Tryd.underlying58 rfl (by rw [DS.out]; exact size_ground)) rfl ?_
      refine ⟨?_, below_setRow BW.out WR.out _⟩
      have ex : xs.take i = xs := List.take_of_length_le (by have := HL.out; omega)
      rw [← HD.out, ← HF.out, ex]
      congr 2
      exact arrS_ext fun k _ => by rw [gdP_all (OK.out.okE')]; rfl
end Go.Proofs.YtpajdmhgonmgoaaDoor

namespace Go.Proofs.YtpajdmhgonmgoaaDoor
open Go.RowKit
set_option linter.unusedVariables false
set_option linter.unusedSimpArgs false
theorem fold_get : ∀ (l : List Value) (i : Nat) (Z : Array Value), i + l.length ≤ Z.size → ∀ k : Nat, ((l.zipIdx i).foldl (fun cs (c : Value × Nat) => cs.setIfInBounds (0 + c.2) c.1) Z)[k]? = if i ≤ k ∧ k < i + l.length then l[k - i]? else Z[k]?
  | [], i, Z, _, k => by simp; omega
  | v :: l, i, Z, h, k => by
    simp only [List.length_cons] at h
    rw [List.zipIdx_cons, List.foldl_cons, fold_get l (i + 1) _ (by rw [Array.size_setIfInBounds]; omega) k]
    simp only [List.length_cons]
    by_cases h1 : i + 1 ≤ k ∧ k < i + 1 + l.length
    · rw [if_pos h1, if_pos (by omega), show k - i = (k - (i + 1)) + 1 by omega, List.getElem?_cons_succ]
    · rw [if_neg h1, Array.getElem?_setIfInBounds]
      by_cases h2 : 0 + i = k
      · rw [if_pos h2, if_pos (by omega), if_pos (by omega), show k - i = 0 by omega]; rfl
      · rw [if_neg h2, if_neg (by omega)]
/-- A pile's cells. -/
def pilV (F : Nat → Int) (a : Option Addr) (n c : Nat) (b : Option Addr) (m d : Nat) (k : Nat) : Value := if k < 112 then .int .i64 (F k) else if k = 112 then .slice a n c else .slice b m d
theorem built_pileX (F : Nat → Int) (a b : Option Addr) (n c m d : Nat) : Tryd.prog.built 60 [(0, .agg (arrS 112 fun k => .int .i64 (F k))), (1, .slice a n c), (2, .slice b m d)] = some (arrS 114 (pilV F a n c b m d)) := by
  have h := pile_info
  unfold Program.built
  obtain ⟨A, hA0⟩ : ∃ A, (arrS 112 fun k => Value.int .i64 (F k)) = A := ⟨_, rfl⟩
  have hA : A.size = 112 := by rw [← hA0, arrS_size]
  rw [hA0]
  cases hi : Tryd.prog.info? 60 with
  | none => simp [hi] at h
  | some it =>
    cases hu : Tryd.prog.underlying 60 with
    | none => simp [hi, hu] at h
    | some d' =>
      cases d' with
      | struct fields =>
        simp only [hi, hu, Prod.mk.injEq] at h
        obtain ⟨h1, h2⟩ := h
        cases hz : it.zero with
        | none => rw [hz] at h1; simp at h1
        | some z =>
          rw [hz] at h1
          simp only [Option.map_some, Option.some.injEq] at h1
          simp only [h2]
          obtain ⟨Y, hY⟩ : ∃ Y, (Value.agg A).cells.zipIdx.foldl (fun cs (c, j) => cs.setIfInBounds (0 + j) c) z.cells = Y := ⟨_, rfl⟩
          have ys : Y.size = 114 := by
            rw [← hY, ← Array.foldl_toList]
            have := fold_size 0 (Value.agg A).cells.zipIdx.toList z.cells
            rw [h1] at this
            exact this
          have yg : ∀ k, k < 112 → Y[k]? = A[k]? := fun k hk => by
            have hl : A.toList.length = 112 := by simpa using hA
            have := fold_get A.toList 0 z.cells (by rw [h1, hl]; omega) k
            rw [if_pos (by rw [hl]; omega), Nat.sub_zero] at this
            have e : (Value.agg A).cells.zipIdx.toList = A.toList.zipIdx 0 := by
              show A.zipIdx.toList = _
              simp
            rw [← hY, ← Array.foldl_toList, e]
            rw [this]
            simp
          have eC : (Y.setIfInBounds 112 (.slice a n c)).setIfInBounds 113 (.slice b m d) = arrS 114 (pilV F a n c b m d) := by
            apply Array.ext'
            apply List.ext_getElem?
            intro k
            simp only [Array.getElem?_toList]
            by_cases k3 : k < 114
            · rw [arrS_get _ k3]
              unfold pilV
              by_cases k1 : k < 112
              · rw [if_pos k1, Array.getElem?_setIfInBounds, if_neg (by omega), Array.getElem?_setIfInBounds, if_neg (by omega), yg k k1, ← hA0, arrS_get _ k1]
              · by_cases k2 : k = 112
                · rw [if_neg k1, if_pos k2, Array.getElem?_setIfInBounds, if_neg (by omega), Array.getElem?_setIfInBounds, if_pos k2.symm, if_pos (by omega)]
                · rw [if_neg k1, if_neg k2, Array.getElem?_setIfInBounds, if_pos (by omega), if_pos (by rw [Array.size_setIfInBounds]; omega)]
            · rw [Array.getElem?_eq_none (by rw [Array.size_setIfInBounds, Array.size_setIfInBounds, ys]; omega), Array.getElem?_eq_none (by rw [arrS_size]; omega)]
          rw [← eC, hz]
          show Instr.fill (fun i => ([(0, 112), (112, 1), (113, 1)].toArray)[i]?) z.cells _ = _
          refine (fill_cons (off := 0) (size := 112) rfl (show (Value.agg A).cells.size = 112 from hA) (by rw [h1]; decide)).trans ?_
          rw [hY]
          refine (fill_cons (off := 112) (size := 1) rfl rfl (by rw [ys]; decide)).trans ?_
          refine (fill_cons (off := 113) (size := 1) rfl rfl (by
            show 113 + 1 ≤ (Y.setIfInBounds (112 + 0) (.slice a n c)).size
            rw [Array.size_setIfInBounds, ys]; decide)).trans ?_
          rfl
      | _ => simp [hi, hu] at h
def crwV (F : Nat → Int) (k : Nat) : Value := if k < 112 then .int .i64 (F k) else .int .i64 0
end Go.Proofs.YtpajdmhgonmgoaaDoor

namespace Go.Proofs.YtpajdmhgonmgoaaDoor
open Go.RowKit
set_option linter.unusedVariables false
set_option linter.unusedSimpArgs false
/-- A pile as it lies: its ground, its chips, its topples. -/
structure PilAt (V : World) (pb ca q ta P s : Nat) (b : Nat → Nat → Int) (f u : Nat → Int) : Prop where
  pl : V.heap[pb]? = some (.cells (arrS 114 (pilV (gdF P s b) (some ⟨ca, 0, none⟩) P q (some ⟨ta, 0, none⟩) P P)) 60 (0, 0))
  ch : ∃ C, V.heap[ca]? = some (.cells C 3 (0, 0)) ∧ ∀ k, k < P → C[k]? = some (.int .i64 (f k))
  tp : V.heap[ta]? = some (.cells (arrS P fun k => .int .i64 (u k)) 3 (0, 0))
  n1 : pb ≠ ca
  n2 : pb ≠ ta
  n3 : ca ≠ ta
section
variable {V V' : World} {pb ca q ta P s : Nat} {b : Nat → Nat → Int} {f u : Nat → Int}
theorem PilAt.ground (h : PilAt V pb ca q ta P s b f u) {k : Nat} (hk : k < 112) : V.cell? ⟨pb, k, none⟩ = some (.int .i64 (gdF P s b k)) := by
  have := cell_of_row V pb k _ _ _ h.pl
  rw [arrS_get _ (by omega)] at this
  unfold pilV at this
  rw [if_pos hk] at this
  exact this
theorem PilAt.chs (h : PilAt V pb ca q ta P s b f u) : V.cell? ⟨pb, 112, none⟩ = some (.slice (some ⟨ca, 0, none⟩) P q) := by
  have := cell_of_row V pb 112 _ _ _ h.pl
  rw [arrS_get _ (by omega)] at this
  unfold pilV at this
  rw [if_neg (by omega), if_pos rfl] at this
  exact this
theorem PilAt.tps (h : PilAt V pb ca q ta P s b f u) : V.cell? ⟨pb, 113, none⟩ = some (.slice (some ⟨ta, 0, none⟩) P P) := by
  have := cell_of_row V pb 113 _ _ _ h.pl
  rw [arrS_get _ (by omega)] at this
  unfold pilV at this
  rw [if_neg (by omega), if_neg (by omega)] at this
  exact this
theorem PilAt.chip (h : PilAt V pb ca q ta P s b f u) {k : Nat} (hk : k < P) : V.cell? ⟨ca, k, none⟩ = some (.int .i64 (f k)) ∧ V.frozen? ⟨ca, k, none⟩ = false := by
  obtain ⟨C, h1, h2⟩ := h.ch
  exact ⟨(cell_of_row V ca k _ _ _ h1).trans (h2 k hk), frozen_of_row V ca k _ _ h1⟩
theorem PilAt.top (h : PilAt V pb ca q ta P s b f u) {k : Nat} (hk : k < P) : V.cell? ⟨ta, k, none⟩ = some (.int .i64 (u k)) ∧ V.frozen? ⟨ta, k, none⟩ = false :=
  ⟨(cell_of_row V ta k _ _ _ h.tp).trans (arrS_get _ hk), frozen_of_row V ta k _ _ h.tp⟩
theorem PilAt.on (h : PilAt V pb ca q ta P s b f u) (e1 : V'.heap[pb]? = V.heap[pb]?) (e2 : V'.heap[ca]? = V.heap[ca]?) (e3 : V'.heap[ta]? = V.heap[ta]?) : PilAt V' pb ca q ta P s b f u := by
  refine ⟨e1.trans h.pl, ?_, e3.trans h.tp, h.n1, h.n2, h.n3⟩
  obtain ⟨C, h1, h2⟩ := h.ch
  exact ⟨C, e2.trans h1, h2⟩
theorem hSetR (w : World) (a : Addr) (k : Nat) (v : Value) (h : k ≠ a.block) : (w.setCell a v).heap[k]? = w.heap[k]? := by
  simp only [World.setCell, Array.getElem?_modify]
  rw [if_neg (fun e => h e.symm)]
theorem PilAt.setCh (h : PilAt V pb ca q ta P s b f u) {i : Nat} (hi : i < P) (z : Int) : PilAt (V.setCell ⟨ca, i, none⟩ (.int .i64 z)) pb ca q ta P s b (upI f i z) u := by
  refine ⟨(hSetR _ _ _ _ h.n1).trans h.pl, ?_, (hSetR _ _ _ _ (Ne.symm h.n3)).trans h.tp, h.n1, h.n2, h.n3⟩
  obtain ⟨C, h1, h2⟩ := h.ch
  refine ⟨C.setIfInBounds i (.int .i64 z), heap_setCell_same V ca i _ _ _ h1, fun k hk => ?_⟩
  unfold upI
  rw [Array.getElem?_setIfInBounds]
  by_cases e : i = k
  · subst e
    rw [if_pos rfl, if_pos rfl, if_pos (Array.getElem?_eq_some_iff.1 (h2 i hi)).1]
  · rw [if_neg e, if_neg (Ne.symm e)]; exact h2 k hk
theorem PilAt.setTp (h : PilAt V pb ca q ta P s b f u) (i : Nat) (z : Int) : PilAt (V.setCell ⟨ta, i, none⟩ (.int .i64 z)) pb ca q ta P s b f (upI u i z) := by
  refine ⟨(hSetR _ _ _ _ h.n2).trans h.pl, ?_, ?_, h.n1, h.n2, h.n3⟩
  · obtain ⟨C, h1, h2⟩ := h.ch
    exact ⟨C, (hSetR _ _ _ _ h.n3).trans h1, h2⟩
  · rw [heap_setCell_same V ta i _ _ _ h.tp, arrS_set]
    congr 2
    exact arrS_ext fun k _ => by unfold upI; by_cases e : k = i <;> simp [e]
theorem PilAt.same {f' u' : Nat → Int} (h : PilAt V pb ca q ta P s b f u) (e1 : ∀ k, k < P → f k = f' k) (e2 : ∀ k, k < P → u k = u' k) : PilAt V pb ca q ta P s b f' u' := by
  refine ⟨h.pl, ?_, ?_, h.n1, h.n2, h.n3⟩
  · obtain ⟨C, h1, h2⟩ := h.ch
    exact ⟨C, h1, fun k hk => by rw [h2 k hk, e1 k hk]⟩
  · rw [h.tp, arrS_ext (f := fun k => Value.int .i64 (u k)) (g := fun k => .int .i64 (u' k)) (fun k hk => by rw [e2 k hk])]
end
/-- A world that differs in two blocks. -/
def Two (x y : Nat) (w w' : World) : Prop := w'.os = w.os ∧ w'.tape = w.tape ∧ w'.output = w.output ∧ w'.heap.size = w.heap.size ∧ ∀ k, k ≠ x → k ≠ y → w'.heap[k]? = w.heap[k]?
theorem Two.refl (x y : Nat) (w : World) : Two x y w w := ⟨rfl, rfl, rfl, rfl, fun _ _ _ => rfl⟩
theorem Two.trans {x y : Nat} {w w' w'' : World} (h : Two x y w w') (k : Two x y w' w'') : Two x y w w'' := ⟨k.1.trans h.1, k.2.1.trans h.2.1, k.2.2.1.trans h.2.2.1, k.2.2.2.1.trans h.2.2.2.1, fun j h1 h2 => (k.2.2.2.2 j h1 h2).trans (h.2.2.2.2 j h1 h2)⟩
theorem Two.drew (x y : Nat) (w : World) : Two x y w w.drew := ⟨rfl, rfl, rfl, rfl, fun _ _ _ => rfl⟩
theorem Two.setL (x y : Nat) (w : World) (i : Nat) (v : Value) : Two x y w (w.setCell ⟨x, i, none⟩ v) := ⟨rfl, rfl, rfl, by simp, fun k h1 _ => hSetR _ _ _ _ h1⟩
theorem Two.setR (x y : Nat) (w : World) (i : Nat) (v : Value) : Two x y w (w.setCell ⟨y, i, none⟩ v) := ⟨rfl, rfl, rfl, by simp, fun k _ h2 => hSetR _ _ _ _ h2⟩
/-- What lies behind k's toppling t times. -/
def tpF (P s : Nat) (b : Nat → Nat → Int) (f : Nat → Int) (k : Nat) (t : Int) (j : Nat) : Int := (if j = k then f j - t * smS P (b k) else f j) + t * gvS P s b k j
def TopW (pb ca q ta P s : Nat) (b : Nat → Nat → Int) (f u : Nat → Int) (k : Nat) (t : Int) (w : World) (e : Ending) (w' : World) : Prop := e = .returned (.tuple #[]) ∧ PilAt w' pb ca q ta P s b (tpF P s b f k t) (upI u k (u k + t)) ∧ Two ca ta w w'
theorem gdX_d (P s : Nat) (b : Nat → Nat → Int) {k : Nat} (hk : k < 10) : gdF P s b (2 + k) = smS P (b k) := by
  unfold gdF
  rw [if_neg (by omega), if_neg (by omega), if_pos (by omega), show 2 + k - 2 = k by omega]
theorem gdX_g (P s : Nat) (b : Nat → Nat → Int) {k j : Nat} (hk : k < 10) (hj : j < 10) : gdF P s b (12 + k * 10 + j) = gvS P s b k j := by
  unfold gdF
  rw [if_neg (by omega), if_neg (by omega), if_neg (by omega), show (12 + k * 10 + j - 12) / 10 = k by omega, show (12 + k * 10 + j - 12) % 10 = j by omega]
theorem wrap_mid {x : Int} (h0 : -100000000 ≤ x) (h1 : x ≤ 100000000) : wrap64 x = x := by
  unfold wrap64; omega
set_option maxRecDepth 100000 in
set_option maxHeartbeats 6400000 in
theorem topple_any (pb ca q ta P s k : Nat) (t : Int) (b : Nat → Nat → Int) (f u : Nat → Int) (w : World) (h : PilAt w pb ca q ta P s b f u) (hP : P ≤ 10) (hk : k < P) (ht : 0 ≤ t ∧ t ≤ 100000) (hd : 0 ≤ smS P (b k) ∧ smS P (b k) ≤ 4000) (hg : ∀ j, 0 ≤ gvS P s b k j ∧ gvS P s b k j ≤ smS P (b k)) (hm : t * smS P (b k) ≤ 100000) (hf : ∀ j, j < P → 0 ≤ f j ∧ f j ≤ 100000) (hu : 0 ≤ u k ∧ u k ≤ 10000000) :
    Calls Tryd.prog 28 #[.pointer (some ⟨pb, 0, none⟩), .int .i64 (k : Int), .int .i64 t] w (TopW pb ca q ta P s b f u k t w) := by
  obtain ⟨dg, hdg⟩ : ∃ dg, smS P (b k) = dg := ⟨_, rfl⟩
  rw [hdg] at hd hg hm
  have m0 : 0 ≤ t * dg := Int.mul_nonneg ht.1 hd.1
  have W1 : wrap64 (t * dg) = t * dg := wrap_mid (by omega) (by omega)
  have W2 : wrap64 (f k - t * dg) = f k - t * dg := by have := hf k hk; exact wrap_mid (by omega) (by omega)
  have lk0 : (0 : Int) ≤ (k : Int) := by omega
  have lk1 : (k : Int) < (P : Int) := by omega
  have lk2 : (k : Int) < 10 := by omega
  have c0 := h.chs
  have c1 := h.ground (k := 2 + k) (by omega)
  rw [gdX_d P s b (by omega), hdg] at c1
  obtain ⟨c2, f2⟩ := h.chip hk
  have H0 := hide' h
  have HM := hide' (show ∀ j, 0 ≤ t * gvS P s b k j ∧ t * gvS P s b k j ≤ 100000 from fun j => ⟨Int.mul_nonneg ht.1 (hg j).1, Int.le_trans (Int.mul_le_mul_of_nonneg_left (hg j).2 ht.1) hm⟩)
  have HT := hide' ht
  have HF := hide' hf
  have HU := hide' hu
  have HD := hide' hdg
  have HPs := hide' hP
  have HK := hide' hk
  have HQ := hide' (show 0 ≤ t * dg ∧ t * dg ≤ 100000 from ⟨m0, hm⟩)
  clear h ht hf hu hdg hP hd hg hm m0
  go_enter Tryd.func28, Tryd.ntmps28
  go_upto_region 0 with fail
  go_region
  rw [W2]
  obtain ⟨X, hX⟩ : ∃ X, (w.setCell ⟨ca, k, none⟩ (.int .i64 (f k - t * dg))).drew = X := ⟨_, rfl⟩
  have PX := hide' (show PilAt X pb ca q ta P s b (upI f k (f k - t * dg)) u by rw [← hX]; exact (H0.out.setCh HK.out _).on rfl rfl rfl)
  have TX := hide' (show Two ca ta w X by rw [← hX]; exact (Two.setL ca ta w k _).trans (Two.drew _ _ _))
  rw [hX]
  clear hX c0 c1 c2 f2 W1 W2
  have c0 := PX.out.chs
  go_wp2
  go_loopw [30] (fun iv V => ∃ (i : Nat) (F : Nat → Int), iv = .int .i64 (i : Int) ∧ i ≤ P ∧ Hid (PilAt V pb ca q ta P s b F u ∧ ∀ j, F j = (if j = k then f j - t * dg else f j) + (if j < i then t * gvS P s b k j else 0)) ∧ Hid (Two ca ta w V)) (fun iv _ => P - (intOf iv).toNat)
  case atStart => exact ⟨0, _, rfl, by omega, hide' ⟨PX.out, fun j => by unfold upI; rw [if_neg (Nat.not_lt_zero j)]; by_cases e : j = k; { rw [if_pos e, if_pos e, e]; omega }; { rw [if_neg e, if_neg e]; omega }⟩, TX⟩
  case round =>
    obtain ⟨i, F, rfl, hi, KF, TW⟩ := hrel
    clear c0
    by_cases d : (i : Int) < (P : Int)
    · have hin : i < P := by omega
      have l0 : (0 : Int) ≤ (i : Int) := by omega
      have l2 : (i : Int) < 10 := by have := HPs.out; omega
      have c0 := KF.out.1.chs
      have c1 := KF.out.1.ground (k := 12 + k * 10 + i) (by have := HPs.out; omega)
      rw [gdX_g P s b (by have := HPs.out; omega) (by have := HPs.out; omega)] at c1
      obtain ⟨c2, f2⟩ := KF.out.1.chip hin
      obtain ⟨gv, hgv⟩ : ∃ gv, gvS P s b k i = gv := ⟨_, rfl⟩
      obtain ⟨x, hx⟩ : ∃ x, F i = x := ⟨_, rfl⟩
      rw [hgv] at c1
      rw [hx] at c2
      have hm := HM.out i
      rw [hgv] at hm
      have hxb : -100000 ≤ x ∧ x ≤ 200000 := by
        have h1 := KF.out.2 i
        rw [hx, if_neg (Nat.lt_irrefl i)] at h1
        have h2 := HF.out i hin
        have h3 := HQ.out
        split at h1 <;> omega
      have W1 : wrap64 (t * gv) = t * gv := wrap_mid (by omega) (by omega)
      have W2 : wrap64 (x + t * gv) = x + t * gv := wrap_mid (by omega) (by omega)
      have HGV := hide' hgv
      have HX := hide' hx
      clear hm hxb hgv hx
      go_upto_region 4 with fail
      go_region
      rw [W2]
      obtain ⟨Y, hY⟩ : ∃ Y, (wr.setCell ⟨ca, i, none⟩ (.int .i64 (x + t * gv))).drew = Y := ⟨_, rfl⟩
      have PY := hide' (show PilAt Y pb ca q ta P s b (upI F i (x + t * gv)) u ∧ ∀ j, (upI F i (x + t * gv)) j = (if j = k then f j - t * dg else f j) + (if j < i + 1 then t * gvS P s b k j else 0) by
        refine ⟨by rw [← hY]; exact (KF.out.1.setCh hin _).on rfl rfl rfl, fun j => ?_⟩
        unfold upI
        by_cases e : j = i
        · subst e
          have h1 := KF.out.2 j
          rw [HX.out, if_neg (Nat.lt_irrefl j)] at h1
          rw [if_pos rfl, if_pos (Nat.lt_succ_self j), HGV.out]
          omega
        · rw [if_neg e, KF.out.2 j]
          congr 1
          by_cases e2 : j < i
          · rw [if_pos e2, if_pos (by omega)]
          · rw [if_neg e2, if_neg (by omega)])
      have TY := hide' (show Two ca ta w Y by rw [← hY]; exact TW.out.trans ((Two.setL ca ta wr i _).trans (Two.drew _ _ _)))
      rw [hY]
      clear hY c0 c1 c2 f2 W1 W2 l0 l2
      have hP10 := HPs.out
      go_wp2
      exact ⟨⟨i + 1, _, by go_num, by omega, PY, TY⟩, by simp [intOf]; omega⟩
    · obtain rfl : i = P := by omega
      have c0 := KF.out.1.tps
      obtain ⟨c2, f2⟩ := KF.out.1.top HK.out
      obtain ⟨y, hy⟩ : ∃ y, u k = y := ⟨_, rfl⟩
      rw [hy] at c2
      have W1 : wrap64 (y + t) = y + t := by have h1 := HU.out; have h2 := HT.out; rw [hy] at h1; exact wrap_mid (by omega) (by omega)
      have HY := hide' hy
      clear hy
      go_wp2
      go_end0
      refine ⟨rfl, ((KF.out.1.setTp k _).same (fun j hj => ?_) (fun j _ => by rw [HY.out])), TW.out.trans (Two.setR ca ta wr k _)⟩
      rw [KF.out.2 j, if_pos hj]
      unfold tpF
      rw [HD.out]
end Go.Proofs.YtpajdmhgonmgoaaDoor

