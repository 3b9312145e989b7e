/-
  What the last text of this claim leans on, part 17: Swa, Swb, Swc.
-/
import Derived.Test.YtpppmollmiomlaaDoorZu16
import Derived.Test.YtpppmollmiomlaaDoorZu10
namespace Go.Proofs.YtpppmollmiomlaaDoor
open Go.RowKit
set_option linter.unusedVariables false
set_option linter.unusedSimpArgs false
theorem fold_size (off : Nat) : ∀ (l : List (Value × Nat)) (Z : Array Value), (l.foldl (fun cs (c : Value × Nat) => cs.setIfInBounds (off + c.2) c.1) Z).size = Z.size
  | [], _ => rfl
  | c :: l, Z => by rw [List.foldl_cons, fold_size off l, Array.size_setIfInBounds]
theorem fill_cons {place : Nat → Option (Nat × Nat)} {cells : Array Value} {i off size : Nat} {v : Value} {rest : List (Nat × Value)} (hp : place i = some (off, size)) (hs : v.cells.size = size) (hl : off + size ≤ cells.size) :
    Instr.fill place cells ((i, v) :: rest) = Instr.fill place (v.cells.zipIdx.foldl (fun cs (c, j) => cs.setIfInBounds (off + j) c) cells) rest := by
  rw [Instr.fill, hp]
  dsimp only
  rw [if_neg]
  simp only [ne_eq, decide_not, Bool.or_eq_true, Bool.not_eq_true', decide_eq_false_iff_not, decide_eq_true_eq]
  omega
theorem pile_info : (match Tryd.prog.info? 95, Tryd.prog.underlying 95 with
  | some it, some (.struct fields) => (it.zero.map (·.cells.size), fields.toList.mapM (fun f => (Tryd.prog.info? f.type).map fun i => (f.offset, i.size)))
  | _, _ => (none, none)) = (some 114, some [(0, 112), (112, 1), (113, 1)]) := by kernel_rfl
theorem built_pile (A : Array Value) (hA : A.size = 112) (a b : Option Addr) (n c m d : Nat) : ∃ C, Tryd.prog.built 95 [(0, .agg A), (1, .slice a n c), (2, .slice b m d)] = some C ∧ C[112]? = some (.slice a n c) := by
  have h := pile_info
  unfold Program.built
  cases hi : Tryd.prog.info? 95 with
  | none => simp [hi] at h
  | some it =>
    cases hu : Tryd.prog.underlying 95 with
    | none => simp [hi, hu] at h
    | some d' =>
      cases d' with
      | struct fields =>
        simp only [hi, hu, Prod.mk.injEq] at h
        obtain ⟨h1, h2⟩ := h
        cases hz : it.zero with
        | none => rw [hz] at h1; simp at h1
        | some z =>
          rw [hz] at h1
          simp only [Option.map_some, Option.some.injEq] at h1
          simp only [h2]
          have e0 : ((Value.agg A).cells.size ≠ 112 || decide (0 + (Value.agg A).cells.size > z.cells.size)) = false := by
            have : (Value.agg A).cells = A := rfl
            rw [this, hA, h1]; rfl
          obtain ⟨Y, hY⟩ : ∃ Y, (Value.agg A).cells.zipIdx.foldl (fun cs (c, j) => cs.setIfInBounds (0 + j) c) z.cells = Y := ⟨_, rfl⟩
          have ys : Y.size = 114 := by
            rw [← hY, ← Array.foldl_toList]
            have := fold_size 0 (Value.agg A).cells.zipIdx.toList z.cells
            rw [h1] at this
            exact this
          refine ⟨(Y.setIfInBounds 112 (.slice a n c)).setIfInBounds 113 (.slice b m d), ?_, ?_⟩
          · rw [hz]
            show Instr.fill (fun i => ([(0, 112), (112, 1), (113, 1)].toArray)[i]?) z.cells _ = _
            refine (fill_cons (off := 0) (size := 112) rfl (show (Value.agg A).cells.size = 112 from hA) (by rw [h1]; decide)).trans ?_
            rw [hY]
            refine (fill_cons (off := 112) (size := 1) rfl rfl (by rw [ys]; decide)).trans ?_
            refine (fill_cons (off := 113) (size := 1) rfl rfl (by
              show 113 + 1 ≤ (Y.setIfInBounds (112 + 0) (.slice a n c)).size
              rw [Array.size_setIfInBounds, ys]; decide)).trans ?_
            rfl
          · rw [Array.getElem?_setIfInBounds, if_neg (by decide), Array.getElem?_setIfInBounds, if_pos rfl, if_pos (by rw [ys]; decide)]
      | _ => simp [hi, hu] at h
/-- A pile that lies there. -/
def PileAt (w : World) (B : Nat) (v : Value) : Prop := ∃ pb C a n c, v = .pointer (some ⟨pb, 0, none⟩) ∧ w.heap[pb]? = some (.cells C 95 (0, 0)) ∧ C[112]? = some (.slice a n c) ∧ B ≤ pb
theorem PileAt.next {w w' : World} {B : Nat} {v : Value} (h : PileAt w B v) (b : Below w.heap.size w w') : PileAt w' B v := by
  obtain ⟨pb, C, a, n, c, h1, h2, h3, h4⟩ := h
  exact ⟨pb, C, a, n, c, h1, (b.block pb (ltS_of_block h2)).trans h2, h3, h4⟩
structure PoR (pvl : List (Option Value)) (W : World) (P : Nat) (L : Nat → Bool) (vals : Nat → Value) (w : World) : Prop where
  pure : ∀ i u, pvl[i]? = some (some u) → L i = true → vals i = u
  bl : Below W.heap.size W w
  v2 : L 2 = true → ∃ F : Nat → Int, vals 2 = .agg (arrS 112 fun k => .int .i64 (F k))
  v4 : L 4 = true → ∃ g q, vals 4 = .slice (some ⟨g, 0, none⟩) P q
  v7 : L 7 = true → ∃ g, vals 7 = .slice (some ⟨g, 0, none⟩) P P
  v8 : L 8 = true → ∃ (C : Array Value) (a : Option Addr) (n c : Nat), vals 8 = .agg C ∧ C[112]? = some (.slice a n c)
  v9 : L 9 = true → PileAt w W.heap.size (vals 9)
  v10 : L 10 = true → PileAt w W.heap.size (vals 10)
theorem PoR.cong {pvl : List (Option Value)} {W : World} {P : Nat} {L L' : Nat → Bool} {vals : Nat → Value} {w : World} (hl : pvl.length = 11) (e : ∀ i, i < 11 → L i = L' i) (h : PoR pvl W P L vals w) : PoR pvl W P L' vals w :=
  ⟨fun i u hi hL => h.pure i u hi (by rw [e i (by have := (List.getElem?_eq_some_iff.1 hi).1; omega)]; exact hL), h.bl, fun q => h.v2 (by rw [e 2 (by omega)]; exact q), fun q => h.v4 (by rw [e 4 (by omega)]; exact q), fun q => h.v7 (by rw [e 7 (by omega)]; exact q), fun q => h.v8 (by rw [e 8 (by omega)]; exact q), fun q => h.v9 (by rw [e 9 (by omega)]; exact q), fun q => h.v10 (by rw [e 10 (by omega)]; exact q)⟩
theorem PoR.start (pvl : List (Option Value)) (W : World) (P : Nat) (vals : Nat → Value) : PoR pvl W P (fun _ => false) vals W :=
  ⟨fun i u _ h => (by cases h), Below.refl _ _, fun h => (by cases h), fun h => (by cases h), fun h => (by cases h), fun h => (by cases h), fun h => (by cases h), fun h => (by cases h)⟩
theorem PoR.step {pvl : List (Option Value)} {W : World} {P : Nat} {L : Nat → Bool} {vals : Nat → Value} {w w' : World} (h : PoR pvl W P L vals w) (b : Below w.heap.size w w') (i : Nat) (v : Value)
    (h0 : ∀ u, pvl[i]? = some (some u) → v = u) (h2 : i = 2 → ∃ F : Nat → Int, v = .agg (arrS 112 fun k => .int .i64 (F k))) (h4 : i = 4 → ∃ g q, v = .slice (some ⟨g, 0, none⟩) P q) (h7 : i = 7 → ∃ g, v = .slice (some ⟨g, 0, none⟩) P P)
    (h8 : i = 8 → ∃ (C : Array Value) (a : Option Addr) (n c : Nat), v = .agg C ∧ C[112]? = some (.slice a n c)) (h9 : i = 9 → PileAt w' W.heap.size v) (h10 : i = 10 → PileAt w' W.heap.size v) :
    PoR pvl W P (fun j => if j = i then true else L j) (fun j => if j = i then v else vals j) w' := by
  refine ⟨fun j u hj hL => ?_, h.bl.trans (b.mono h.bl.size), fun q => ?_, fun q => ?_, fun q => ?_, fun q => ?_, fun q => ?_, fun q => ?_⟩
  · by_cases e : j = i
    · rw [if_pos e]; rw [e] at hj; exact h0 u hj
    · rw [if_neg e] at hL ⊢; exact h.pure j u hj hL
  · by_cases e : 2 = i
    · rw [if_pos e]; exact h2 e.symm
    · rw [if_neg e] at q ⊢; exact h.v2 q
  · by_cases e : 4 = i
    · rw [if_pos e]; exact h4 e.symm
    · rw [if_neg e] at q ⊢; exact h.v4 q
  · by_cases e : 7 = i
    · rw [if_pos e]; exact h7 e.symm
    · rw [if_neg e] at q ⊢; exact h.v7 q
  · by_cases e : 8 = i
    · rw [if_pos e]; exact h8 e.symm
    · rw [if_neg e] at q ⊢; exact h.v8 q
  · by_cases e : 9 = i
    · rw [if_pos e]; exact h9 e.symm
    · rw [if_neg e] at q ⊢; exact (h.v9 q).next b
  · by_cases e : 10 = i
    · rw [if_pos e]; exact h10 e.symm
    · rw [if_neg e] at q ⊢; exact (h.v10 q).next b
def depsB : List (Nat × Nat) := [(2, 0), (2, 1), (4, 3), (6, 5), (7, 6), (8, 2), (8, 4), (8, 7), (9, 8), (10, 9)]
end Go.Proofs.YtpppmollmiomlaaDoor

namespace Go.Proofs.YtpppmollmiomlaaDoor
open Go.RowKit
set_option linter.unusedVariables false
set_option linter.unusedSimpArgs false
def PourOut (w : World) (e : Ending) (w' : World) : Prop := (∃ v, e = .returned v ∧ PileAt w' w.heap.size v) ∧ Below w.heap.size w w'
set_option maxRecDepth 100000 in
set_option maxHeartbeats 6400000 in
theorem pour_any (P : Nat) (xs : List EgT) (ea : Option Addr) (n c : Nat) (s : Int) (cs : List Int) (ca : Option Addr) (cn cc : Nat) (w : World) (hE : ArgE w xs ea n c) (hC : ArgP w cs ca cn cc) (hO : OkG P xs) (hP : cn = P) :
    Calls Tryd.prog 44 #[.agg #[.int .i64 (P : Int), .slice ea n c], .int .i64 s, .slice ca cn cc] w (PourOut w) := by
  obtain ⟨w1, hw1⟩ : ∃ w1, w.alloc (.cells #[.int .i64 (P : Int), .slice ea n c] 24) = w1 := ⟨_, rfl⟩
  have HW1 := hide' hw1
  have B1 := hide' (show Below w.heap.size w w1 by rw [← hw1]; exact (Below.refl _ _).alloc (Nat.le_refl _) _)
  have R1 := hide' (show w1.drew.heap[w.heap.size]? = some (.cells #[.int .i64 (P : Int), .slice ea n c] 24 (0, 0)) by rw [← hw1]; exact heap_alloc_new _ _)
  have LY := hide' (fun (V : World) (h : Below w.heap.size w V) => layS_any P xs ea n c s V (hE.below h) hO)
  have CL := hide' (fun (V : World) (h : Below w.heap.size w V) => cloneR_any cs ca cn cc V (hC.below h) (by rw [hP]; exact hO.p1) (by rw [hP]; exact hO.p2))
  have HP := hide' hP
  have mk := hide' (mk_intR P hO.p2)
  clear hw1 hE hC hO hP
  go_enter Tryd.func44, Tryd.ntmps44
  go_upto_region 1 with fail
  rw [HW1.out]
  obtain ⟨pvl, hpvl⟩ : ∃ l : List (Option Value), l = [some (.agg #[.int .i64 (P : Int), .slice ea n c]), some (.int .i64 s), none, some (.slice ca cn cc), none, some (.pointer (some ⟨w.heap.size, 0, none⟩)), some (.int .i64 (P : Int)), none, none, none, none] := ⟨_, rfl⟩
  refine regionW (by kernel_rfl) _ 11 [7, 8, 9, 10, 11, 12, 13, 14, 15, 16, 6] depsB (PoR pvl w1.drew P) rfl rfl (by decide) (by simp) rfl rfl (by kernel_rfl) (by kernel_rfl) ?hcong ?h0 ?hstep ?hQ
  case hcong => exact fun L L' vals w' e h => h.cong (by rw [hpvl]; rfl) e
  case h0 => exact PoR.start _ _ _ _
  case hstep =>
    intro L vals V a i o K hi ho hR cl hLi need hk hv hK
    have t1 : a.tmps[1]? = some (.int .i64 s) := (hk 1 (by decide)).trans rfl
    have t2 : a.tmps[2]? = some (.slice ca cn cc) := (hk 2 (by decide)).trans rfl
    have t3 : a.tmps[3]? = some (.pointer (some ⟨w.heap.size, 0, none⟩)) := (hk 3 (by decide)).trans rfl
    have he := (hR.bl.block w.heap.size (ltS_of_block R1.out)).trans R1.out
    have y0 := cell_of_row V _ 0 _ _ _ he
    have y1 := cell_of_row V _ 1 _ _ _ he
    simp at y0 y1
    have bw : Below w.heap.size w V := B1.out.drew.trans (hR.bl.mono B1.out.size)
    have this : i = 0 ∨ i = 1 ∨ i = 2 ∨ i = 3 ∨ i = 4 ∨ i = 5 ∨ i = 6 ∨ i = 7 ∨ i = 8 ∨ i = 9 ∨ i = 10 := by omega
    rcases this with rfl | rfl | rfl | rfl | rfl | rfl | rfl | rfl | rfl | rfl | rfl
    · obtain rfl := Option.some.inj ho
      unfold Oper.wp
      simp [execOp, Act.eval, go_sem, t3, y0, y1]
      exact hK _ _ (hR.step (Below.refl _ _) 0 _ (fun u hu => by rw [hpvl] at hu; simpa using hu) (fun e => absurd e (by decide)) (fun e => absurd e (by decide)) (fun e => absurd e (by decide)) (fun e => absurd e (by decide)) (fun e => absurd e (by decide)) (fun e => absurd e (by decide)))
    · obtain rfl := Option.some.inj ho
      unfold Oper.wp
      simp [execOp, Act.eval, go_sem, t1]
      exact hK _ _ (hR.step (Below.refl _ _) 1 _ (fun u hu => by rw [hpvl] at hu; simpa using hu) (fun e => absurd e (by decide)) (fun e => absurd e (by decide)) (fun e => absurd e (by decide)) (fun e => absurd e (by decide)) (fun e => absurd e (by decide)) (fun e => absurd e (by decide)))
    · have d0 : a.tmps[7]? = some (.agg #[.int .i64 (P : Int), .slice ea n c]) := (hv 0 (by omega) (need 0 (by simp [depsB]))).trans (by rw [hR.pure 0 (.agg #[.int .i64 (P : Int), .slice ea n c]) (by rw [hpvl]; rfl) (need 0 (by simp [depsB]))])
      have d1 : a.tmps[8]? = some (.int .i64 s) := (hv 1 (by omega) (need 1 (by simp [depsB]))).trans (by rw [hR.pure 1 (.int .i64 s) (by rw [hpvl]; rfl) (need 1 (by simp [depsB]))])
      have ex : (execOp a.eval o).run Tryd.prog V = .ok (.enter 52 #[.agg #[.int .i64 (P : Int), .slice ea n c], .int .i64 s]) V := by obtain rfl := Option.some.inj ho; simp [execOp, Act.eval, go_sem, d0, d1]
      unfold Oper.wp
      rw [ex, Oper.upon_enter]
      refine (LY.out V bw).mono ?_
      rintro e V2 ⟨⟨F, rfl⟩, b2⟩
      exact hK _ _ (hR.step b2 2 _ (fun u hu => by rw [hpvl] at hu; simp at hu) (fun _ => ⟨F, rfl⟩) (fun e => absurd e (by decide)) (fun e => absurd e (by decide)) (fun e => absurd e (by decide)) (fun e => absurd e (by decide)) (fun e => absurd e (by decide)))
    · obtain rfl := Option.some.inj ho
      unfold Oper.wp
      simp [execOp, Act.eval, go_sem, t2]
      exact hK _ _ (hR.step (Below.refl _ _) 3 _ (fun u hu => by rw [hpvl] at hu; simpa using hu) (fun e => absurd e (by decide)) (fun e => absurd e (by decide)) (fun e => absurd e (by decide)) (fun e => absurd e (by decide)) (fun e => absurd e (by decide)) (fun e => absurd e (by decide)))
    · have d0 : a.tmps[10]? = some (.slice ca cn cc) := (hv 3 (by omega) (need 3 (by simp [depsB]))).trans (by rw [hR.pure 3 (.slice ca cn cc) (by rw [hpvl]; rfl) (need 3 (by simp [depsB]))])
      have ex : (execOp a.eval o).run Tryd.prog V = .ok (.enter 25 #[.slice ca cn cc]) V := by obtain rfl := Option.some.inj ho; simp [execOp, Act.eval, go_sem, d0]
      unfold Oper.wp
      rw [ex, Oper.upon_enter]
      refine (CL.out V bw).mono ?_
      rintro e V2 ⟨g, q, rfl, _, b2, _⟩
      exact hK _ _ (hR.step b2 4 _ (fun u hu => by rw [hpvl] at hu; simp at hu) (fun e => absurd e (by decide)) (fun _ => ⟨g, q, by rw [HP.out]⟩) (fun e => absurd e (by decide)) (fun e => absurd e (by decide)) (fun e => absurd e (by decide)) (fun e => absurd e (by decide)))
    · obtain rfl := Option.some.inj ho
      unfold Oper.wp
      simp [execOp, Act.eval, go_sem, t3]
      exact hK _ _ (hR.step (Below.refl _ _) 5 _ (fun u hu => by rw [hpvl] at hu; simpa using hu) (fun e => absurd e (by decide)) (fun e => absurd e (by decide)) (fun e => absurd e (by decide)) (fun e => absurd e (by decide)) (fun e => absurd e (by decide)) (fun e => absurd e (by decide)))
    · obtain rfl := Option.some.inj ho
      have d0 : a.tmps[12]? = some (.pointer (some ⟨w.heap.size, 0, none⟩)) := (hv 5 (by omega) (need 5 (by simp [depsB]))).trans (by rw [hR.pure 5 (.pointer (some ⟨w.heap.size, 0, none⟩)) (by rw [hpvl]; rfl) (need 5 (by simp [depsB]))])
      unfold Oper.wp
      simp [execOp, Act.eval, go_sem, d0, y0]
      exact hK _ _ (hR.step (Below.refl _ _) 6 _ (fun u hu => by rw [hpvl] at hu; simpa using hu) (fun e => absurd e (by decide)) (fun e => absurd e (by decide)) (fun e => absurd e (by decide)) (fun e => absurd e (by decide)) (fun e => absurd e (by decide)) (fun e => absurd e (by decide)))
    · obtain rfl := Option.some.inj ho
      have d0 : a.tmps[13]? = some (.int .i64 (P : Int)) := (hv 6 (by omega) (need 6 (by simp [depsB]))).trans (by rw [hR.pure 6 (.int .i64 (P : Int)) (by rw [hpvl]; rfl) (need 6 (by simp [depsB]))])
      have mk' := mk.out V
      unfold Oper.wp
      simp [execOp, Act.eval, go_sem, d0, mk']
      exact hK _ _ (hR.step ((Below.refl _ _).alloc (Nat.le_refl _) _) 7 _ (fun u hu => by rw [hpvl] at hu; simp at hu) (fun e => absurd e (by decide)) (fun e => absurd e (by decide)) (fun _ => ⟨_, rfl⟩) (fun e => absurd e (by decide)) (fun e => absurd e (by decide)) (fun e => absurd e (by decide)))
    · obtain ⟨F, e2⟩ := hR.v2 (need 2 (by simp [depsB]))
      obtain ⟨g, q, e4⟩ := hR.v4 (need 4 (by simp [depsB]))
      obtain ⟨g', e7⟩ := hR.v7 (need 7 (by simp [depsB]))
      have d2 := hv 2 (by omega) (need 2 (by simp [depsB]))
      have d4 := hv 4 (by omega) (need 4 (by simp [depsB]))
      have d7 := hv 7 (by omega) (need 7 (by simp [depsB]))
      rw [e2] at d2
      rw [e4] at d4
      rw [e7] at d7
      obtain ⟨C, hC, hc⟩ := built_pile (arrS 112 fun k => .int .i64 (F k)) (arrS_size _ _) (some ⟨g, 0, none⟩) (some ⟨g', 0, none⟩) P q P P
      have d2' : a.eval (.tmp 9) = _ := eval_ofE d2
      have d4' : a.eval (.tmp 11) = _ := eval_ofE d4
      have d7' : a.eval (.tmp 14) = _ := eval_ofE d7
      obtain rfl := Option.some.inj ho
      refine wp_build 95 _ rfl (by simp only [List.map_toArray, List.map_cons, List.map_nil, d2', d4', d7']; rw [hC]; rfl) ?_
      simp only [List.map_toArray, List.map_cons, List.map_nil, d2', d4', d7']
      rw [hC]
      exact hK _ _ (hR.step (Below.refl _ _) 8 _ (fun u hu => by rw [hpvl] at hu; simp at hu) (fun e => absurd e (by decide)) (fun e => absurd e (by decide)) (fun e => absurd e (by decide)) (fun _ => ⟨C, _, _, _, rfl, hc⟩) (fun e => absurd e (by decide)) (fun e => absurd e (by decide)))
    · obtain ⟨C, xa, xn, xc, e8, hc⟩ := hR.v8 (need 8 (by simp [depsB]))
      have d8 := hv 8 (by omega) (need 8 (by simp [depsB]))
      rw [e8] at d8
      have d8' : a.tmps[15]? = some (.agg C) := d8
      obtain rfl := Option.some.inj ho
      unfold Oper.wp
      simp [execOp, Act.eval, go_sem, d8']
      exact hK _ _ (hR.step ((Below.refl _ _).alloc (Nat.le_refl _) _) 9 _ (fun u hu => by rw [hpvl] at hu; simp at hu) (fun e => absurd e (by decide)) (fun e => absurd e (by decide)) (fun e => absurd e (by decide)) (fun e => absurd e (by decide)) (fun _ => ⟨_, C, _, _, _, rfl, heap_alloc_new _ _, hc, hR.bl.size⟩) (fun e => absurd e (by decide)))
    · have p9 := hR.v9 (need 9 (by simp [depsB]))
      have d9 := hv 9 (by omega) (need 9 (by simp [depsB]))
      obtain ⟨pb, C, xa, xn, xc, e9, h2, h3, h4⟩ := p9
      rw [e9] at d9
      have d9' : a.tmps[16]? = some (.pointer (some ⟨pb, 0, none⟩)) := d9
      obtain rfl := Option.some.inj ho
      unfold Oper.wp
      simp [execOp, Act.eval, go_sem, d9']
      exact hK _ _ (hR.step (Below.refl _ _) 10 _ (fun u hu => by rw [hpvl] at hu; simp at hu) (fun e => absurd e (by decide)) (fun e => absurd e (by decide)) (fun e => absurd e (by decide)) (fun e => absurd e (by decide)) (fun e => absurd e (by decide)) (fun _ => ⟨pb, C, xa, xn, xc, rfl, h2, h3, h4⟩))
  case hQ =>
    intro L vals V hR al
    have p10 := hR.v10 (al 10 (by omega))
    have bw : Below w.heap.size w V := B1.out.drew.trans (hR.bl.mono B1.out.size)
    simp only [List.range, List.range.loop, List.map, putsL, List.getD, List.getElem?_cons_zero, List.getElem?_cons_succ, Option.getD_some, Act.put, List.setIfInBounds_toArray, List.set_cons_zero, List.set_cons_succ]
    have X := hide' (show PourOut w (.returned (vals 10)) V from ⟨⟨_, rfl, by
      obtain ⟨pb, C, a, n, c, h1, h2, h3, h4⟩ := p10
      exact ⟨pb, C, a, n, c, h1, h2, h3, Nat.le_trans B1.out.size h4⟩⟩, bw⟩)
    obtain ⟨pb, C, a, n, c, h1, h2, h3, h4⟩ := p10
    rw [h1] at X ⊢
    clear hR al h1 h2 h3 h4 bw
    go_wp2
    go_ret
    exact X.out
end Go.Proofs.YtpppmollmiomlaaDoor

namespace Go.Proofs.YtpppmollmiomlaaDoor
open Go.RowKit
set_option linter.unusedVariables false
set_option linter.unusedSimpArgs false
def TopOut (w : World) (P : Int) (xs : List EgT) (s : Int) (cs : List Int) (e : Ending) (w' : World) : Prop := ∃ f x, ChG P xs s cs f ∧ e = .returned (.tuple #[x, errOf f]) ∧ Below w.heap.size w w'
set_option maxRecDepth 100000 in
set_option maxHeartbeats 6400000 in
theorem toppleNil_any (P : Int) (xs : List EgT) (ea : Option Addr) (n c : Nat) (s : Int) (cs : List Int) (ca : Option Addr) (cn cc : Nat) (w : World) (hE : ArgE w xs ea n c) (hC : ArgP w cs ca cn cc) :
    Calls Tryd.prog 34 #[.agg #[.int .i64 P, .slice ea n c], .int .i64 s, .slice ca cn cc, .slice none 0 0] w (TopOut w P xs s cs) := by
  obtain ⟨w1, hw1⟩ : ∃ w1, w.alloc (.cells #[.int .i64 P, .slice ea n c] 24) = w1 := ⟨_, rfl⟩
  have HW1 := hide' hw1
  have B1 := hide' (show Below w.heap.size w w1 by rw [← hw1]; exact (Below.refl _ _).alloc (Nat.le_refl _) _)
  have R1 := hide' (show w1.heap[w.heap.size]? = some (.cells #[.int .i64 P, .slice ea n c] 24 (0, 0)) by rw [← hw1]; exact heap_alloc_new _ _)
  have CK := hide' (checkChips_any P xs ea n c s cs ca cn cc w1 (hE.below B1.out) (hC.below B1.out))
  have PO := hide' (fun (V : World) (h : Below w.heap.size w V) (Q : Nat) (hQ : P = (Q : Int)) (hO : OkG Q xs) (hl : cn = Q) => show Calls Tryd.prog 44 #[.agg #[.int .i64 P, .slice ea n c], .int .i64 s, .slice ca cn cc] V (PourOut V) by rw [hQ]; exact pour_any Q xs ea n c s cs ca cn cc V (hE.below h) (hC.below h) hO hl)
  have LN := hide' hC.len
  have y0 := cell_of_row w1 _ 0 _ _ _ R1.out
  have y1 := cell_of_row w1 _ 1 _ _ _ R1.out
  simp at y0 y1
  clear hw1 hE hC
  go_enter Tryd.func34, Tryd.ntmps34
  go_upto_region 1 with fail
  rw [HW1.out]
  go_wp2_with fail
  refine CK.out.mono ?_
  rintro e w2 ⟨f, hf, rfl, b2⟩
  have HF := hide' hf
  have B2 := hide' (B1.out.trans (b2.mono B1.out.size))
  have R2 := hide' ((b2.block _ (ltS_of_block R1.out)).trans R1.out)
  clear hf b2 y0 y1
  by_cases h0 : f = 0
  · subst h0
    rw [show errOf 0 = .nilIface from rfl]
    have y0 := cell_of_row w2 _ 0 _ _ _ R2.out
    have y1 := cell_of_row w2 _ 1 _ _ _ R2.out
    simp at y0 y1
    obtain ⟨q1, q2⟩ := HF.out.good
    obtain ⟨q3, q4, q5⟩ := q1.good
    obtain ⟨Q, hQ, hO⟩ := q3.good
    have CP := hide' (PO.out w2 B2.out Q hQ hO (by have := q2.good.1; have := LN.out; omega))
    clear q1 q2 q3 q4 q5 hQ hO
    go_wp2_with fail
    refine CP.out.mono ?_
    rintro e w3 ⟨⟨v, rfl, hv⟩, b3⟩
    have B3 := hide' (B2.out.trans (b3.mono B2.out.size))
    obtain ⟨pb, C, xa, xn, xc, rfl, h2, h3, -⟩ := hv
    have z := cell_of_row w3 pb 112 _ _ _ h2
    rw [h3] at z
    clear b3 y0 y1 h2 h3
    go_wp2
    go_loopw [27] (fun iv wr => iv = .int .i64 0 ∧ wr = w3) (fun _ _ => 0)
    case atStart => exact ⟨rfl, rfl⟩
    case round =>
      obtain ⟨rfl, rfl⟩ := hrel
      go_wp2
      go_ret2
      exact ⟨0, _, HF.out, rfl, B3.out⟩
  · have H0 := hide' h0
    have EF := hide' (errOf_not h0)
    rw [EF.out]
    clear h0
    go_wp2
    go_ret2
    exact ⟨f, _, HF.out, by rw [EF.out]; rfl, B2.out⟩
end Go.Proofs.YtpppmollmiomlaaDoor

