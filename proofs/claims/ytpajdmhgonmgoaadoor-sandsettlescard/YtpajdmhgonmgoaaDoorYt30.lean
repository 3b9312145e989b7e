/-
  What the last text of this claim leans on, part 30: Kdb.
-/
import Derived.Test.YtpajdmhgonmgoaaDoorYt29
import Derived.Test.YtpajdmhgonmgoaaDoorYt22
namespace Go.Proofs.YtpajdmhgonmgoaaDoor
open Go.RowKit
set_option linter.unusedVariables false
open Go.Conc Go.ConcN Go.RowKit Go.Conc.Lib Go.ConcR.Gen
open Go.ConcR (KK wgBlock WgAt stA smA rd wr Payload DC0)
set_option linter.unusedSimpArgs false
structure PdS where
  g1 : Nat
  g2 : Nat
  T : Nat
theorem made_ints (n : Nat) : madeCells #[Value.int .i64 0] n = arrS n (fun _ => .int .i64 0) := by
  unfold arrS
  apply Array.ext'
  rw [toList_madeCells_one]
  simp [List.map_const', List.length_range]
def slV (g n : Nat) : Value := .slice (some ⟨g, 0, none⟩) n n
/-- The world while piled's blocks are made. -/
structure JP (W : World) (N1 n : Nat) (L : Nat → Bool) (s : PdS) (w : World) : Prop where
  os : w.os = W.os ∧ w.tape = W.tape ∧ w.output = W.output
  old : ∀ k, k < N1 → w.heap[k]? = W.heap[k]?
  sz : w.heap.size = N1 + (if L 5 then 1 else 0) + (if L 11 then 1 else 0) + (if L 13 then 1 else 0)
  r1 : L 5 = true → N1 ≤ s.g1 ∧ s.g1 < w.heap.size ∧ w.heap[s.g1]? = some (.cells (arrS n (fun _ => .int .i64 0)) 3)
  r2 : L 11 = true → N1 ≤ s.g2 ∧ s.g2 < w.heap.size ∧ w.heap[s.g2]? = some (.cells (arrS n (fun _ => .int .i64 0)) 3)
  rT : L 13 = true → N1 ≤ s.T ∧ s.T < w.heap.size ∧ w.heap[s.T]? = some (.cells (if L 14 then #[slV s.g1 n, slV s.g2 n] else #[.slice none 0 0, .slice none 0 0]) 33)
  n1 : L 5 = true → L 11 = true → s.g1 ≠ s.g2
  n2 : L 5 = true → L 13 = true → s.g1 ≠ s.T
  n3 : L 11 = true → L 13 = true → s.g2 ≠ s.T
theorem jp_at (W : World) (N1 n : Nat) (L : Nat → Bool) (s : PdS) : AtC (JP W N1 n L s) := fun w d h => ⟨h.os, h.old, h.sz, h.r1, h.r2, h.rT, h.n1, h.n2, h.n3⟩
theorem jp_on {W : World} {N1 n : Nat} {L : Nat → Bool} {s : PdS} {w : World} (i : Nat) (h5 : i ≠ 5) (h11 : i ≠ 11) (h13 : i ≠ 13) (h14 : i ≠ 14) (h : JP W N1 n L s w) : JP W N1 n (onL L i) s w := by
  have e5 : onL L i 5 = L 5 := by unfold onL; rw [if_neg (Ne.symm h5)]
  have e11 : onL L i 11 = L 11 := by unfold onL; rw [if_neg (Ne.symm h11)]
  have e13 : onL L i 13 = L 13 := by unfold onL; rw [if_neg (Ne.symm h13)]
  have e14 : onL L i 14 = L 14 := by unfold onL; rw [if_neg (Ne.symm h14)]
  refine ⟨h.os, h.old, ?_, ?_, ?_, ?_, ?_, ?_, ?_⟩
  all_goals (try rw [e5]); (try rw [e11]); (try rw [e13]); (try rw [e14])
  · exact h.sz
  · exact h.r1
  · exact h.r2
  · exact h.rT
  · exact h.n1
  · exact h.n2
  · exact h.n3
theorem jp_5 {W : World} {N1 n : Nat} {L : Nat → Bool} {s : PdS} {w : World} (l5 : L 5 = false) (l14 : L 14 = false) (h : JP W N1 n L s w) : JP W N1 n (onL L 5) { s with g1 := w.heap.size } (w.alloc (.cells (arrS n (fun _ => .int .i64 0)) 3)) := by
  have e5 : onL L 5 5 = true := rfl
  have e11 : onL L 5 11 = L 11 := rfl
  have e13 : onL L 5 13 = L 13 := rfl
  have e14 : onL L 5 14 = L 14 := rfl
  have hs := h.sz
  have hN : N1 ≤ w.heap.size := by rw [hs]; omega
  have sz : (w.alloc (.cells (arrS n (fun _ => .int .i64 0)) 3)).heap.size = w.heap.size + 1 := size_alloc' _ _
  refine ⟨h.os, fun k hk => (hOld _ _ _ (by omega)).trans (h.old k hk), ?_, fun _ => ⟨hN, by rw [sz]; show w.heap.size < _; omega, hNew _ _⟩, ?_, ?_, ?_, ?_, ?_⟩
  · rw [sz, e5, e11, e13, hs, l5]; simp; omega
  · rw [e11]; exact fun q => ⟨(h.r2 q).1, by rw [sz]; have := (h.r2 q).2.1; show s.g2 < _; omega, (hOld _ _ _ (h.r2 q).2.1).trans (h.r2 q).2.2⟩
  · rw [e13, e14, l14]; exact fun q => ⟨(h.rT q).1, by rw [sz]; have := (h.rT q).2.1; show s.T < _; omega, (hOld _ _ _ (h.rT q).2.1).trans (by have := (h.rT q).2.2; rw [l14] at this; exact this)⟩
  · rw [e11]; exact fun _ q => by have := (h.r2 q).2.1; show w.heap.size ≠ s.g2; omega
  · rw [e13]; exact fun _ q => by have := (h.rT q).2.1; show w.heap.size ≠ s.T; omega
  · rw [e11, e13]; exact h.n3
theorem jp_11 {W : World} {N1 n : Nat} {L : Nat → Bool} {s : PdS} {w : World} (l11 : L 11 = false) (l14 : L 14 = false) (h : JP W N1 n L s w) : JP W N1 n (onL L 11) { s with g2 := w.heap.size } (w.alloc (.cells (arrS n (fun _ => .int .i64 0)) 3)) := by
  have e5 : onL L 11 5 = L 5 := rfl
  have e11 : onL L 11 11 = true := rfl
  have e13 : onL L 11 13 = L 13 := rfl
  have e14 : onL L 11 14 = L 14 := rfl
  have hs := h.sz
  have hN : N1 ≤ w.heap.size := by rw [hs]; omega
  have sz : (w.alloc (.cells (arrS n (fun _ => .int .i64 0)) 3)).heap.size = w.heap.size + 1 := size_alloc' _ _
  refine ⟨h.os, fun k hk => (hOld _ _ _ (by omega)).trans (h.old k hk), ?_, ?_, fun _ => ⟨hN, by rw [sz]; show w.heap.size < _; omega, hNew _ _⟩, ?_, ?_, ?_, ?_⟩
  · rw [sz, e5, e11, e13, hs, l11]; simp; omega
  · rw [e5]; exact fun q => ⟨(h.r1 q).1, by rw [sz]; have := (h.r1 q).2.1; show s.g1 < _; omega, (hOld _ _ _ (h.r1 q).2.1).trans (h.r1 q).2.2⟩
  · rw [e13, e14, l14]; exact fun q => ⟨(h.rT q).1, by rw [sz]; have := (h.rT q).2.1; show s.T < _; omega, (hOld _ _ _ (h.rT q).2.1).trans (by have := (h.rT q).2.2; rw [l14] at this; exact this)⟩
  · rw [e5]; exact fun q _ => by have := (h.r1 q).2.1; show s.g1 ≠ w.heap.size; omega
  · rw [e5, e13]; exact h.n2
  · rw [e13]; exact fun _ q => by have := (h.rT q).2.1; show w.heap.size ≠ s.T; omega
theorem jp_13 {W : World} {N1 n : Nat} {L : Nat → Bool} {s : PdS} {w : World} (l13 : L 13 = false) (l14 : L 14 = false) (h : JP W N1 n L s w) : JP W N1 n (onL L 13) { s with T := w.heap.size } (w.alloc (.cells #[.slice none 0 0, .slice none 0 0] 33)) := by
  have e5 : onL L 13 5 = L 5 := rfl
  have e11 : onL L 13 11 = L 11 := rfl
  have e13 : onL L 13 13 = true := rfl
  have e14 : onL L 13 14 = L 14 := rfl
  have hs := h.sz
  have hN : N1 ≤ w.heap.size := by rw [hs]; omega
  have sz : (w.alloc (.cells #[.slice none 0 0, .slice none 0 0] 33)).heap.size = w.heap.size + 1 := size_alloc' _ _
  refine ⟨h.os, fun k hk => (hOld _ _ _ (by omega)).trans (h.old k hk), ?_, ?_, ?_, fun _ => ⟨hN, by rw [sz]; show w.heap.size < _; omega, by rw [e14, l14]; exact hNew _ _⟩, ?_, ?_, ?_⟩
  · rw [sz, e5, e11, e13, hs, l13]; simp
  · rw [e5]; exact fun q => ⟨(h.r1 q).1, by rw [sz]; have := (h.r1 q).2.1; show s.g1 < _; omega, (hOld _ _ _ (h.r1 q).2.1).trans (h.r1 q).2.2⟩
  · rw [e11]; exact fun q => ⟨(h.r2 q).1, by rw [sz]; have := (h.r2 q).2.1; show s.g2 < _; omega, (hOld _ _ _ (h.r2 q).2.1).trans (h.r2 q).2.2⟩
  · rw [e5, e11]; exact h.n1
  · rw [e5]; exact fun q _ => by have := (h.r1 q).2.1; show s.g1 ≠ w.heap.size; omega
  · rw [e11]; exact fun q _ => by have := (h.r2 q).2.1; show s.g2 ≠ w.heap.size; omega
theorem jp_14 {W : World} {N1 n : Nat} {L : Nat → Bool} {s : PdS} {w : World} (l5 : L 5 = true) (l11 : L 11 = true) (l13 : L 13 = true) (l14 : L 14 = false) (h : JP W N1 n L s w) : JP W N1 n (onL L 14) s ((w.setCell ⟨s.T, 0, none⟩ (slV s.g1 n)).setCell ⟨s.T, 1, none⟩ (slV s.g2 n)) := by
  have e5 : onL L 14 5 = L 5 := rfl
  have e11 : onL L 14 11 = L 11 := rfl
  have e13 : onL L 14 13 = L 13 := rfl
  have e14 : onL L 14 14 = true := rfl
  obtain ⟨t1, t2, t3⟩ := h.rT l13
  obtain ⟨a1, a2, a3⟩ := h.r1 l5
  obtain ⟨b1, b2, b3⟩ := h.r2 l11
  have m2 := h.n2 l5 l13
  have m3 := h.n3 l11 l13
  rw [l14] at t3
  have sz : ((w.setCell ⟨s.T, 0, none⟩ (slV s.g1 n)).setCell ⟨s.T, 1, none⟩ (slV s.g2 n)).heap.size = w.heap.size := by simp
  have oth : ∀ k, k ≠ s.T → ((w.setCell ⟨s.T, 0, none⟩ (slV s.g1 n)).setCell ⟨s.T, 1, none⟩ (slV s.g2 n)).heap[k]? = w.heap[k]? := fun k hk => by rw [hSet _ _ _ _ hk, hSet _ _ _ _ hk]
  refine ⟨h.os, fun k hk => (oth k (by omega)).trans (h.old k hk), ?_, ?_, ?_, ?_, ?_, ?_, ?_⟩
  · rw [sz, e5, e11, e13]; exact h.sz
  · exact fun _ => ⟨a1, by rw [sz]; exact a2, (oth _ m2).trans a3⟩
  · exact fun _ => ⟨b1, by rw [sz]; exact b2, (oth _ m3).trans b3⟩
  · refine fun _ => ⟨t1, by rw [sz]; exact t2, ?_⟩
    rw [e14]
    have k1 := heap_setCell_same w s.T 0 _ _ (slV s.g1 n) t3
    have k2 := heap_setCell_same _ s.T 1 _ _ (slV s.g2 n) k1
    exact k2
  · rw [e5, e11]; exact h.n1
  · rw [e5, e13]; exact h.n2
  · rw [e11, e13]; exact h.n3
def dlP1 : List (Option Nat) := [some 5, some 6, some 7, some 8, some 9, some 10, some 11, some 12, some 13, some 14, some 15, some 16, some 17, some 3, none]
def dpP1 : List (Nat × Nat) := [(1, 0), (2, 1), (3, 2), (4, 3), (5, 4), (7, 6), (8, 7), (9, 8), (10, 9), (11, 10), (12, 5), (12, 11), (14, 12), (14, 13)]
def vlP1 (C n : Nat) (j : Nat) (s : PdS) : Value := ([(Value.pointer (some ⟨C, 0, none⟩)), (Value.pointer (some ⟨C, 0, none⟩)), (Value.pointer (some ⟨C, 0, none⟩)), (Value.pointer (some ⟨C, 0, none⟩)), (Value.int .i64 (n : Int)), (slV s.g1 n), (Value.pointer (some ⟨C, 0, none⟩)), (Value.pointer (some ⟨C, 0, none⟩)), (Value.pointer (some ⟨C, 0, none⟩)), (Value.pointer (some ⟨C, 0, none⟩)), (Value.int .i64 (n : Int)), (slV s.g2 n), (Value.agg #[slV s.g1 n, slV s.g2 n]), (Value.pointer (some ⟨s.T, 0, none⟩)), undef] : List Value).getD j undef
theorem bu_run {w : World} {x y : Value} {a1 a2 : Option Addr} {n1 m1 n2 m2 : Nat} {a : Act} {p q : Nat} (hp : a.tmps[p]? = some (.slice a1 n1 m1)) (hq : a.tmps[q]? = some (.slice a2 n2 m2)) {o : Oper} (ho : o.op = .build 33 #[(0, .tmp p), (1, .tmp q)]) : (execOp a.eval o).run Tryd.prog w = .ok (.value (.agg #[.slice a1 n1 m1, .slice a2 n2 m2])) w ∧ (execOp a.eval o).events Tryd.prog w #[] = #[] := by
  constructor
  · simp [execOp, ho, go_sem, hp, hq]
  · simp [execOp, ho, go_sem, hp, hq]
set_option maxRecDepth 100000 in
set_option maxHeartbeats 6400000 in
theorem piled_P1 {Shun : Loc → Prop} {B N1 C n : Nat} {W : World} {S : Goroutine → World → Prop} {a0 : Act} {k : List Item} {cs : List Frame} {m : Nat} (hn10 : n ≤ 10) (hz : a0.tmps.size = 48) (h0 : a0.tmps[0]? = some (Value.pointer (some ⟨C, 0, none⟩)))
    (hS : ∀ a, N1 ≤ a.block → ¬ Shun (.cell a)) (hSC : ¬ Shun (.cell ⟨C, 0, none⟩)) (hB : N1 + 3 ≤ B) (hC : C < N1) (hW : W.heap.size = N1) (hx : W.cell? ⟨C, 0, none⟩ = some (.int .i64 (n : Int)))
    (hend : ∀ s, Gp Tryd.prog (EvL Shun B) S m (G ((base 24).at (putsO a0 ((List.range 15).map fun j => (dlP1.getD j none, vlP1 C n j s))) k) cs) (JP W N1 n (fun _ => true) s)) :
    Gp Tryd.prog (EvL Shun B) S (m + 377) (G ((base 24).at a0 (.code (cL (cR (bodyOf Tryd.f24))) :: k)) cs) (AtRel W) := by
  have hkb : (base 24).kind ≠ .early := by simp [base]
  have key := gp_drawS (σ := PdS) (E := EvL Shun B) (S := S) (b := base 24) (k := k) (cs := cs) (id := 1) (P := Tryd.prog) (by kernel_rfl) (cO (cL (cR (bodyOf Tryd.f24)))) 15 dlP1 dpP1 (JP W N1 n) (vlP1 C n) 25 m (a0 := a0) (by rfl) (by rfl) (nd_of (by decide)) (fun t ht => by rw [hz]; exact lt_of_all (by decide) t ht) (by rfl) (by kernel_rfl) (by kernel_rfl) (jp_at W N1 n) ?hop ?hend ⟨0, 0, 0⟩
  case hop =>
    intro j o L s a hj ho lj cl need hkeep hv rest M hn
    have t0 : a.tmps[0]? = some (Value.pointer (some ⟨C, 0, none⟩)) := (hkeep 0 (by decide)).trans h0
    simp only [cO, cL, cR, bodyOf, Tryd.f24, Option.getD_some] at ho hn ⊢
    have this : j = 0 ∨ j = 1 ∨ j = 2 ∨ j = 3 ∨ j = 4 ∨ j = 5 ∨ j = 6 ∨ j = 7 ∨ j = 8 ∨ j = 9 ∨ j = 10 ∨ j = 11 ∨ j = 12 ∨ j = 13 ∨ j = 14 := by omega
    rcases this with rfl | rfl | rfl | rfl | rfl | rfl | rfl | rfl | rfl | rfl | rfl | rfl | rfl | rfl | rfl
    · obtain rfl := Option.some.inj ho
      replace hn := hn s (fun _ _ _ => rfl)
      refine Gp.mono (gp_valw (F' := JP W N1 n (onL L 0) s) (jp_at _ _ _ _ _) rfl rfl hkb _ (fun w hF => ⟨w, Or.inl ?_, fun e he => ?_, jp_on 0 (by decide) (by decide) (by decide) (by decide) hF⟩) hn) (by omega)
      · simp [execOp, Act.eval, go_sem, t0]
        try rfl
      · simp [execOp, Act.eval, go_sem, t0] at he
    · obtain rfl := Option.some.inj ho
      have d0 : a.tmps[5]? = some (Value.pointer (some ⟨C, 0, none⟩)) := hv 0 5 (by decide) rfl
      replace hn := hn s (fun _ _ _ => rfl)
      refine Gp.mono (gp_valw (F' := JP W N1 n (onL L 1) s) (jp_at _ _ _ _ _) rfl rfl hkb _ (fun w hF => ⟨w, Or.inl ?_, fun e he => ?_, jp_on 1 (by decide) (by decide) (by decide) (by decide) hF⟩) hn) (by omega)
      · simp [execOp, Act.eval, go_sem, d0]
        try rfl
      · simp [execOp, Act.eval, go_sem, d0] at he
    · obtain rfl := Option.some.inj ho
      have d1 : a.tmps[6]? = some (Value.pointer (some ⟨C, 0, none⟩)) := hv 1 6 (by decide) rfl
      replace hn := hn s (fun _ _ _ => rfl)
      refine Gp.mono (gp_valw (F' := JP W N1 n (onL L 2) s) (jp_at _ _ _ _ _) rfl rfl hkb _ (fun w hF => ⟨w, Or.inl ?_, fun e he => ?_, jp_on 2 (by decide) (by decide) (by decide) (by decide) hF⟩) hn) (by omega)
      · simp [execOp, Act.eval, go_sem, d1]
        try rfl
      · simp [execOp, Act.eval, go_sem, d1] at he
    · obtain rfl := Option.some.inj ho
      have d2 : a.tmps[7]? = some (Value.pointer (some ⟨C, 0, none⟩)) := hv 2 7 (by decide) rfl
      replace hn := hn s (fun _ _ _ => rfl)
      refine Gp.mono (gp_valw (F' := JP W N1 n (onL L 3) s) (jp_at _ _ _ _ _) rfl rfl hkb _ (fun w hF => ⟨w, Or.inl ?_, fun e he => ?_, jp_on 3 (by decide) (by decide) (by decide) (by decide) hF⟩) hn) (by omega)
      · simp [execOp, Act.eval, go_sem, d2]
        try rfl
      · simp [execOp, Act.eval, go_sem, d2] at he
    · obtain rfl := Option.some.inj ho
      have d3 : a.tmps[8]? = some (Value.pointer (some ⟨C, 0, none⟩)) := hv 3 8 (by decide) rfl
      replace hn := hn s (fun _ _ _ => rfl)
      refine Gp.mono (gp_valw (F' := JP W N1 n (onL L 4) s) (jp_at _ _ _ _ _) rfl rfl hkb _ (fun w hF => ⟨w, Or.inl ?_, fun e he => ?_, jp_on 4 (by decide) (by decide) (by decide) (by decide) hF⟩) hn) (by omega)
      · have k1 : w.cell? ⟨C, 0, none⟩ = some (.int .i64 (n : Int)) := (cell_heap (a := ⟨C, 0, none⟩) (hF.old C hC)).trans hx
        simp [execOp, Act.eval, go_sem, k1, d3]
        try rfl
      · have k1 : w.cell? ⟨C, 0, none⟩ = some (.int .i64 (n : Int)) := (cell_heap (a := ⟨C, 0, none⟩) (hF.old C hC)).trans hx
        simp [execOp, Act.eval, go_sem, k1, d3] at he
        subst he
        exact evL_cell _ _ hSC (by show C < B; omega)
    · obtain rfl := Option.some.inj ho
      have d4 : a.tmps[9]? = some (Value.int .i64 (n : Int)) := hv 4 9 (by decide) rfl
      have l14 : L 14 = false := by
        cases h14 : L 14 with
        | false => rfl
        | true =>
          have h12 := cl 14 12 (by decide) h14
          have h5 := cl 12 5 (by decide) h12
          rw [h5] at lj; cases lj
      have l12 : L 12 = false := by
        cases h12 : L 12 with
        | false => rfl
        | true =>
          have h5 := cl 12 5 (by decide) h12
          rw [h5] at lj; cases lj
      obtain ⟨z, hz1⟩ : ∃ z, N1 + (if L 11 then 1 else 0) + (if L 13 then 1 else 0) = z := ⟨_, rfl⟩
      replace hn := hn { s with g1 := z } (fun j hj lj2 => by
        have this : j = 0 ∨ j = 1 ∨ j = 2 ∨ j = 3 ∨ j = 4 ∨ j = 5 ∨ j = 6 ∨ j = 7 ∨ j = 8 ∨ j = 9 ∨ j = 10 ∨ j = 11 ∨ j = 12 ∨ j = 13 ∨ j = 14 := by omega
        rcases this with rfl | rfl | rfl | rfl | rfl | rfl | rfl | rfl | rfl | rfl | rfl | rfl | rfl | rfl | rfl <;> first | rfl | (rw [lj] at lj2; cases lj2) | (rw [l12] at lj2; cases lj2))
      refine Gp.mono (gp_valw (F' := JP W N1 n (onL L 5) { s with g1 := z }) (jp_at _ _ _ _ _) rfl rfl hkb _ (fun w hF => ?_) hn) (by omega)
      have ez : w.heap.size = z := by rw [hF.sz, lj, ← hz1]; simp
      refine ⟨w.alloc (.cells (arrS n (fun _ => .int .i64 0)) 3), Or.inl ?_, fun e he => ?_, by rw [← ez]; exact jp_5 lj l14 hF⟩
      · simp [execOp, Act.eval, d4, mk_run w n hn10, made_ints, Result.andThen, ez]
        try rfl
      · simp [execOp, Act.eval, d4, mk_run w n hn10, mk_ev w n hn10, Result.andThen, Result.evThen] at he
    · obtain rfl := Option.some.inj ho
      replace hn := hn s (fun _ _ _ => rfl)
      refine Gp.mono (gp_valw (F' := JP W N1 n (onL L 6) s) (jp_at _ _ _ _ _) rfl rfl hkb _ (fun w hF => ⟨w, Or.inl ?_, fun e he => ?_, jp_on 6 (by decide) (by decide) (by decide) (by decide) hF⟩) hn) (by omega)
      · simp [execOp, Act.eval, go_sem, t0]
        try rfl
      · simp [execOp, Act.eval, go_sem, t0] at he
    · obtain rfl := Option.some.inj ho
      have d6 : a.tmps[11]? = some (Value.pointer (some ⟨C, 0, none⟩)) := hv 6 11 (by decide) rfl
      replace hn := hn s (fun _ _ _ => rfl)
      refine Gp.mono (gp_valw (F' := JP W N1 n (onL L 7) s) (jp_at _ _ _ _ _) rfl rfl hkb _ (fun w hF => ⟨w, Or.inl ?_, fun e he => ?_, jp_on 7 (by decide) (by decide) (by decide) (by decide) hF⟩) hn) (by omega)
      · simp [execOp, Act.eval, go_sem, d6]
        try rfl
      · simp [execOp, Act.eval, go_sem, d6] at he
    · obtain rfl := Option.some.inj ho
      have d7 : a.tmps[12]? = some (Value.pointer (some ⟨C, 0, none⟩)) := hv 7 12 (by decide) rfl
      replace hn := hn s (fun _ _ _ => rfl)
      refine Gp.mono (gp_valw (F' := JP W N1 n (onL L 8) s) (jp_at _ _ _ _ _) rfl rfl hkb _ (fun w hF => ⟨w, Or.inl ?_, fun e he => ?_, jp_on 8 (by decide) (by decide) (by decide) (by decide) hF⟩) hn) (by omega)
      · simp [execOp, Act.eval, go_sem, d7]
        try rfl
      · simp [execOp, Act.eval, go_sem, d7] at he
    · obtain rfl := Option.some.inj ho
      have d8 : a.tmps[13]? = some (Value.pointer (some ⟨C, 0, none⟩)) := hv 8 13 (by decide) rfl
      replace hn := hn s (fun _ _ _ => rfl)
      refine Gp.mono (gp_valw (F' := JP W N1 n (onL L 9) s) (jp_at _ _ _ _ _) rfl rfl hkb _ (fun w hF => ⟨w, Or.inl ?_, fun e he => ?_, jp_on 9 (by decide) (by decide) (by decide) (by decide) hF⟩) hn) (by omega)
      · simp [execOp, Act.eval, go_sem, d8]
        try rfl
      · simp [execOp, Act.eval, go_sem, d8] at he
    · obtain rfl := Option.some.inj ho
      have d9 : a.tmps[14]? = some (Value.pointer (some ⟨C, 0, none⟩)) := hv 9 14 (by decide) rfl
      replace hn := hn s (fun _ _ _ => rfl)
      refine Gp.mono (gp_valw (F' := JP W N1 n (onL L 10) s) (jp_at _ _ _ _ _) rfl rfl hkb _ (fun w hF => ⟨w, Or.inl ?_, fun e he => ?_, jp_on 10 (by decide) (by decide) (by decide) (by decide) hF⟩) hn) (by omega)
      · have k1 : w.cell? ⟨C, 0, none⟩ = some (.int .i64 (n : Int)) := (cell_heap (a := ⟨C, 0, none⟩) (hF.old C hC)).trans hx
        simp [execOp, Act.eval, go_sem, k1, d9]
        try rfl
      · have k1 : w.cell? ⟨C, 0, none⟩ = some (.int .i64 (n : Int)) := (cell_heap (a := ⟨C, 0, none⟩) (hF.old C hC)).trans hx
        simp [execOp, Act.eval, go_sem, k1, d9] at he
        subst he
        exact evL_cell _ _ hSC (by show C < B; omega)
    · obtain rfl := Option.some.inj ho
      have d10 : a.tmps[15]? = some (Value.int .i64 (n : Int)) := hv 10 15 (by decide) rfl
      have l14 : L 14 = false := by
        cases h14 : L 14 with
        | false => rfl
        | true =>
          have h12 := cl 14 12 (by decide) h14
          have h11 := cl 12 11 (by decide) h12
          rw [h11] at lj; cases lj
      have l12 : L 12 = false := by
        cases h12 : L 12 with
        | false => rfl
        | true =>
          have h11 := cl 12 11 (by decide) h12
          rw [h11] at lj; cases lj
      obtain ⟨z, hz1⟩ : ∃ z, N1 + (if L 5 then 1 else 0) + (if L 13 then 1 else 0) = z := ⟨_, rfl⟩
      replace hn := hn { s with g2 := z } (fun j hj lj2 => by
        have this : j = 0 ∨ j = 1 ∨ j = 2 ∨ j = 3 ∨ j = 4 ∨ j = 5 ∨ j = 6 ∨ j = 7 ∨ j = 8 ∨ j = 9 ∨ j = 10 ∨ j = 11 ∨ j = 12 ∨ j = 13 ∨ j = 14 := by omega
        rcases this with rfl | rfl | rfl | rfl | rfl | rfl | rfl | rfl | rfl | rfl | rfl | rfl | rfl | rfl | rfl <;> first | rfl | (rw [lj] at lj2; cases lj2) | (rw [l12] at lj2; cases lj2))
      refine Gp.mono (gp_valw (F' := JP W N1 n (onL L 11) { s with g2 := z }) (jp_at _ _ _ _ _) rfl rfl hkb _ (fun w hF => ?_) hn) (by omega)
      have ez : w.heap.size = z := by rw [hF.sz, lj, ← hz1]; simp
      refine ⟨w.alloc (.cells (arrS n (fun _ => .int .i64 0)) 3), Or.inl ?_, fun e he => ?_, by rw [← ez]; exact jp_11 lj l14 hF⟩
      · simp [execOp, Act.eval, d10, mk_run w n hn10, made_ints, Result.andThen, ez]
        try rfl
      · simp [execOp, Act.eval, d10, mk_run w n hn10, mk_ev w n hn10, Result.andThen, Result.evThen] at he
    · obtain rfl := Option.some.inj ho
      have d5 : a.tmps[10]? = some (slV s.g1 n) := hv 5 10 (by decide) rfl
      have d11 : a.tmps[16]? = some (slV s.g2 n) := hv 11 16 (by decide) rfl
      replace hn := hn s (fun _ _ _ => rfl)
      refine Gp.mono (gp_valw (F' := JP W N1 n (onL L 12) s) (jp_at _ _ _ _ _) rfl rfl hkb _ (fun w hF => ⟨w, Or.inl ?_, fun e he => ?_, jp_on 12 (by decide) (by decide) (by decide) (by decide) hF⟩) hn) (by omega)
      · exact (bu_run (x := undef) (y := undef) d5 d11 rfl).1
      · rw [(bu_run (x := undef) (y := undef) d5 d11 rfl).2] at he
        simp at he
    · obtain rfl := Option.some.inj ho
      have l14 : L 14 = false := by
        cases h14 : L 14 with
        | false => rfl
        | true =>
          have h13 := cl 14 13 (by decide) h14
          rw [h13] at lj; cases lj
      obtain ⟨z, hz1⟩ : ∃ z, N1 + (if L 5 then 1 else 0) + (if L 11 then 1 else 0) = z := ⟨_, rfl⟩
      replace hn := hn { s with T := z } (fun j hj lj2 => by
        have this : j = 0 ∨ j = 1 ∨ j = 2 ∨ j = 3 ∨ j = 4 ∨ j = 5 ∨ j = 6 ∨ j = 7 ∨ j = 8 ∨ j = 9 ∨ j = 10 ∨ j = 11 ∨ j = 12 ∨ j = 13 ∨ j = 14 := by omega
        rcases this with rfl | rfl | rfl | rfl | rfl | rfl | rfl | rfl | rfl | rfl | rfl | rfl | rfl | rfl | rfl <;> first | rfl | (rw [lj] at lj2; cases lj2) | (rw [l14] at lj2; cases lj2))
      refine Gp.mono (gp_valw (F' := JP W N1 n (onL L 13) { s with T := z }) (jp_at _ _ _ _ _) rfl rfl hkb _ (fun w hF => ?_) hn) (by omega)
      have ez : w.heap.size = z := by rw [hF.sz, lj, ← hz1]; simp
      refine ⟨w.alloc (.cells #[.slice none 0 0, .slice none 0 0] 33), Or.inl ?_, fun e he => ?_, by rw [← ez]; exact jp_13 lj l14 hF⟩
      · rw [(al_run rfl).1, ez]
        rfl
      · rw [(al_run rfl).2] at he
        simp at he
    · obtain rfl := Option.some.inj ho
      have d12 : a.tmps[17]? = some (Value.agg #[slV s.g1 n, slV s.g2 n]) := hv 12 17 (by decide) rfl
      have d13 : a.tmps[3]? = some (Value.pointer (some ⟨s.T, 0, none⟩)) := hv 13 3 (by decide) rfl
      have l12 := hv
      replace hn := hn s (fun _ _ _ => rfl)
      have q12 : L 12 = true := need 12 (by decide)
      have q13 : L 13 = true := need 13 (by decide)
      have q5 : L 5 = true := cl 12 5 (by decide) q12
      have q11 : L 11 = true := cl 12 11 (by decide) q12
      refine Gp.mono (gp_valw (F' := JP W N1 n (onL L 14) s) (jp_at _ _ _ _ _) rfl rfl hkb _ (fun w hF => ?_) hn) (by omega)
      obtain ⟨y1, y2, y3⟩ := hF.rT q13
      rw [lj] at y3
      refine ⟨_, Or.inr ⟨(st_run (w := w) (g := s.T) y3 d13 d12 rfl).1, rfl⟩, fun e he => ?_, jp_14 q5 q11 q13 lj hF⟩
      rw [(st_run (w := w) (g := s.T) y3 d13 d12 rfl).2] at he
      have hs := hF.sz
      rw [q5, q11, q13] at hs
      simp only [List.mem_toArray, List.mem_cons, List.not_mem_nil, or_false] at he
      have hsT : s.T < B := by simp at hs; omega
      rcases he with rfl | rfl
      · exact evL_cell _ _ (hS _ y1) hsT
      · exact evL_cell _ _ (hS _ y1) hsT
  case hend =>
    intro s L hall
    refine Gp.weak (hend s) fun w h => ?_
    have e5 := hall 5 (by omega)
    have e11 := hall 11 (by omega)
    have e13 := hall 13 (by omega)
    have e14 := hall 14 (by omega)
    refine ⟨h.os, h.old, ?_, fun _ => h.r1 e5, fun _ => h.r2 e11, fun _ => ?_, fun _ _ => h.n1 e5 e11, fun _ _ => h.n2 e5 e13, fun _ _ => h.n3 e11 e13⟩
    · have := h.sz; rw [e5, e11, e13] at this; exact this
    · have := h.rT e13; rw [e14] at this; exact this
  refine Gp.weak key fun w hw => ?_
  obtain ⟨d, rfl⟩ := hw
  exact ⟨⟨rfl, rfl, rfl⟩, fun _ _ => rfl, hW, fun h => (by cases h), fun h => (by cases h), fun h => (by cases h), fun h => (by cases h), fun h => (by cases h), fun h => (by cases h)⟩
end Go.Proofs.YtpajdmhgonmgoaaDoor

