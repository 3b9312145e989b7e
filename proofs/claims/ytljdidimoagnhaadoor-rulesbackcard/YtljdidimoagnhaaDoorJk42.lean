/-
  What the last text of this claim leans on, part 42: Pr20, Pr21, Ref5.
-/
import Derived.Test.YtljdidimoagnhaaDoorJk38
import Derived.Test.YtljdidimoagnhaaDoorJk15
namespace Go.Proofs.YtljdidimoagnhaaDoor
open Go.RowKit
set_option linter.unusedVariables false

set_option maxRecDepth 100000 in
set_option maxHeartbeats 3200000 in
theorem RefMirror_life (o : Out) (a : Option Addr) (n c : Nat) (w : World) (hk : o.kind = 1) :
    Calls Tryd.prog 25 #[.agg #[.int .i64 o.kind, .int .i64 o.born, .int .i64 o.stay, .int .i64 o.states, .int .i64 o.radius, .slice a n c, .string o.turns]] w fun e w' => e = .returned (.agg #[.int .i64 o.kind, .int .i64 o.born, .int .i64 o.stay, .int .i64 o.states, .int .i64 o.radius, .slice a n c, .string o.turns]) ∧ Below w.heap.size w w' := by
  have k3 : (o.kind == 3) = false := by simp; omega
  have k2 : (o.kind == 2) = false := by simp; omega
  clear hk
  go_enter Tryd.func25, Tryd.ntmps25
  go_wp2
  refine bodyPost_ret (v := .agg #[.int .i64 o.kind, .int .i64 o.born, .int .i64 o.stay, .int .i64 o.states, .int .i64 o.radius, .slice a n c, .string o.turns]) (by simp [results, Tryd.results25, go_sem]) rfl ?_
  exact ⟨rfl, (((Below.refl _ _).alloc (Nat.le_refl _) _).alloc (by simp) _).alloc (by simp; omega) _⟩

theorem mirU_bval (t : ByteArray) (k : Nat) (hk : k < t.size) (h : turnAt t k) : bval (mirU t k) = .int .u8 (158 - (t[k].toNat : Int)) := by
  have e := bt_lt t k hk
  unfold mirU bval
  rcases h with h | h
  · rw [if_pos h]
    have : t[k].toNat = 76 := by omega
    rw [this]; rfl
  · rw [if_neg (by omega)]
    have : t[k].toNat = 82 := by omega
    rw [this]; rfl
theorem mirU_succ (t : ByteArray) (k : Nat) : (List.range (k + 1)).map (mirU t) = (List.range k).map (mirU t) ++ [mirU t k] := by
  rw [List.range_succ, List.map_append]; rfl

set_option maxRecDepth 100000 in
set_option maxHeartbeats 3200000 in
theorem RefMirror_turns (o : Out) (a : Option Addr) (n c : Nat) (w : World) (hk : o.kind = 3) (ht : turnsP o.turns) :
    Calls Tryd.prog 25 #[.agg #[.int .i64 o.kind, .int .i64 o.born, .int .i64 o.stay, .int .i64 o.states, .int .i64 o.radius, .slice a n c, .string o.turns]] w fun e w' => e = .returned (.agg #[.int .i64 o.kind, .int .i64 o.born, .int .i64 o.stay, .int .i64 o.states, .int .i64 o.radius, .slice a n c, .string ⟨((List.range o.turns.size).map (mirU o.turns)).toArray⟩]) ∧ Below w.heap.size w w' := by
  have k3 : (o.kind == 3) = true := by simp; omega
  have k2 : (o.kind == 2) = false := by simp; omega
  have t26 := ht.2.1
  have HT := hide' ht
  obtain ⟨i0, hi, hz0, hz1, hz2⟩ := info_parts info_u8
  clear hk ht
  go_enter Tryd.func25, Tryd.ntmps25
  go_upto_region 2 with fail
  obtain ⟨W3, hW3⟩ : ∃ W3, W3 = ((w.alloc (.cells #[.int .i64 o.kind, .int .i64 o.born, .int .i64 o.stay, .int .i64 o.states, .int .i64 o.radius, .slice a n c, .string o.turns] 24)).alloc (.cells #[.int .i64 0, .int .i64 0, .int .i64 0, .int .i64 0, .int .i64 0, .slice none 0 0, .string ⟨#[]⟩] 24)).alloc (.cells #[.int .i64 o.kind, .int .i64 o.born, .int .i64 o.stay, .int .i64 o.states, .int .i64 o.radius, .slice a n c, .string o.turns] 24) := ⟨_, rfl⟩
  rw [← hW3]
  have A := hide' (show Seven W3 w.heap.size (.int .i64 o.kind) (.int .i64 o.born) (.int .i64 o.stay) (.int .i64 o.states) (.int .i64 o.radius) (.slice a n c) (.string o.turns) by rw [hW3]; constructor <;> simp [go_sem])
  have ZC := hide' (show Seven W3 (w.heap.size + 1) (.int .i64 0) (.int .i64 0) (.int .i64 0) (.int .i64 0) (.int .i64 0) (.slice none 0 0) (.string ⟨#[]⟩) ∧ Seven W3 (w.heap.size + 1 + 1) (.int .i64 o.kind) (.int .i64 o.born) (.int .i64 o.stay) (.int .i64 o.states) (.int .i64 o.radius) (.slice a n c) (.string o.turns) by rw [hW3]; constructor <;> constructor <;> simp [go_sem])
  have FZ := hide' (show ∀ j, W3.frozen? ⟨w.heap.size + 1, j, none⟩ = false ∧ W3.frozen? ⟨w.heap.size + 1 + 1, j, none⟩ = false by intro j; rw [hW3]; simp [go_sem])
  have z0 : W3.heap.size = w.heap.size + 3 := by rw [hW3]; simp
  have BW := hide' (show Below w.heap.size w W3 by rw [hW3]; exact (((Below.refl _ _).alloc (Nat.le_refl _) _).alloc (by simp) _).alloc (by simp; omega) _)
  clear hW3
  have a0 := A.out.c0
  have a6 := A.out.c6
  have S := hide' (Row8.start W3)
  go_wp2
  go_loopw [4, 5] (fun ov kv wr => ∃ k : Nat, kv = .int .i64 (k : Int) ∧ k ≤ o.turns.size ∧ Row8 W3 wr ov ((List.range k).map (mirU o.turns))) (fun _ kv _ => o.turns.size - (intOf kv).toNat)
  case atStart => exact ⟨0, rfl, by omega, S.out⟩
  case round =>
    obtain ⟨k, rfl, hk, hR8⟩ := hrel
    have R8 := hide' hR8
    have ho := hR8.own
    have hz := hR8.below.size
    clear a0 a6
    have a0 := (hR8.below.cell (p := ⟨w.heap.size, 0, none⟩) (by simp; omega)).trans A.out.c0
    have a6 := (hR8.below.cell (p := ⟨w.heap.size, 6, none⟩) (by simp; omega)).trans A.out.c6
    obtain ⟨sa, sn, sc, rfl⟩ := ownsRow_slice ho
    have HO := hide' ho
    have hcv := own_string ho
    clear hR8 ho S
    by_cases d : k < o.turns.size
    · have d' : (k : Int) < (o.turns.size : Int) := by omega
      have X := hide' (mirU_bval o.turns k d (HT.out.2.2 k d))
      have tt : (o.turns[k].toNat : Int) = 76 ∨ (o.turns[k].toNat : Int) = 82 := by
        have e := bt_lt o.turns k d
        rcases HT.out.2.2 k d with q | q <;> omega
      have tl : (0 : Int) ≤ 158 - (o.turns[k].toNat : Int) := by omega
      have th : 158 - (o.turns[k].toNat : Int) ≤ 255 := by omega
      have hll : ((List.range k).map (mirU o.turns)).length = k := by simp
      have tw : IntKind.u8.wrap (158 - (o.turns[k].toNat : Int)) = 158 - (o.turns[k].toNat : Int) := by rw [IntKind.wrap_u8]; omega
      have TT := hide' tt
      clear hcv tt
      go_wp2_with (at_builtin; refine wpList_append_own _ rfl _ _ 105 rfl W3.heap.size 5 i0 (.int .u8 0) 1 1 Tryd.underlying105 hi hz0 hz1 hz2 rfl (by decide) (.slice sa sn sc) _ _ rfl (HO.out.alloc _) ⟨wr.heap.size, 0, none⟩ 1 1 [.int .u8 (158 - (o.turns[k].toNat : Int))] rfl rfl (cell_one_new _ _ _) (fun x hx => by simp at hx; subst hx; rfl) (by unfold maxLen; simp; omega) (by simp; omega) (by simp; omega) ?_; intro v' w4 hown' hgrow3 hnil3; have G3 := hide' hgrow3; have O3 := hide' hown'; clear hgrow3 hown' hnil3)
      refine ⟨⟨k + 1, by go_num, by omega, ?_⟩, by simp [intOf]; omega⟩
      rw [mirU_succ]
      exact R8.out.push X.out G3.out O3.out
    · have d' : ¬ (k : Int) < (o.turns.size : Int) := by omega
      have K := hide' (show k = o.turns.size by omega)
      have x0 := (R8.out.below.cell (p := ⟨w.heap.size + 1, 0, none⟩) (by simp; omega)).trans ZC.out.1.c0
      have y0 := (R8.out.below.cell (p := ⟨w.heap.size + 1 + 1, 0, none⟩) (by simp; omega)).trans ZC.out.2.c0
      have x1 := (R8.out.below.cell (p := ⟨w.heap.size + 1, 1, none⟩) (by simp; omega)).trans ZC.out.1.c1
      have y1 := (R8.out.below.cell (p := ⟨w.heap.size + 1 + 1, 1, none⟩) (by simp; omega)).trans ZC.out.2.c1
      have x2 := (R8.out.below.cell (p := ⟨w.heap.size + 1, 2, none⟩) (by simp; omega)).trans ZC.out.1.c2
      have y2 := (R8.out.below.cell (p := ⟨w.heap.size + 1 + 1, 2, none⟩) (by simp; omega)).trans ZC.out.2.c2
      have x3 := (R8.out.below.cell (p := ⟨w.heap.size + 1, 3, none⟩) (by simp; omega)).trans ZC.out.1.c3
      have y3 := (R8.out.below.cell (p := ⟨w.heap.size + 1 + 1, 3, none⟩) (by simp; omega)).trans ZC.out.2.c3
      have x4 := (R8.out.below.cell (p := ⟨w.heap.size + 1, 4, none⟩) (by simp; omega)).trans ZC.out.1.c4
      have y4 := (R8.out.below.cell (p := ⟨w.heap.size + 1 + 1, 4, none⟩) (by simp; omega)).trans ZC.out.2.c4
      have x5 := (R8.out.below.cell (p := ⟨w.heap.size + 1, 5, none⟩) (by simp; omega)).trans ZC.out.1.c5
      have y5 := (R8.out.below.cell (p := ⟨w.heap.size + 1 + 1, 5, none⟩) (by simp; omega)).trans ZC.out.2.c5
      have x6 := (R8.out.below.cell (p := ⟨w.heap.size + 1, 6, none⟩) (by simp; omega)).trans ZC.out.1.c6
      have y6 := (R8.out.below.cell (p := ⟨w.heap.size + 1 + 1, 6, none⟩) (by simp; omega)).trans ZC.out.2.c6
      have f0 := (World.frozen?_of_block (a := ⟨w.heap.size + 1, 0, none⟩) (R8.out.below.block (w.heap.size + 1) (by omega))).trans (FZ.out 0).1
      have g0 := (World.frozen?_of_block (a := ⟨w.heap.size + 1 + 1, 0, none⟩) (R8.out.below.block (w.heap.size + 1 + 1) (by omega))).trans (FZ.out 0).2
      have f1 := (World.frozen?_of_block (a := ⟨w.heap.size + 1, 1, none⟩) (R8.out.below.block (w.heap.size + 1) (by omega))).trans (FZ.out 1).1
      have g1 := (World.frozen?_of_block (a := ⟨w.heap.size + 1 + 1, 1, none⟩) (R8.out.below.block (w.heap.size + 1 + 1) (by omega))).trans (FZ.out 1).2
      have f2 := (World.frozen?_of_block (a := ⟨w.heap.size + 1, 2, none⟩) (R8.out.below.block (w.heap.size + 1) (by omega))).trans (FZ.out 2).1
      have g2 := (World.frozen?_of_block (a := ⟨w.heap.size + 1 + 1, 2, none⟩) (R8.out.below.block (w.heap.size + 1 + 1) (by omega))).trans (FZ.out 2).2
      have f3 := (World.frozen?_of_block (a := ⟨w.heap.size + 1, 3, none⟩) (R8.out.below.block (w.heap.size + 1) (by omega))).trans (FZ.out 3).1
      have g3 := (World.frozen?_of_block (a := ⟨w.heap.size + 1 + 1, 3, none⟩) (R8.out.below.block (w.heap.size + 1 + 1) (by omega))).trans (FZ.out 3).2
      have f4 := (World.frozen?_of_block (a := ⟨w.heap.size + 1, 4, none⟩) (R8.out.below.block (w.heap.size + 1) (by omega))).trans (FZ.out 4).1
      have g4 := (World.frozen?_of_block (a := ⟨w.heap.size + 1 + 1, 4, none⟩) (R8.out.below.block (w.heap.size + 1 + 1) (by omega))).trans (FZ.out 4).2
      have f5 := (World.frozen?_of_block (a := ⟨w.heap.size + 1, 5, none⟩) (R8.out.below.block (w.heap.size + 1) (by omega))).trans (FZ.out 5).1
      have g5 := (World.frozen?_of_block (a := ⟨w.heap.size + 1 + 1, 5, none⟩) (R8.out.below.block (w.heap.size + 1 + 1) (by omega))).trans (FZ.out 5).2
      have f6 := (World.frozen?_of_block (a := ⟨w.heap.size + 1, 6, none⟩) (R8.out.below.block (w.heap.size + 1) (by omega))).trans (FZ.out 6).1
      have g6 := (World.frozen?_of_block (a := ⟨w.heap.size + 1 + 1, 6, none⟩) (R8.out.below.block (w.heap.size + 1 + 1) (by omega))).trans (FZ.out 6).2
      go_wp2
      refine bodyPost_ret (v := .agg #[.int .i64 o.kind, .int .i64 o.born, .int .i64 o.stay, .int .i64 o.states, .int .i64 o.radius, .slice a n c, .string ⟨((List.range k).map (mirU o.turns)).toArray⟩]) (by simp [results, Tryd.results25, go_sem, x0, x1, x2, x3, x4, x5, x6]) rfl ?_
      rw [K.out]
      refine ⟨rfl, setRule_below (Below.setCell (BW.out.trans (R8.out.below.mono BW.out.size)) (by simp; omega) _) (by simp) _ _ _ _ _ _ _⟩
end Go.Proofs.YtljdidimoagnhaaDoor

namespace Go.Proofs.YtljdidimoagnhaaDoor
open Go.RowKit
set_option linter.unusedVariables false

/-- One cell of the window read from behind. -/
theorem rv_step (s long t acc m : Nat) (ht : t < long) : rv s (long - t) acc (m / s ^ t) = rv s (long - (t + 1)) (acc * s + winAt s long m (long - 1 - t)) (m / s ^ (t + 1)) := by
  rw [show long - t = (long - (t + 1)) + 1 by omega]
  show rv s (long - (t + 1)) (acc * s + m / s ^ t % s) (m / s ^ t / s) = _
  unfold winAt
  rw [show long - 1 - (long - 1 - t) = t by omega, Nat.div_div_eq_div_mul, ← Nat.pow_succ]

/-- edenref1.Mirror in the midst of a table: the argument's copy, the result's block, the mirror's; its table grows. -/
structure RefM (w wr : World) (o : Out) (a : Option Addr) (n c : Nat) (v : Value) (xs : List Int) : Prop where
  below : Below w.heap.size w wr
  size : w.heap.size + 3 ≤ wr.heap.size
  arg : Seven wr w.heap.size (.int .i64 o.kind) (.int .i64 o.born) (.int .i64 o.stay) (.int .i64 o.states) (.int .i64 o.radius) (.slice a n c) (.string o.turns)
  res : Seven wr (w.heap.size + 1) (.int .i64 0) (.int .i64 0) (.int .i64 0) (.int .i64 0) (.int .i64 0) (.slice none 0 0) (.string ⟨#[]⟩)
  mm : Seven wr (w.heap.size + 1 + 1) (.int .i64 o.kind) (.int .i64 o.born) (.int .i64 o.stay) (.int .i64 o.states) (.int .i64 o.radius) v (.string o.turns)
  fz : ∀ b j, w.heap.size ≤ b → b < w.heap.size + 3 → wr.frozen? ⟨b, j, none⟩ = false
  own : wr.ownsRow (w.heap.size + 3) 3 1 v xs.length (xs.map fun x => .int .i64 x)
theorem RefM.start (w : World) (o : Out) (a : Option Addr) (n c : Nat) : RefM w ((((w.alloc (.cells #[.int .i64 o.kind, .int .i64 o.born, .int .i64 o.stay, .int .i64 o.states, .int .i64 o.radius, .slice a n c, .string o.turns] 24)).alloc (.cells #[.int .i64 0, .int .i64 0, .int .i64 0, .int .i64 0, .int .i64 0, .slice none 0 0, .string ⟨#[]⟩] 24)).alloc (.cells #[.int .i64 o.kind, .int .i64 o.born, .int .i64 o.stay, .int .i64 o.states, .int .i64 o.radius, .slice a n c, .string o.turns] 24)).setCell ⟨w.heap.size + 1 + 1, 5, none⟩ (.slice none 0 0)) o a n c (.slice none 0 0) [] := by
  have h : ∃ W3, W3 = ((w.alloc (.cells #[.int .i64 o.kind, .int .i64 o.born, .int .i64 o.stay, .int .i64 o.states, .int .i64 o.radius, .slice a n c, .string o.turns] 24)).alloc (.cells #[.int .i64 0, .int .i64 0, .int .i64 0, .int .i64 0, .int .i64 0, .slice none 0 0, .string ⟨#[]⟩] 24)).alloc (.cells #[.int .i64 o.kind, .int .i64 o.born, .int .i64 o.stay, .int .i64 o.states, .int .i64 o.radius, .slice a n c, .string o.turns] 24) := ⟨_, rfl⟩
  obtain ⟨W3, hW⟩ := h
  rw [← hW]
  have A : Seven W3 w.heap.size (.int .i64 o.kind) (.int .i64 o.born) (.int .i64 o.stay) (.int .i64 o.states) (.int .i64 o.radius) (.slice a n c) (.string o.turns) := by rw [hW]; constructor <;> simp [go_sem]
  have B : Seven W3 (w.heap.size + 1) (.int .i64 0) (.int .i64 0) (.int .i64 0) (.int .i64 0) (.int .i64 0) (.slice none 0 0) (.string ⟨#[]⟩) := by rw [hW]; constructor <;> simp [go_sem]
  have C : Seven W3 (w.heap.size + 1 + 1) (.int .i64 o.kind) (.int .i64 o.born) (.int .i64 o.stay) (.int .i64 o.states) (.int .i64 o.radius) (.slice a n c) (.string o.turns) := by rw [hW]; constructor <;> simp [go_sem]
  refine ⟨Below.setCell ?_ (by simp; omega) _, by rw [World.size_setCell, hW]; simp, A.other (by simp; omega) _, B.other (by simp) _, C.set5 _, ?_, ⟨by simp, Or.inl ⟨rfl, by simp⟩⟩⟩
  · rw [hW]; exact (((Below.refl _ _).alloc (Nat.le_refl _) _).alloc (by simp) _).alloc (by simp; omega) _
  · intro b j h1 h2
    rw [World.frozen?_setCell, hW]
    have h3 : b = w.heap.size ∨ b = w.heap.size + 1 ∨ b = w.heap.size + 1 + 1 := by omega
    rcases h3 with rfl | rfl | rfl <;> simp [go_sem]
theorem RefM.next {w wr w' : World} {o : Out} {a : Option Addr} {n c : Nat} {v : Value} {xs : List Int} (h : RefM w wr o a n c v xs) (hb : Below wr.heap.size wr w') : RefM w w' o a n c v xs := by
  have hz := h.size
  have e : ∀ b, b < w.heap.size + 3 → w'.heap[b]? = wr.heap[b]? := fun b hh => hb.block b (by omega)
  refine ⟨h.below.trans (hb.mono h.below.size), Nat.le_trans hz hb.size, h.arg.block (e _ (by omega)), h.res.block (e _ (by omega)), h.mm.block (e _ (by omega)), ?_, ?_⟩
  · intro b j h1 h2
    rw [World.frozen?_of_block (w := wr) (a := ⟨b, j, none⟩) (e b h2)]
    exact h.fz b j h1 h2
  · refine h.own.kept (row := none) ⟨hb.os, hb.tape, hb.output, hb.size, fun k hk _ => hb.block k hk⟩ ?_
    cases q : v.ownBlock with
    | none => exact Or.inl rfl
    | some k => exact Or.inr (by simp)
theorem RefM.push {w wr w' : World} {o : Out} {a : Option Addr} {n c : Nat} {v v' : Value} {xs : List Int} {x : Int} (h : RefM w wr o a n c v xs)
    (hg : (wr.alloc (.cells #[.int .i64 x] 3)).grownBy w' v.ownBlock) (ho : w'.ownsRow (w.heap.size + 3) 3 1 v' (xs.length + 1) ((xs.map fun x => .int .i64 x) ++ [.int .i64 x])) :
    RefM w (w'.setCell ⟨w.heap.size + 1 + 1, 5, none⟩ v') o a n c v' (xs ++ [x]) := by
  have hz := h.size
  have hob := ownsRow_block h.own
  have hb : ∀ b, b < w.heap.size + 3 → w'.heap[b]? = wr.heap[b]? := fun b hb => by
    rw [hg.block b (by rw [World.size_alloc]; omega) (fun e => by have := hob b e.symm; omega)]
    exact Below.heap_alloc _ _ _ (by omega)
  have hsz : wr.heap.size + 1 ≤ w'.heap.size := by have := hg.size; rw [World.size_alloc] at this; exact this
  have B1 : Below w.heap.size w w' := (h.below.alloc (by omega) _).trans ⟨hg.os, hg.tape, hg.output, hg.size, fun b hbb => hg.block b (by rw [World.size_alloc]; omega) (fun e => by have := hob b e.symm; omega)⟩
  refine ⟨B1.setCell (by simp; omega) _, by rw [World.size_setCell]; omega, ?_, ?_, ?_, ?_, ?_⟩
  · exact (h.arg.block (hb _ (by omega))).other (by simp; omega) _
  · exact (h.res.block (hb _ (by omega))).other (by simp) _
  · exact (h.mm.block (hb _ (by omega))).set5 _
  · intro b j h1 h2
    rw [World.frozen?_setCell, World.frozen?_of_block (w := wr) (a := ⟨b, j, none⟩) (hb b h2)]
    exact h.fz b j h1 h2
  · have := ownsRow_setCell_below ho (a := ⟨w.heap.size + 1 + 1, 5, none⟩) (by simp) v'
    simpa using this
end Go.Proofs.YtljdidimoagnhaaDoor

namespace Go.Proofs.YtljdidimoagnhaaDoor
open Go.RowKit
set_option linter.unusedVariables false

theorem bitOf_eq (n j q : Nat) (h : q = n / 2 ^ j) : ((q : Int) % 2) = bitOf n j := by
  unfold bitOf; rw [← h]; simp

theorem RefW.mid {w wr w' : World} {k st ra x : Int} {v : Value} {xs : List Int} (h : RefW w wr k st ra v xs)
    (hg : (wr.alloc (.cells #[.int .i64 x] 3)).grownBy w' v.ownBlock) : w'.cell? ⟨w.heap.size + 1, 5, none⟩ = some v ∧ w'.frozen? ⟨w.heap.size + 1, 5, none⟩ = false := by
  have hz := h.size
  have hob := ownsRow_block h.own
  have hb : w'.heap[w.heap.size + 1]? = wr.heap[w.heap.size + 1]? := by
    rw [hg.block _ (by rw [World.size_alloc]; omega) (fun e => by have := hob _ e.symm; omega)]
    exact Below.heap_alloc _ _ _ (by omega)
  exact ⟨(World.cell?_of_block (w := wr) (a := ⟨w.heap.size + 1, 5, none⟩) hb).trans h.rr.c5, (World.frozen?_of_block (w := wr) (a := ⟨w.heap.size + 1, 5, none⟩) hb).trans (h.fz _ 5 (by omega) (by omega))⟩

set_option maxRecDepth 100000 in
set_option maxHeartbeats 4000000 in
theorem ref_W2 (s : ByteArray) (w : World) (hs : s.size ≤ maxLen) (h0 : 0 < s.size) (hk : bt s 0 = 87) (hn : numOk s 1 0 255 = true) (hlt : (num s 1).2 < s.size) :
    Calls Tryd.prog 17 #[.string s] w fun e w' => RefParsed (.inr (num s 1).2) w e w' := by
  have hne := not_empty h0
  have e0 := bt_lt s 0 h0
  have k0 : ((s[0].toNat : Int) == 66) = false := by simp; omega
  have k1 : ((s[0].toNat : Int) == 87) = true := by simp; omega
  clear e0
  obtain ⟨i0, hi, hz0, hz1, hz2⟩ := info_parts info_int
  have hs' := hs
  unfold maxLen at hs'
  obtain ⟨K, hK⟩ : ∃ K, (num s 1).2 = K := ⟨_, rfl⟩
  rw [hK] at hlt ⊢
  have HK := hide' hK
  clear hK
  have g5 : (K : Int) < (s.size : Int) := by omega
  go_enter Tryd.func17, Tryd.ntmps17
  go_wp2_with fail
  refine (Number_any s 1 1 _ rfl hs (by omega)).mono ?_
  rw [HK.out]
  rintro e w1 ⟨N, rfl, hN, rfl⟩
  obtain ⟨h1, h2, h3⟩ := hN.ok 0 255 (by omega) hn
  obtain ⟨n, hn'⟩ : ∃ n, n = (num s 1).1 := ⟨_, rfl⟩
  rw [← hn'] at h1
  subst h1
  have hn2 : n ≤ 255 := by omega
  have a1 : ¬ (n : Int) < 0 := by omega
  have a2 : ¬ 255 < (n : Int) := by omega
  clear hN h2 h3 hn'
  have S := hide' (RefW.start w 2 2 1)
  go_wp2
  go_loopw [11, 13] (fun nv jv wr => ∃ (j q : Nat) (v : Value), jv = .int .i64 (j : Int) ∧ nv = .int .i64 (q : Int) ∧ j ≤ 8 ∧ q ≤ 255 ∧ q = n / 2 ^ j ∧ RefW w wr 2 2 1 v ((List.range j).map (bitOf n))) (fun _ jv _ => 8 - (intOf jv).toNat)
  case atStart => exact ⟨0, n, .slice none 0 0, rfl, rfl, by omega, hn2, by simp, S.out⟩
  case round =>
    obtain ⟨j, q, v, rfl, rfl, hj, hq, hqe, hR⟩ := hrel
    have HQ := hide' hqe
    have HR := hide' hR
    have hz := hR.size
    have ho := hR.own
    have d5 := hR.rr.c5
    have hf := hR.fz
    have y5 := hR.fz (w.heap.size + 1) 5 (by omega) (by omega)
    obtain ⟨sa, sn, sc, rfl⟩ := ownsRow_slice ho
    clear hqe hR hf S
    by_cases c : (j : Int) < 8
    · have HO := hide' ho
      clear ho
      go_wp2_with (at_builtin; refine wpList_append_own _ rfl _ _ 22 rfl (w.heap.size + 3) 3 i0 (.int .i64 0) 1 8 Tryd.underlying22 hi hz0 hz1 hz2 rfl (by decide) (.slice sa sn sc) _ _ rfl (HO.out.alloc _) ⟨wr.heap.size, 0, none⟩ 1 1 [.int .i64 ((q : Int) % 2)] rfl rfl (cell_one_new _ _ _) (fun x hx => by simp at hx; subst hx; rfl) (by unfold maxLen; simp; omega) (by simp; omega) (by simp; omega) ?_; intro v' w3 hown' hgrow3 hnil3; obtain ⟨ta, tn, tc, rfl⟩ := ownsRow_slice hown'; obtain ⟨x5, x6⟩ := HR.out.mid hgrow3; have G3 := hide' hgrow3; have O3 := hide' hown'; clear hgrow3 hown' hnil3)
      refine ⟨⟨j + 1, q / 2, .slice ta tn tc, by go_num, by go_num, by omega, by omega, ?_, ?_⟩, by simp [intOf]; omega⟩
      · rw [HQ.out, Nat.pow_succ, Nat.div_div_eq_div_mul]
      · have hp := HR.out.push G3.out O3.out
        rw [bitOf_eq n j q HQ.out] at hp
        rw [List.range_succ, List.map_append]
        exact hp
    · have R := HR.out
      obtain ⟨n0, n1, n2, n3, n4, n5, n6⟩ := R.no
      obtain ⟨r0, r1, r2, r3, r4, r5, r6⟩ := R.rr
      obtain ⟨t0, t1, t2, t3, t4, t5, t6⟩ := R.res
      have yf : ∀ j, wr.frozen? ⟨w.heap.size, j, none⟩ = false := fun j => R.fz _ j (by omega) (by omega)
      have JJ := hide' (show j = 8 by omega)
      clear R ho
      go_wp2
      refine bodyPost_ret (v := .tuple #[.agg zeroCells, .int .i64 (K : Int), .bool false]) (by simp [results, Tryd.results17, go_sem, zeroCells, t0, t1, t2, t3, t4, t5, t6]) rfl ?_
      refine RefParsed.bad ?_
      exact setRule_below HR.out.below (Nat.le_refl _) (.int .i64 0) (.int .i64 0) (.int .i64 0) (.int .i64 0) (.int .i64 0) (.slice none 0 0) (.string ⟨#[]⟩)

set_option maxRecDepth 100000 in
set_option maxHeartbeats 4000000 in
theorem ref_W3 (s : ByteArray) (w : World) (hs : s.size ≤ maxLen) (h0 : 0 < s.size) (hk : bt s 0 = 87) (hn : numOk s 1 0 255 = true) (hlt : ¬ (num s 1).2 < s.size) :
    Calls Tryd.prog 17 #[.string s] w fun e w' => RefParsed (.inl ⟨2, 0, 0, 2, 1, (List.range 8).map (bitOf (num s 1).1), ⟨#[]⟩⟩) w e w' := by
  have hne := not_empty h0
  have e0 := bt_lt s 0 h0
  have k0 : ((s[0].toNat : Int) == 66) = false := by simp; omega
  have k1 : ((s[0].toNat : Int) == 87) = true := by simp; omega
  clear e0
  obtain ⟨i0, hi, hz0, hz1, hz2⟩ := info_parts info_int
  have hs' := hs
  unfold maxLen at hs'
  obtain ⟨K, hK⟩ : ∃ K, (num s 1).2 = K := ⟨_, rfl⟩
  rw [hK] at hlt
  have HK := hide' hK
  clear hK
  have g5 : ¬ (K : Int) < (s.size : Int) := by omega
  go_enter Tryd.func17, Tryd.ntmps17
  go_wp2_with fail
  refine (Number_any s 1 1 _ rfl hs (by omega)).mono ?_
  rw [HK.out]
  rintro e w1 ⟨N, rfl, hN, rfl⟩
  obtain ⟨h1, h2, h3⟩ := hN.ok 0 255 (by omega) hn
  obtain ⟨n, hn'⟩ : ∃ n, n = (num s 1).1 := ⟨_, rfl⟩
  rw [← hn'] at h1
  subst h1
  have hn2 : n ≤ 255 := by omega
  have a1 : ¬ (n : Int) < 0 := by omega
  have a2 : ¬ 255 < (n : Int) := by omega
  have HV := hide' hn'.symm
  clear hN h2 h3 hn'
  have S := hide' (RefW.start w 2 2 1)
  go_wp2
  go_loopw [11, 13] (fun nv jv wr => ∃ (j q : Nat) (v : Value), jv = .int .i64 (j : Int) ∧ nv = .int .i64 (q : Int) ∧ j ≤ 8 ∧ q ≤ 255 ∧ q = n / 2 ^ j ∧ RefW w wr 2 2 1 v ((List.range j).map (bitOf n))) (fun _ jv _ => 8 - (intOf jv).toNat)
  case atStart => exact ⟨0, n, .slice none 0 0, rfl, rfl, by omega, hn2, by simp, S.out⟩
  case round =>
    obtain ⟨j, q, v, rfl, rfl, hj, hq, hqe, hR⟩ := hrel
    have HQ := hide' hqe
    have HR := hide' hR
    have hz := hR.size
    have ho := hR.own
    have d5 := hR.rr.c5
    have hf := hR.fz
    have y5 := hR.fz (w.heap.size + 1) 5 (by omega) (by omega)
    obtain ⟨sa, sn, sc, rfl⟩ := ownsRow_slice ho
    clear hqe hR hf S
    by_cases c : (j : Int) < 8
    · have HO := hide' ho
      clear ho
      go_wp2_with (at_builtin; refine wpList_append_own _ rfl _ _ 22 rfl (w.heap.size + 3) 3 i0 (.int .i64 0) 1 8 Tryd.underlying22 hi hz0 hz1 hz2 rfl (by decide) (.slice sa sn sc) _ _ rfl (HO.out.alloc _) ⟨wr.heap.size, 0, none⟩ 1 1 [.int .i64 ((q : Int) % 2)] rfl rfl (cell_one_new _ _ _) (fun x hx => by simp at hx; subst hx; rfl) (by unfold maxLen; simp; omega) (by simp; omega) (by simp; omega) ?_; intro v' w3 hown' hgrow3 hnil3; obtain ⟨ta, tn, tc, rfl⟩ := ownsRow_slice hown'; obtain ⟨x5, x6⟩ := HR.out.mid hgrow3; have G3 := hide' hgrow3; have O3 := hide' hown'; clear hgrow3 hown' hnil3)
      refine ⟨⟨j + 1, q / 2, .slice ta tn tc, by go_num, by go_num, by omega, by omega, ?_, ?_⟩, by simp [intOf]; omega⟩
      · rw [HQ.out, Nat.pow_succ, Nat.div_div_eq_div_mul]
      · have hp := HR.out.push G3.out O3.out
        rw [bitOf_eq n j q HQ.out] at hp
        rw [List.range_succ, List.map_append]
        exact hp
    · have R := HR.out
      obtain ⟨n0, n1, n2, n3, n4, n5, n6⟩ := R.no
      obtain ⟨r0, r1, r2, r3, r4, r5, r6⟩ := R.rr
      obtain ⟨t0, t1, t2, t3, t4, t5, t6⟩ := R.res
      have yf : ∀ j, wr.frozen? ⟨w.heap.size, j, none⟩ = false := fun j => R.fz _ j (by omega) (by omega)
      have JJ := hide' (show j = 8 by omega)
      clear R ho
      go_wp2
      refine bodyPost_ret (v := .tuple #[Out.val ⟨2, 0, 0, 2, 1, (List.range 8).map (bitOf n), ⟨#[]⟩⟩ (.slice sa sn sc), .int .i64 0, .bool true]) (by simp [results, Tryd.results17, go_sem, Out.val, t0, t1, t2, t3, t4, t5, t6]) rfl ?_
      rw [HV.out]
      have B := setRule_below HR.out.below (Nat.le_refl _) (.int .i64 2) (.int .i64 0) (.int .i64 0) (.int .i64 2) (.int .i64 1) (.slice sa sn sc) (.string ⟨#[]⟩)
      have T := ownsRow_tab HR.out.own
      rw [JJ.out] at T
      refine ⟨_, rfl, T.block (setRule_size wr w.heap.size (.int .i64 2) (.int .i64 0) (.int .i64 0) (.int .i64 2) (.int .i64 1) (.slice sa sn sc) (.string ⟨#[]⟩)) (fun g k c q => setRule_block wr w.heap.size g (.int .i64 2) (.int .i64 0) (.int .i64 0) (.int .i64 2) (.int .i64 1) (.slice sa sn sc) (.string ⟨#[]⟩) ?_), B⟩
      have := ownsRow_block HR.out.own g (by rw [q]; rfl)
      omega
end Go.Proofs.YtljdidimoagnhaaDoor

