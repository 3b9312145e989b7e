/-
  What the last text of this claim leans on, part 6: Parse, Ref4, Pr5, Wj1, Wj2, Wj3, Wj0, Wj4, Wj5, Wk1, Pr6.
-/
import Derived.Test.YtjngjnkecnnmeaaDoorJ5
import Derived.Test.YtjngjnkecnnmeaaDoorJ1
import Derived.Test.YtjngjnkecnnmeaaDoorJ2
import Derived.Test.YtjngjnkecnnmeaaDoorProg
import Derived.Defers
import Derived.Recover
import Derived.Laws.IdiomStrings
import Derived.Laws.BytesArg
import Derived.Shelf.Strings.Builder1
namespace Go.Proofs.YtjngjnkecnnmeaaDoor
open Go.RowKit
set_option linter.unusedVariables false

theorem catch_idle (p q r t : Value) (w : World) :
    CallsD Tryd.prog 56 #[p, q, r, t] .returning w fun e u' w' => e = .returned (.tuple #[]) ∧ u' = .returning ∧ w' = w := by
  refine callsD_of_wpS Tryd.func56 rfl fun c₀ cs hu => ?_
  apply wpS_seq
  apply wpS_region
  simp [wpOpsS, go_sem, recoverD, hu, Tryd.ntmps56, Exit.thenS]
  refine wpS_cond (t := false) (by simp [Act.eval, Array.replicate]) ?_
  simp only [Bool.false_eq_true, if_false]
  refine wpS_of_wp (wp_skip ?_)
  cases c₀
  simp_all [bodyPostS, results, Tryd.results56]

/-- The seven cells of a rule at g. -/
def setRule (w : World) (g : Nat) (v0 v1 v2 v3 v4 v5 v6 : Value) : World :=
  ((((((w.setCell ⟨g, 0, none⟩ v0).setCell ⟨g, 1, none⟩ v1).setCell ⟨g, 2, none⟩ v2).setCell ⟨g, 3, none⟩ v3).setCell ⟨g, 4, none⟩ v4).setCell ⟨g, 5, none⟩ v5).setCell ⟨g, 6, none⟩ v6

/-- The seven cells of a rule at g: they are there. -/
structure Seven (w : World) (g : Nat) (v0 v1 v2 v3 v4 v5 v6 : Value) : Prop where
  c0 : w.cell? ⟨g, 0, none⟩ = some v0
  c1 : w.cell? ⟨g, 1, none⟩ = some v1
  c2 : w.cell? ⟨g, 2, none⟩ = some v2
  c3 : w.cell? ⟨g, 3, none⟩ = some v3
  c4 : w.cell? ⟨g, 4, none⟩ = some v4
  c5 : w.cell? ⟨g, 5, none⟩ = some v5
  c6 : w.cell? ⟨g, 6, none⟩ = some v6
theorem Seven.set {w : World} {g : Nat} {u0 u1 u2 u3 u4 u5 u6 v0 v1 v2 v3 v4 v5 v6 : Value} (h : Seven w g u0 u1 u2 u3 u4 u5 u6) : Seven (setRule w g v0 v1 v2 v3 v4 v5 v6) g v0 v1 v2 v3 v4 v5 v6 := by
  obtain ⟨c0, c1, c2, c3, c4, c5, c6⟩ := h
  unfold setRule
  constructor <;> simp [go_sem, c0, c1, c2, c3, c4, c5, c6]
theorem Seven.other {w : World} {g : Nat} {v0 v1 v2 v3 v4 v5 v6 : Value} (h : Seven w g v0 v1 v2 v3 v4 v5 v6) {p : Addr} (hp : p.block ≠ g) (u : Value) : Seven (w.setCell p u) g v0 v1 v2 v3 v4 v5 v6 := by
  have e : (w.setCell p u).heap[g]? = w.heap[g]? := Below.heap_setCell _ _ _ _ (fun q => hp q.symm)
  obtain ⟨c0, c1, c2, c3, c4, c5, c6⟩ := h
  exact ⟨(World.cell?_of_block (w := w) (a := ⟨g, 0, none⟩) e).trans c0, (World.cell?_of_block (w := w) (a := ⟨g, 1, none⟩) e).trans c1, (World.cell?_of_block (w := w) (a := ⟨g, 2, none⟩) e).trans c2, (World.cell?_of_block (w := w) (a := ⟨g, 3, none⟩) e).trans c3, (World.cell?_of_block (w := w) (a := ⟨g, 4, none⟩) e).trans c4, (World.cell?_of_block (w := w) (a := ⟨g, 5, none⟩) e).trans c5, (World.cell?_of_block (w := w) (a := ⟨g, 6, none⟩) e).trans c6⟩
theorem setRule_block (w : World) (g k : Nat) (v0 v1 v2 v3 v4 v5 v6 : Value) (hk : k ≠ g) : (setRule w g v0 v1 v2 v3 v4 v5 v6).heap[k]? = w.heap[k]? := by
  unfold setRule
  rw [Below.heap_setCell _ _ _ _ hk, Below.heap_setCell _ _ _ _ hk, Below.heap_setCell _ _ _ _ hk, Below.heap_setCell _ _ _ _ hk, Below.heap_setCell _ _ _ _ hk, Below.heap_setCell _ _ _ _ hk, Below.heap_setCell _ _ _ _ hk]
theorem setRule_size (w : World) (g : Nat) (v0 v1 v2 v3 v4 v5 v6 : Value) : (setRule w g v0 v1 v2 v3 v4 v5 v6).heap.size = w.heap.size := by
  unfold setRule
  simp only [World.size_setCell]
theorem setRule_below {B : Nat} {w0 w : World} (h : Below B w0 w) {g : Nat} (hg : B ≤ g) (v0 v1 v2 v3 v4 v5 v6 : Value) : Below B w0 (setRule w g v0 v1 v2 v3 v4 v5 v6) := by
  unfold setRule
  exact ((((((h.setCell hg _).setCell hg _).setCell hg _).setCell hg _).setCell hg _).setCell hg _).setCell hg _
theorem Tab.block {w w' : World} {v : Value} {xs : List Int} (h : Tab w v xs) (hs : w'.heap.size = w.heap.size) (hb : ∀ g k c, v = .slice (some ⟨g, 0, none⟩) k c → w'.heap[g]? = w.heap[g]?) : Tab w' v xs := by
  rcases h with h | ⟨g, cap, hv, hg, hc⟩
  · exact Or.inl h
  · exact Or.inr ⟨g, cap, hv, by rw [hs]; exact hg, fun k hk => (World.cell?_of_block (w := w) (a := ⟨g, k, none⟩) (hb g _ _ hv)).trans (hc k hk)⟩

/-- Parse's three results are read. -/
theorem parse_results (g : Nat) (W : World) (v0 v1 v2 v3 v4 v5 v6 x y a0 a1 a5 a6 a7 a8 a9 a10 : Value) (h : Seven W g v0 v1 v2 v3 v4 v5 v6) (hx : W.cell? ⟨g + 1, 0, none⟩ = some x) (hy : W.cell? ⟨g + 1 + 1, 0, none⟩ = some y) :
    (results Tryd.f12 #[a0, a1, .pointer (some ⟨g, 0, none⟩), .pointer (some ⟨g + 1, 0, none⟩), .pointer (some ⟨g + 1 + 1, 0, none⟩), a5, a6, a7, a8, a9, a10]).run Tryd.prog W = .ok (.tuple #[.agg #[v0, v1, v2, v3, v4, v5, v6], x, y]) W := by
  obtain ⟨c0, c1, c2, c3, c4, c5, c6⟩ := h
  simp [results, Tryd.results12, go_sem, c0, c1, c2, c3, c4, c5, c6, hx, hy]

set_option maxHeartbeats 1600000 in
theorem catch_panicking (g : Nat) (i : Nat) (older : List PanicEntry) (w : World)
    (hp : w.cell? ⟨g + 1 + 1 + 1, 1, none⟩ = some (.int .i64 (i : Int)))
    (c0 : w.cell? ⟨g, 0, none⟩ = some (.int .i64 0)) (c1 : w.cell? ⟨g, 1, none⟩ = some (.int .i64 0)) (c2 : w.cell? ⟨g, 2, none⟩ = some (.int .i64 0)) (c3 : w.cell? ⟨g, 3, none⟩ = some (.int .i64 0)) (c4 : w.cell? ⟨g, 4, none⟩ = some (.int .i64 0)) (c5 : w.cell? ⟨g, 5, none⟩ = some (.slice none 0 0)) (c6 : w.cell? ⟨g, 6, none⟩ = some (.string ⟨#[]⟩))
    (d0 : w.cell? ⟨g + 1, 0, none⟩ = some (.int .i64 0)) (e0 : w.cell? ⟨g + 1 + 1, 0, none⟩ = some .nilIface)
    (f0 : ∀ j, w.frozen? ⟨g, j, none⟩ = false) (f1 : w.frozen? ⟨g + 1, 0, none⟩ = false) (f2 : w.frozen? ⟨g + 1 + 1, 0, none⟩ = false) :
    CallsD Tryd.prog 56 #[.pointer (some ⟨g + 1 + 1 + 1, 0, none⟩), .pointer (some ⟨g, 0, none⟩), .pointer (some ⟨g + 1, 0, none⟩), .pointer (some ⟨g + 1 + 1, 0, none⟩)] (.panicking ({ v := .iface 87 (.int .i64 2), recovered := false } :: older)) w fun e u' w' =>
      e = .returned (.tuple #[]) ∧ u' = .panicking ({ v := .iface 87 (.int .i64 2), recovered := true } :: older) ∧
      w' = ((setRule w g (.int .i64 0) (.int .i64 0) (.int .i64 0) (.int .i64 0) (.int .i64 0) (.slice none 0 0) (.string ⟨#[]⟩)).setCell ⟨g + 1, 0, none⟩ (.int .i64 (i : Int))).setCell ⟨g + 1 + 1, 0, none⟩ (.iface 87 (.int .i64 2)) := by
  refine callsD_of_wpS Tryd.func56 rfl fun c₀ cs hu => ?_
  apply wpS_seq
  apply wpS_region
  simp [wpOpsS, go_sem, recoverD, hu, Tryd.ntmps56, Exit.thenS]
  refine wpS_cond (t := true) (by simp [Act.eval, Array.replicate]) ?_
  simp only [if_true]
  apply wpS_region
  simp [wpOpsS, go_sem, hp, c0, c1, c2, c3, c4, c5, c6, d0, e0, f0, f1, f2, bodyPostS, results, Tryd.results56, setRule]

/-- What Parse answers where the text is a rule's. -/
def ParsedOk (o : Out) (w : World) (e : Ending) (w' : World) : Prop := ∃ v, e = .returned (.tuple #[o.val v, .int .i64 0, .nilIface]) ∧ Tab w' v o.table ∧ Fresh w v ∧ Below w.heap.size w w'
/-- What Parse answers where it is none: the first fault is at a. -/
def ParsedNo (a : Nat) (w : World) (e : Ending) (w' : World) : Prop := e = .returned (.tuple #[.agg zeroCells, .int .i64 (a : Int), .iface 87 (.int .i64 2)]) ∧ Below w.heap.size w w'

set_option maxHeartbeats 1600000 in
theorem parse_ok (s : ByteArray) (w : World) (hs : s.size ≤ maxLen) (o : Out) (hx : parseS s = .inl o) :
    Calls Tryd.prog 12 #[.string s] w fun e w' => ParsedOk o w e w' := by
  have hmf : ∀ (fn : Fn) (first cap : Array Value) (w : World), (Instr.makeFunc fn first cap).run Tryd.prog w = .ok (.func fn first cap) w := fun _ _ _ _ => rfl
  have hA : At (w.heap.size + 1 + 1 + 1) s 0 ((((w.alloc (.cells zeroCells 24)).alloc (.cells #[.int .i64 0] 3)).alloc (.cells #[.nilIface] 26)).alloc (.cells #[.string s, .int .i64 0] 86)) := by
    refine ⟨?_, ?_, ?_, ?_⟩ <;> simp [go_sem]
  have HA := hide hA
  have HX := hide hx
  clear hA hx
  go_enter_defers Tryd.func12, Tryd.ntmps12
  go_wp2_with fail
  refine (rule_any _ s _ HA.out hs).mono ?_
  rw [HX.out]
  rintro e w1 ⟨v, rfl, t1, f1, a1, r1⟩
  obtain ⟨sa, sn, sc, rfl⟩ := t1.slice
  have cc : ∀ k j, k < w.heap.size + 1 + 1 + 1 → w1.cell? ⟨k, j, none⟩ = _ := fun k j hk => r1.cell k j (by simp; omega) (by omega)
  have cf : ∀ k j, k < w.heap.size + 1 + 1 + 1 → w1.frozen? ⟨k, j, none⟩ = _ := fun k j hk => r1.frozen k j (by simp; omega) (by omega)
  have c0 := cc w.heap.size 0 (by omega)
  have c1 := cc w.heap.size 1 (by omega)
  have c2 := cc w.heap.size 2 (by omega)
  have c3 := cc w.heap.size 3 (by omega)
  have c4 := cc w.heap.size 4 (by omega)
  have c5 := cc w.heap.size 5 (by omega)
  have c6 := cc w.heap.size 6 (by omega)
  have d0 := cc (w.heap.size + 1) 0 (by omega)
  have e0 := cc (w.heap.size + 1 + 1) 0 (by omega)
  have z0 : ∀ j, w1.frozen? ⟨w.heap.size, j, none⟩ = false := fun j => (cf w.heap.size j (by omega)).trans (by simp [go_sem])
  have z1 := cf (w.heap.size + 1) 0 (by omega)
  have z2 := cf (w.heap.size + 1 + 1) 0 (by omega)
  simp [go_sem, zeroCells] at c0 c1 c2 c3 c4 c5 c6 d0 e0 z1 z2
  have T1 := hide t1
  have F1 := hide f1
  have R1 := hide r1
  clear cc cf t1 f1 r1 a1 HA
  unfold Out.val
  go_wp2
  refine leaves_cons (f := 56) (args := #[.pointer (some ⟨w.heap.size + 1 + 1 + 1, 0, none⟩), .pointer (some ⟨w.heap.size, 0, none⟩), .pointer (some ⟨w.heap.size + 1, 0, none⟩), .pointer (some ⟨w.heap.size + 1 + 1, 0, none⟩)]) (by simp) (by simp [go_sem]) ?_
  refine (catch_idle _ _ _ _ _).mono ?_
  rintro e u' w'' ⟨rfl, rfl, rfl⟩
  have S2 := ((((Seven.mk c0 c1 c2 c3 c4 c5 c6).set (v0 := .int .i64 o.kind) (v1 := .int .i64 o.born) (v2 := .int .i64 o.stay) (v3 := .int .i64 o.states) (v4 := .int .i64 o.radius) (v5 := .slice sa sn sc) (v6 := .string o.turns)).set (v0 := .int .i64 o.kind) (v1 := .int .i64 o.born) (v2 := .int .i64 o.stay) (v3 := .int .i64 o.states) (v4 := .int .i64 o.radius) (v5 := .slice sa sn sc) (v6 := .string o.turns)).other (p := ⟨w.heap.size + 1, 0, none⟩) (by simp) (.int .i64 0)).other (p := ⟨w.heap.size + 1 + 1, 0, none⟩) (by simp; omega) .nilIface
  have hz : w.heap.size + 1 + 1 + 1 + 1 ≤ w1.heap.size := by have := R1.out.size; simpa using this
  have hd : (setRule (setRule w1 w.heap.size (.int .i64 o.kind) (.int .i64 o.born) (.int .i64 o.stay) (.int .i64 o.states) (.int .i64 o.radius) (.slice sa sn sc) (.string o.turns)) w.heap.size (.int .i64 o.kind) (.int .i64 o.born) (.int .i64 o.stay) (.int .i64 o.states) (.int .i64 o.radius) (.slice sa sn sc) (.string o.turns)).cell? ⟨w.heap.size + 1, 0, none⟩ = some (.int .i64 0) := by
    rw [World.cell?_of_block (w := w1) (a := ⟨w.heap.size + 1, 0, none⟩) ((setRule_block _ _ _ _ _ _ _ _ _ _ (by simp)).trans (setRule_block _ _ _ _ _ _ _ _ _ _ (by simp)))]; exact d0
  have he : (setRule (setRule w1 w.heap.size (.int .i64 o.kind) (.int .i64 o.born) (.int .i64 o.stay) (.int .i64 o.states) (.int .i64 o.radius) (.slice sa sn sc) (.string o.turns)) w.heap.size (.int .i64 o.kind) (.int .i64 o.born) (.int .i64 o.stay) (.int .i64 o.states) (.int .i64 o.radius) (.slice sa sn sc) (.string o.turns)).cell? ⟨w.heap.size + 1 + 1, 0, none⟩ = some .nilIface := by
    rw [World.cell?_of_block (w := w1) (a := ⟨w.heap.size + 1 + 1, 0, none⟩) ((setRule_block _ _ _ _ _ _ _ _ _ _ (by simp; omega)).trans (setRule_block _ _ _ _ _ _ _ _ _ _ (by simp; omega)))]; exact e0
  have hd2 : (((setRule (setRule w1 w.heap.size (.int .i64 o.kind) (.int .i64 o.born) (.int .i64 o.stay) (.int .i64 o.states) (.int .i64 o.radius) (.slice sa sn sc) (.string o.turns)) w.heap.size (.int .i64 o.kind) (.int .i64 o.born) (.int .i64 o.stay) (.int .i64 o.states) (.int .i64 o.radius) (.slice sa sn sc) (.string o.turns)).setCell ⟨w.heap.size + 1, 0, none⟩ (.int .i64 0)).setCell ⟨w.heap.size + 1 + 1, 0, none⟩ .nilIface).cell? ⟨w.heap.size + 1, 0, none⟩ = some (.int .i64 0) := by
    rw [World.cell?_setCell_other _ _ _ _ (by simp)]; exact World.cell?_setCell_same _ _ _ hd
  have he2 : (((setRule (setRule w1 w.heap.size (.int .i64 o.kind) (.int .i64 o.born) (.int .i64 o.stay) (.int .i64 o.states) (.int .i64 o.radius) (.slice sa sn sc) (.string o.turns)) w.heap.size (.int .i64 o.kind) (.int .i64 o.born) (.int .i64 o.stay) (.int .i64 o.states) (.int .i64 o.radius) (.slice sa sn sc) (.string o.turns)).setCell ⟨w.heap.size + 1, 0, none⟩ (.int .i64 0)).setCell ⟨w.heap.size + 1 + 1, 0, none⟩ .nilIface).cell? ⟨w.heap.size + 1 + 1, 0, none⟩ = some .nilIface :=
    World.cell?_setCell_same _ _ _ ((World.cell?_setCell_other _ _ _ _ (by simp)).trans he)
  refine ⟨.tuple #[o.val (.slice sa sn sc), .int .i64 0, .nilIface], parse_results w.heap.size _ _ _ _ _ _ _ _ _ _ _ _ _ _ _ _ _ _ S2 hd2 he2, _, rfl, ?_, F1.out.old (by simp; omega), ?_⟩
  · refine T1.out.block (by rw [World.size_setCell, World.size_setCell]; exact (setRule_size _ _ _ _ _ _ _ _ _).trans (setRule_size _ _ _ _ _ _ _ _ _)) fun g k c q => ?_
    have hg := F1.out g k c q
    simp at hg
    rw [Below.heap_setCell _ _ _ _ (by simp; omega), Below.heap_setCell _ _ _ _ (by simp; omega)]
    exact (setRule_block _ _ _ _ _ _ _ _ _ _ (by omega)).trans (setRule_block _ _ _ _ _ _ _ _ _ _ (by omega))
  · have B1 : Below w.heap.size w w1 := Below.trans ((((Below.refl _ _).alloc (Nat.le_refl _) _).alloc (by simp) _).alloc (by simp; omega) _ |>.alloc (by simp; omega) _) (R1.out.below (by omega) (by simp; omega))
    exact ((setRule_below (setRule_below B1 (Nat.le_refl _) (.int .i64 o.kind) (.int .i64 o.born) (.int .i64 o.stay) (.int .i64 o.states) (.int .i64 o.radius) (.slice sa sn sc) (.string o.turns)) (Nat.le_refl _) (.int .i64 o.kind) (.int .i64 o.born) (.int .i64 o.stay) (.int .i64 o.states) (.int .i64 o.radius) (.slice sa sn sc) (.string o.turns)).setCell (p := ⟨w.heap.size + 1, 0, none⟩) (by simp) _).setCell (p := ⟨w.heap.size + 1 + 1, 0, none⟩) (by simp; omega) _

set_option maxHeartbeats 1600000 in
theorem parse_no (s : ByteArray) (w : World) (hs : s.size ≤ maxLen) (a : Nat) (hx : parseS s = .inr a) :
    Calls Tryd.prog 12 #[.string s] w fun e w' => ParsedNo a w e w' := by
  have hmf : ∀ (fn : Fn) (first cap : Array Value) (w : World), (Instr.makeFunc fn first cap).run Tryd.prog w = .ok (.func fn first cap) w := fun _ _ _ _ => rfl
  have hA : At (w.heap.size + 1 + 1 + 1) s 0 ((((w.alloc (.cells zeroCells 24)).alloc (.cells #[.int .i64 0] 3)).alloc (.cells #[.nilIface] 26)).alloc (.cells #[.string s, .int .i64 0] 86)) := by
    refine ⟨?_, ?_, ?_, ?_⟩ <;> simp [go_sem]
  have HA := hide hA
  have HX := hide hx
  clear hA hx
  go_enter_defers Tryd.func12, Tryd.ntmps12
  go_wp2_with fail
  refine (rule_any _ s _ HA.out hs).mono ?_
  rw [HX.out]
  rintro e w1 ⟨rfl, a1, r1⟩
  have cc : ∀ k j, k < w.heap.size + 1 + 1 + 1 → w1.cell? ⟨k, j, none⟩ = _ := fun k j hk => r1.cell k j (by simp; omega) (by omega)
  have cf : ∀ k j, k < w.heap.size + 1 + 1 + 1 → w1.frozen? ⟨k, j, none⟩ = _ := fun k j hk => r1.frozen k j (by simp; omega) (by omega)
  have c0 := cc w.heap.size 0 (by omega)
  have c1 := cc w.heap.size 1 (by omega)
  have c2 := cc w.heap.size 2 (by omega)
  have c3 := cc w.heap.size 3 (by omega)
  have c4 := cc w.heap.size 4 (by omega)
  have c5 := cc w.heap.size 5 (by omega)
  have c6 := cc w.heap.size 6 (by omega)
  have d0 := cc (w.heap.size + 1) 0 (by omega)
  have e0 := cc (w.heap.size + 1 + 1) 0 (by omega)
  have z0 : ∀ j, w1.frozen? ⟨w.heap.size, j, none⟩ = false := fun j => (cf w.heap.size j (by omega)).trans (by simp [go_sem])
  have z1 := cf (w.heap.size + 1) 0 (by omega)
  have z2 := cf (w.heap.size + 1 + 1) 0 (by omega)
  simp [go_sem, zeroCells] at c0 c1 c2 c3 c4 c5 c6 d0 e0 z1 z2
  have A1 := hide a1
  have R1 := hide r1
  clear cc cf r1 a1 HA
  unfold oops
  go_wp2
  refine leaves_cons (f := 56) (args := #[.pointer (some ⟨w.heap.size + 1 + 1 + 1, 0, none⟩), .pointer (some ⟨w.heap.size, 0, none⟩), .pointer (some ⟨w.heap.size + 1, 0, none⟩), .pointer (some ⟨w.heap.size + 1 + 1, 0, none⟩)]) (by simp) (by simp [go_sem]) ?_
  refine (catch_panicking w.heap.size a [] w1 A1.out.pos c0 c1 c2 c3 c4 c5 c6 d0 e0 z0 z1 z2).mono ?_
  rintro e u' w'' ⟨rfl, rfl, rfl⟩
  have S2 := (((Seven.mk c0 c1 c2 c3 c4 c5 c6).set (v0 := .int .i64 0) (v1 := .int .i64 0) (v2 := .int .i64 0) (v3 := .int .i64 0) (v4 := .int .i64 0) (v5 := .slice none 0 0) (v6 := .string ⟨#[]⟩)).other (p := ⟨w.heap.size + 1, 0, none⟩) (by simp) (.int .i64 (a : Int))).other (p := ⟨w.heap.size + 1 + 1, 0, none⟩) (by simp; omega) (.iface 87 (.int .i64 2))
  have hd : (setRule w1 w.heap.size (.int .i64 0) (.int .i64 0) (.int .i64 0) (.int .i64 0) (.int .i64 0) (.slice none 0 0) (.string ⟨#[]⟩)).cell? ⟨w.heap.size + 1, 0, none⟩ = some (.int .i64 0) := by
    rw [World.cell?_of_block (w := w1) (a := ⟨w.heap.size + 1, 0, none⟩) (setRule_block _ _ _ _ _ _ _ _ _ _ (by simp))]; exact d0
  have he : (setRule w1 w.heap.size (.int .i64 0) (.int .i64 0) (.int .i64 0) (.int .i64 0) (.int .i64 0) (.slice none 0 0) (.string ⟨#[]⟩)).cell? ⟨w.heap.size + 1 + 1, 0, none⟩ = some .nilIface := by
    rw [World.cell?_of_block (w := w1) (a := ⟨w.heap.size + 1 + 1, 0, none⟩) (setRule_block _ _ _ _ _ _ _ _ _ _ (by simp; omega))]; exact e0
  have hd2 : (((setRule w1 w.heap.size (.int .i64 0) (.int .i64 0) (.int .i64 0) (.int .i64 0) (.int .i64 0) (.slice none 0 0) (.string ⟨#[]⟩)).setCell ⟨w.heap.size + 1, 0, none⟩ (.int .i64 (a : Int))).setCell ⟨w.heap.size + 1 + 1, 0, none⟩ (.iface 87 (.int .i64 2))).cell? ⟨w.heap.size + 1, 0, none⟩ = some (.int .i64 (a : Int)) := by
    rw [World.cell?_setCell_other _ _ _ _ (by simp)]; exact World.cell?_setCell_same _ _ _ hd
  have he2 : (((setRule w1 w.heap.size (.int .i64 0) (.int .i64 0) (.int .i64 0) (.int .i64 0) (.int .i64 0) (.slice none 0 0) (.string ⟨#[]⟩)).setCell ⟨w.heap.size + 1, 0, none⟩ (.int .i64 (a : Int))).setCell ⟨w.heap.size + 1 + 1, 0, none⟩ (.iface 87 (.int .i64 2))).cell? ⟨w.heap.size + 1 + 1, 0, none⟩ = some (.iface 87 (.int .i64 2)) :=
    World.cell?_setCell_same _ _ _ ((World.cell?_setCell_other _ _ _ _ (by simp)).trans he)
  refine ⟨.tuple #[.agg zeroCells, .int .i64 (a : Int), (.iface 87 (.int .i64 2))], parse_results w.heap.size _ _ _ _ _ _ _ _ _ _ _ _ _ _ _ _ _ _ S2 hd2 he2, rfl, ?_⟩
  have B1 : Below w.heap.size w w1 := Below.trans ((((Below.refl _ _).alloc (Nat.le_refl _) _).alloc (by simp) _).alloc (by simp; omega) _ |>.alloc (by simp; omega) _) (R1.out.below (by omega) (by simp; omega))
  exact ((setRule_below B1 (Nat.le_refl _) (.int .i64 0) (.int .i64 0) (.int .i64 0) (.int .i64 0) (.int .i64 0) (.slice none 0 0) (.string ⟨#[]⟩)).setCell (p := ⟨w.heap.size + 1, 0, none⟩) (by simp) _).setCell (p := ⟨w.heap.size + 1 + 1, 0, none⟩) (by simp; omega) _
end Go.Proofs.YtjngjnkecnnmeaaDoor

namespace Go.Proofs.YtjngjnkecnnmeaaDoor
open Go.RowKit
set_option linter.unusedVariables false

/-- edenref1.Parse in the midst of a table: its result's block, its rule's, its empty rule's; the table grows. -/
structure RefW (w wr : World) (k st ra : Int) (v : Value) (xs : List Int) : Prop where
  below : Below w.heap.size w wr
  size : w.heap.size + 3 ≤ wr.heap.size
  res : Seven wr w.heap.size (.int .i64 0) (.int .i64 0) (.int .i64 0) (.int .i64 0) (.int .i64 0) (.slice none 0 0) (.string ⟨#[]⟩)
  rr : Seven wr (w.heap.size + 1) (.int .i64 k) (.int .i64 0) (.int .i64 0) (.int .i64 st) (.int .i64 ra) v (.string ⟨#[]⟩)
  no : Seven wr (w.heap.size + 1 + 1) (.int .i64 0) (.int .i64 0) (.int .i64 0) (.int .i64 0) (.int .i64 0) (.slice none 0 0) (.string ⟨#[]⟩)
  fz : ∀ b j, w.heap.size ≤ b → b < w.heap.size + 3 → wr.frozen? ⟨b, j, none⟩ = false
  own : wr.ownsRow (w.heap.size + 3) 3 1 v xs.length (xs.map fun x => .int .i64 x)

theorem Seven.block {w w' : World} {g : Nat} {v0 v1 v2 v3 v4 v5 v6 : Value} (h : Seven w g v0 v1 v2 v3 v4 v5 v6) (e : w'.heap[g]? = w.heap[g]?) : Seven w' g v0 v1 v2 v3 v4 v5 v6 := by
  obtain ⟨c0, c1, c2, c3, c4, c5, c6⟩ := h
  exact ⟨(World.cell?_of_block (w := w) (a := ⟨g, 0, none⟩) e).trans c0, (World.cell?_of_block (w := w) (a := ⟨g, 1, none⟩) e).trans c1, (World.cell?_of_block (w := w) (a := ⟨g, 2, none⟩) e).trans c2, (World.cell?_of_block (w := w) (a := ⟨g, 3, none⟩) e).trans c3, (World.cell?_of_block (w := w) (a := ⟨g, 4, none⟩) e).trans c4, (World.cell?_of_block (w := w) (a := ⟨g, 5, none⟩) e).trans c5, (World.cell?_of_block (w := w) (a := ⟨g, 6, none⟩) e).trans c6⟩
theorem Seven.set5 {w : World} {g : Nat} {v0 v1 v2 v3 v4 v5 v6 : Value} (h : Seven w g v0 v1 v2 v3 v4 v5 v6) (u : Value) : Seven (w.setCell ⟨g, 5, none⟩ u) g v0 v1 v2 v3 v4 u v6 := by
  obtain ⟨c0, c1, c2, c3, c4, c5, c6⟩ := h
  constructor <;> simp [go_sem, c0, c1, c2, c3, c4, c5, c6]

theorem RefW.start (w : World) (k st ra : Int) : RefW w (((w.alloc (.cells zeroCells 24)).alloc (.cells #[.int .i64 k, .int .i64 0, .int .i64 0, .int .i64 st, .int .i64 ra, .slice none 0 0, .string ⟨#[]⟩] 24)).alloc (.cells zeroCells 24)) k st ra (.slice none 0 0) [] := by
  refine ⟨?_, by simp, ?_, ?_, ?_, ?_, ⟨by simp, Or.inl ⟨rfl, by simp⟩⟩⟩
  · exact (((Below.refl _ _).alloc (Nat.le_refl _) _).alloc (by simp) _).alloc (by simp; omega) _
  · constructor <;> simp [go_sem, zeroCells]
  · constructor <;> simp [go_sem]
  · constructor <;> simp [go_sem, zeroCells]
  · intro b j h1 h2
    have h3 : b = w.heap.size ∨ b = w.heap.size + 1 ∨ b = w.heap.size + 1 + 1 := by omega
    rcases h3 with rfl | rfl | rfl <;> simp [go_sem]

theorem RefW.push {w wr w' : World} {k st ra : Int} {v v' : Value} {xs : List Int} {x : Int} (h : RefW w wr k st ra v xs)
    (hg : (wr.alloc (.cells #[.int .i64 x] 3)).grownBy w' v.ownBlock) (ho : w'.ownsRow (w.heap.size + 3) 3 1 v' (xs.length + 1) ((xs.map fun x => .int .i64 x) ++ [.int .i64 x])) :
    RefW w (w'.setCell ⟨w.heap.size + 1, 5, none⟩ v') k st ra v' (xs ++ [x]) := by
  have hz := h.size
  have hob := ownsRow_block h.own
  have hb : ∀ b, b < w.heap.size + 3 → w'.heap[b]? = wr.heap[b]? := fun b hb => by
    rw [hg.block b (by rw [World.size_alloc]; omega) (fun e => by have := hob b e.symm; omega)]
    exact Below.heap_alloc _ _ _ (by omega)
  have hsz : wr.heap.size + 1 ≤ w'.heap.size := by have := hg.size; rw [World.size_alloc] at this; exact this
  have B1 : Below w.heap.size w w' := (h.below.alloc (by omega) _).trans ⟨hg.os, hg.tape, hg.output, hg.size, fun b hbb => hg.block b (by rw [World.size_alloc]; omega) (fun e => by have := hob b e.symm; omega)⟩
  refine ⟨B1.setCell (by simp) _, by rw [World.size_setCell]; omega, ?_, ?_, ?_, ?_, ?_⟩
  · exact (h.res.block (hb _ (by omega))).other (by simp) _
  · exact (h.rr.block (hb _ (by omega))).set5 _
  · exact (h.no.block (hb _ (by omega))).other (by simp) _
  · intro b j h1 h2
    rw [World.frozen?_setCell, World.frozen?_of_block (w := wr) (a := ⟨b, j, none⟩) (hb b h2)]
    exact h.fz b j h1 h2
  · have := ownsRow_setCell_below ho (a := ⟨w.heap.size + 1, 5, none⟩) (by simp) v'
    simpa using this

set_option maxRecDepth 100000 in
set_option maxHeartbeats 1600000 in
theorem ref_W1 (s : ByteArray) (w : World) (hs : s.size ≤ maxLen) (h0 : 0 < s.size) (hk : bt s 0 = 87) (hn : numOk s 1 0 255 = false) :
    Calls Tryd.prog 13 #[.string s] w fun e w' => RefParsed (.inr 1) w e w' := by
  have hne := not_empty h0
  have e0 := bt_lt s 0 h0
  have k0 : ((s[0].toNat : Int) == 66) = false := by simp; omega
  have k1 : ((s[0].toNat : Int) == 87) = true := by simp; omega
  clear e0
  go_enter Tryd.func13, Tryd.ntmps13
  go_wp2_with fail
  refine (Number_any s 1 1 _ rfl hs (by omega)).mono ?_
  rintro e w1 ⟨N, rfl, hN, rfl⟩
  have h1 := hN.lo
  have h2 := hN.hi
  rcases hN.no 0 255 (by omega) hn with q | q
  · have q' : N < 0 := by omega
    clear hN q
    go_wp2
    refine bodyPost_ret (v := .tuple #[.agg zeroCells, .int .i64 1, .bool false]) (by simp [results, Tryd.results13, go_sem, zeroCells]) rfl ?_
    refine RefParsed.bad ?_
    repeat (first | refine Below.setCell ?_ (by simp <;> omega) _ | refine Below.alloc ?_ (by simp <;> omega) _ | exact Below.refl _ _)
  · have q' : 255 < N := by omega
    have q2 : ¬ N < 0 := by omega
    clear hN q
    go_wp2
    refine bodyPost_ret (v := .tuple #[.agg zeroCells, .int .i64 1, .bool false]) (by simp [results, Tryd.results13, go_sem, zeroCells]) rfl ?_
    refine RefParsed.bad ?_
    repeat (first | refine Below.setCell ?_ (by simp <;> omega) _ | refine Below.alloc ?_ (by simp <;> omega) _ | exact Below.refl _ _)
end Go.Proofs.YtjngjnkecnnmeaaDoor

namespace Go.Proofs.YtjngjnkecnnmeaaDoor
open Go.RowKit
set_option linter.unusedVariables false

def bval (b : UInt8) : Value := .int .u8 (b.toNat : Int)

theorem conv_nil (w : World) : (convert 95 9 (.slice none 0 0)).run Tryd.prog w = .ok (.string ⟨#[]⟩) w := by kernel_rfl
theorem own_string {w : World} {base : Nat} {v : Value} {l : List UInt8} (h : w.ownsRow base 5 1 v l.length (l.map bval)) :
    (convert 95 9 v).run Tryd.prog w = .ok (.string ⟨l.toArray⟩) w := by
  rcases h.2 with ⟨hv, hn⟩ | ⟨g, cap, cur, hv, hg, hh, hc, hm, hs, ht⟩
  · have hl : l = [] := List.eq_nil_of_length_eq_zero hn
    rw [hv, hl]
    exact conv_nil w
  · rw [hv]
    refine run_convert_bytes_back w 95 9 5 ⟨g, 0, none⟩ cap l Tryd.underlying95 Tryd.underlying5 Tryd.underlying9 fun j hj => ?_
    have hadd : (⟨g, 0, none⟩ : Addr).add j = ⟨g, j, none⟩ := by unfold Addr.add; split <;> simp_all
    rw [hadd]
    have h1 : (cur.toList.take (l.length * 1))[j]? = some (bval l[j]) := by
      rw [ht, List.getElem?_map, List.getElem?_eq_getElem hj]; rfl
    rw [List.getElem?_take, if_pos (by omega)] at h1
    simp only [World.cell?, hh]
    simpa [bval] using h1

/-- The digits of the bits below k. -/
def dl (n k : Nat) : List UInt8 := ((List.range k).filter fun i => n / 2 ^ i % 2 == 1).map fun i => UInt8.ofNat (48 + i)
theorem dl_succ_yes (n k : Nat) (h : n / 2 ^ k % 2 = 1) : dl n (k + 1) = dl n k ++ [UInt8.ofNat (48 + k)] := by
  unfold dl; rw [List.range_succ, List.filter_append]; simp [h]
theorem dl_succ_no (n k : Nat) (h : ¬ n / 2 ^ k % 2 = 1) : dl n (k + 1) = dl n k := by
  unfold dl; rw [List.range_succ, List.filter_append]; simp [h]
theorem dl_len (n k : Nat) : (dl n k).length ≤ k := by
  unfold dl; simp; exact Nat.le_trans (List.length_filter_le _ _) (by simp)
theorem bval_dig (k : Nat) (h : k ≤ 200) : bval (UInt8.ofNat (48 + k)) = .int .u8 (48 + (k : Int)) := by
  unfold bval
  have : (UInt8.ofNat (48 + k)).toNat = 48 + k := by simp; omega
  rw [this]; simp

theorem and_bit' (n k : Nat) (hn : n ≤ 511) : bits BinOp.and IntKind.i64 ((n : Int) / 2 ^ k) 1 = ((n / 2 ^ k % 2 : Nat) : Int) := by
  rw [show ((n : Int) / 2 ^ k) = ((n / 2 ^ k : Nat) : Int) by simp]
  have hl : n / 2 ^ k ≤ n := Nat.div_le_self _ _
  have := i64_and_nat (n / 2 ^ k) 1 (by omega) (by omega)
  simp only [Nat.and_one_is_mod] at this
  exact this

/-- Bytes of the call's own, gathered so far. -/
structure Row8 (w wr : World) (v : Value) (l : List UInt8) : Prop where
  below : Below w.heap.size w wr
  own : wr.ownsRow w.heap.size 5 1 v l.length (l.map bval)
theorem Row8.start (w : World) : Row8 w w (.slice none 0 0) [] := ⟨Below.refl _ _, by simp, Or.inl ⟨rfl, by simp⟩⟩
theorem Row8.push {w wr w' : World} {v v' : Value} {l : List UInt8} {b : UInt8} {x : Value} (h : Row8 w wr v l) (hx : bval b = x)
    (hg : (wr.alloc (.cells #[x] 5)).grownBy w' v.ownBlock) (ho : w'.ownsRow w.heap.size 5 1 v' (l.length + 1) (l.map bval ++ [x])) : Row8 w w' v' (l ++ [b]) := by
  have hz := h.below.size
  have hob := ownsRow_block h.own
  refine ⟨(h.below.alloc hz _).trans ⟨hg.os, hg.tape, hg.output, hg.size, fun k hk => hg.block k (by rw [World.size_alloc]; omega) (fun e => by have := hob k e.symm; omega)⟩, ?_⟩
  simpa [hx] using ho

set_option maxHeartbeats 1600000 in
theorem digitsOf_any (n : Nat) (w : World) (hn : n ≤ 511) :
    Calls Tryd.prog 63 #[.int .i64 (n : Int)] w fun e w' => e = .returned (.string ⟨(dl n 9).toArray⟩) ∧ Below w.heap.size w w' := by
  obtain ⟨i0, hi, hz0, hz1, hz2⟩ := info_parts info_u8
  have S := hide' (Row8.start w)
  go_enter Tryd.func63, Tryd.ntmps63
  go_wp2
  go_loopw [3, 4] (fun ov kv wr => ∃ k : Nat, kv = .int .i64 (k : Int) ∧ k ≤ 9 ∧ Row8 w wr ov (dl n k)) (fun _ kv _ => 9 - (intOf kv).toNat)
  case atStart => exact ⟨0, rfl, by omega, S.out⟩
  case round =>
    obtain ⟨k, rfl, hk, hR⟩ := hrel
    have HR := hide' hR
    have ho := hR.own
    have hz := hR.below.size
    have hl := dl_len n k
    obtain ⟨sa, sn, sc, rfl⟩ := ownsRow_slice ho
    have HO := hide' ho
    have hcv := own_string ho
    clear hR ho S
    by_cases c : (k : Int) ≤ 8
    · have ab := and_bit' n k hn
      by_cases d : n / 2 ^ k % 2 = 1
      · have t : ((bits BinOp.and IntKind.i64 ((n : Int) / 2 ^ k) 1) == 1) = true := by rw [ab, d]; rfl
        have D := hide' d
        clear ab d hcv
        go_wp2_with (at_builtin; refine wpList_append_own _ rfl _ _ 95 rfl w.heap.size 5 i0 (.int .u8 0) 1 1 Tryd.underlying95 hi hz0 hz1 hz2 rfl (by decide) (.slice sa sn sc) _ _ rfl (HO.out.alloc _) ⟨wr.heap.size, 0, none⟩ 1 1 [.int .u8 (48 + (k : Int))] rfl rfl (cell_one_new _ _ _) (fun x hx => by simp at hx; subst hx; rfl) (by unfold maxLen; simp; omega) (by simp; omega) (by simp; omega) ?_; intro v' w3 hown' hgrow3 hnil3; have G3 := hide' hgrow3; have O3 := hide' hown'; clear hgrow3 hown' hnil3)
        refine ⟨⟨k + 1, by go_num, by omega, ?_⟩, by simp [intOf]; omega⟩
        rw [dl_succ_yes n k D.out]
        exact HR.out.push (bval_dig k (by omega)) G3.out O3.out
      · have t : ((bits BinOp.and IntKind.i64 ((n : Int) / 2 ^ k) 1) == 1) = false := by rw [ab, beq_eq_false_iff_ne]; exact fun q => d (by exact_mod_cast q)
        have D := hide' d
        clear ab d hcv
        go_wp2
        refine ⟨⟨k + 1, by go_num, by omega, ?_⟩, by simp [intOf]; omega⟩
        rw [dl_succ_no n k D.out]
        exact HR.out
    · have K := hide' (show k = 9 by omega)
      go_wp2
      go_ret
      have e := HR.out.below
      rw [K.out]
      exact ⟨rfl, e⟩
theorem and_pow (n m k : Nat) (hn : n ≤ 511) (hm : m ≤ 512) (h : m = 2 ^ k) : ((bits BinOp.and IntKind.i64 (n : Int) (m : Int)) != 0) = true ↔ n / 2 ^ k % 2 = 1 := by
  rw [i64_and_nat n m (by omega) (by omega), bne_iff_ne, h]
  have ht : n.testBit k = decide (n / 2 ^ k % 2 = 1) := Nat.testBit_eq_decide_div_mod_eq
  constructor
  · intro hne
    cases q : n.testBit k with
    | true => rw [q] at ht; simpa using ht.symm
    | false =>
      exfalso
      apply hne
      have : n &&& 2 ^ k = 0 := by
        apply Nat.eq_of_testBit_eq
        intro i
        rw [Nat.testBit_and, Nat.testBit_two_pow]
        by_cases e : k = i
        · subst e; simp [q]
        · simp [e]
      rw [this]; rfl
  · intro hq he
    have h0 : n &&& 2 ^ k = 0 := by exact_mod_cast he
    have h1 : (n &&& 2 ^ k).testBit k = true := by
      rw [Nat.testBit_and, Nat.testBit_two_pow, ht]; simp [hq]
    rw [h0] at h1
    simp at h1

set_option maxHeartbeats 1600000 in
theorem bits_ref (n : Nat) (w : World) (hn : n ≤ 511) :
    Calls Tryd.prog 65 #[.int .i64 (n : Int)] w fun e w' => e = .returned (.string ⟨(dl n 9).toArray⟩) ∧ Below w.heap.size w w' := by
  obtain ⟨i0, hi, hz0, hz1, hz2⟩ := info_parts info_u8
  have S := hide' (Row8.start w)
  go_enter Tryd.func65, Tryd.ntmps65
  go_wp2
  go_loopw [3, 4, 5] (fun ov mv kv wr => ∃ k m : Nat, kv = .int .i64 (k : Int) ∧ mv = .int .i64 (m : Int) ∧ m = 2 ^ k ∧ k ≤ 9 ∧ Row8 w wr ov (dl n k)) (fun _ _ kv _ => 9 - (intOf kv).toNat)
  case atStart => exact ⟨0, 1, rfl, rfl, rfl, by omega, S.out⟩
  case round =>
    obtain ⟨k, m, rfl, rfl, hm, hk, hR⟩ := hrel
    have hm2 : m ≤ 512 := by rw [hm]; exact Nat.le_trans (Nat.pow_le_pow_right (by omega) hk) (by decide)
    have HM := hide' hm
    have HM2 := hide' (show m * 2 = 2 ^ (k + 1) by rw [Nat.pow_succ, hm])
    clear hm
    have HR := hide' hR
    have ho := hR.own
    have hz := hR.below.size
    have hl := dl_len n k
    obtain ⟨sa, sn, sc, rfl⟩ := ownsRow_slice ho
    have HO := hide' ho
    have hcv := own_string ho
    clear hR ho S
    by_cases c : (k : Int) < 9
    · have ab := and_pow n m k hn hm2 HM.out
      by_cases d : n / 2 ^ k % 2 = 1
      · have t : ((bits BinOp.and IntKind.i64 (n : Int) (m : Int)) != 0) = true := ab.2 d
        have D := hide' d
        clear ab d hcv
        go_wp2_with (at_builtin; refine wpList_append_own _ rfl _ _ 95 rfl w.heap.size 5 i0 (.int .u8 0) 1 1 Tryd.underlying95 hi hz0 hz1 hz2 rfl (by decide) (.slice sa sn sc) _ _ rfl (HO.out.alloc _) ⟨wr.heap.size, 0, none⟩ 1 1 [.int .u8 (48 + (k : Int))] rfl rfl (cell_one_new _ _ _) (fun x hx => by simp at hx; subst hx; rfl) (by unfold maxLen; simp; omega) (by simp; omega) (by simp; omega) ?_; intro v' w3 hown' hgrow3 hnil3; have G3 := hide' hgrow3; have O3 := hide' hown'; clear hgrow3 hown' hnil3)
        refine ⟨⟨k + 1, m * 2, by go_num, by go_num, HM2.out, by omega, ?_⟩, by simp [intOf]; omega⟩
        rw [dl_succ_yes n k D.out]
        exact HR.out.push (bval_dig k (by omega)) G3.out O3.out
      · have t : ((bits BinOp.and IntKind.i64 (n : Int) (m : Int)) != 0) = false := by
          cases q : ((bits BinOp.and IntKind.i64 (n : Int) (m : Int)) != 0) with
          | true => exact absurd (ab.1 q) d
          | false => rfl
        have D := hide' d
        clear ab d hcv
        go_wp2
        refine ⟨⟨k + 1, m * 2, by go_num, by go_num, HM2.out, by omega, ?_⟩, by simp [intOf]; omega⟩
        rw [dl_succ_no n k D.out]
        exact HR.out
    · have K := hide' (show k = 9 by omega)
      go_wp2
      go_ret
      have e := HR.out.below
      rw [K.out]
      exact ⟨rfl, e⟩
end Go.Proofs.YtjngjnkecnnmeaaDoor

namespace Go.Proofs.YtjngjnkecnnmeaaDoor
open Go.RowKit
set_option linter.unusedVariables false

abbrev Bld (B b : Nat) (bs : List Value) (w : World) : Prop := Lib.IsBuilder 102 5 B b bs w
abbrev BldU (B b : Nat) (bs : List Value) (w : World) : Prop := Lib.BuilderAt 102 5 B b (.pointer (some ⟨b, 0, none⟩)) bs w
theorem size_bld : (Tryd.prog.info? 102).map (·.size) = some 2 := by kernel_rfl
theorem lies_bld : liesAt Tryd.prog Tryd.prog.depth 102 (2 / Tryd.prog.cellsOf 102) 0 102 1 = true := by kernel_rfl

set_option maxHeartbeats 1000000 in
set_option maxRecDepth 100000 in
theorem copyCheck_any (B b : Nat) (bs : List Value) (w : World) (h : Bld B b bs w) :
    Calls Tryd.prog 118 #[.pointer (some ⟨b, 0, none⟩)] w fun e w' => e = .returned (.tuple #[]) ∧ BldU B b bs w' ∧ Below B w w' := by
  obtain ⟨j, hj, hjs⟩ := Option.map_eq_some_iff.1 size_bld
  rcases h with h | h
  · have h0 := h.cell0
    have hsh := h.shape
    have hfz := h.frozen0
    have HH := hide' h
    clear h
    go_enter Tryd.func118, Tryd.ntmps118
    go_wp2
    rw [Lib.run_to_unsafe w ⟨b, 0, none⟩ Tryd.underlying100 Tryd.underlying158 hj (by rw [hjs]; decide) hsh (Nat.zero_lt_succ 1)]
    simp only [Result.andThen]
    rw [Oper.upon_value]
    go_wp2
    rw [run_callFunc_extern Tryd.func150 (by kernel_rfl) (by kernel_rfl) (by kernel_rfl) (e := Extern.AbiNoEscape.same) (by kernel_rfl)]
    rw [Lib.run_noEscape]
    simp only [Result.andThen]
    rw [Oper.upon_value]
    go_wp2
    rw [Lib.run_from_unsafe w ⟨b, 0, none⟩ Tryd.underlying158 Tryd.underlying100 hj hsh lies_bld]
    simp only [Result.andThen]
    rw [Oper.upon_value]
    go_wp2
    go_end0
    exact ⟨rfl, HH.out.used _, (Below.refl B w).setCell (p := ⟨b, 0, none⟩) HH.out.1 _⟩
  · have h0 := h.cell0
    have HH := hide' h
    clear h
    go_enter Tryd.func118, Tryd.ntmps118
    go_wp2
    rw [Lib.run_neq_ptr_same w _ Tryd.underlying100 hj]
    go_wp2
    go_end0
    exact ⟨rfl, HH.out, Below.refl B _⟩
end Go.Proofs.YtjngjnkecnnmeaaDoor

namespace Go.Proofs.YtjngjnkecnnmeaaDoor
open Go.RowKit
set_option linter.unusedVariables false

set_option maxHeartbeats 2000000 in
set_option maxRecDepth 100000 in
theorem writeByte_any (B b : Nat) (bs : List Value) (c : Int) (w : World) (h : Bld B b bs w) (hBw : B ≤ w.heap.size) (hl : bs.length ≤ 1000000) :
    Calls Tryd.prog 120 #[.pointer (some ⟨b, 0, none⟩), .int .u8 c] w fun e w' => e = .returned .nilIface ∧ BldU B b (bs ++ [.int .u8 c]) w' ∧ Below B w w' := by
  obtain ⟨i0, hi, hz0, hz1, hz2⟩ := info_parts info_u8
  have HH := hide' h
  clear h
  go_enter Tryd.func120, Tryd.ntmps120
  go_wp2_with fail
  refine (copyCheck_any B b bs _ HH.out).mono ?_
  rintro e w1 ⟨rfl, ⟨hB, v, hbk, hown, hne⟩, hb1⟩
  have c0 : w1.cell? ⟨b, 0, none⟩ = some (.pointer (some ⟨b, 0, none⟩)) := by rw [Lib.cell_of_heap hbk]; rfl
  have c1 : w1.cell? ⟨b, 1, none⟩ = some v := by rw [Lib.cell_of_heap hbk]; rfl
  have hs1 := hb1.size
  go_wp2_with (at_builtin; refine wpList_append_own _ rfl _ _ 95 rfl B 5 i0 (.int .u8 0) 1 1 Tryd.underlying95 hi hz0 hz1 hz2 rfl (by decide) v _ _ rfl (hown.alloc _) ⟨w1.heap.size, 0, none⟩ 1 1 [.int .u8 c] rfl rfl (cell_one_new _ _ _) (fun x hx => by simp at hx; subst hx; rfl) (by unfold maxLen; omega) (by omega) (by simp; omega) ?_)
  intro v' w2 hown' hgrow _
  have hlt : b < w1.heap.size := Array.getElem?_eq_some_iff.1 hbk |>.1
  have hb2 : w2.heap[b]? = some (.cells #[.pointer (some ⟨b, 0, none⟩), v] 102 (0, 0)) := by
    rw [hgrow.block b (by simp; omega) (fun e => hne e.symm), Lib.alloc_old w1 _ b hlt]
    exact hbk
  have d0 : w2.cell? ⟨b, 0, none⟩ = some (.pointer (some ⟨b, 0, none⟩)) := by rw [Lib.cell_of_heap hb2]; rfl
  have d1 : w2.cell? ⟨b, 1, none⟩ = some v := by rw [Lib.cell_of_heap hb2]; rfl
  have f1 : w2.frozen? ⟨b, 1, none⟩ = false := Lib.frozen_of_heap hb2 1
  obtain ⟨ta, tn, tc, rfl⟩ := ownsRow_slice hown'
  go_wp2
  go_ret
  refine ⟨rfl, Lib.BuilderAt.put hB hb2 (bs' := bs ++ [.int .u8 c]) (by simpa using hown') (by decide), ?_⟩
  exact ((hb1.alloc (by omega) _).grown hgrow (by simp; omega) (fun k hk => (hown.lt k hk).1)).setCell (p := ⟨b, 1, none⟩) hB _

set_option maxHeartbeats 2000000 in
set_option maxRecDepth 100000 in
theorem writeString_any (B b : Nat) (bs : List Value) (s : ByteArray) (w : World) (h : Bld B b bs w) (hBw : B ≤ w.heap.size) (hl : bs.length ≤ 1000000) (hs : s.size ≤ 1000000) :
    Calls Tryd.prog 71 #[.pointer (some ⟨b, 0, none⟩), .string s] w fun e w' => e = .returned (.tuple #[.int .i64 s.size, .nilIface]) ∧ BldU B b (bs ++ Lib.strCells s) w' ∧ Below B w w' := by
  obtain ⟨i0, hi, hz0, hz1, hz2⟩ := info_parts info_u8
  have HH := hide' h
  clear h
  go_enter Tryd.func71, Tryd.ntmps71
  go_wp2_with fail
  refine (copyCheck_any B b bs _ HH.out).mono ?_
  rintro e w1 ⟨rfl, ⟨hB, v, hbk, hown, hne⟩, hb1⟩
  have c0 : w1.cell? ⟨b, 0, none⟩ = some (.pointer (some ⟨b, 0, none⟩)) := by rw [Lib.cell_of_heap hbk]; rfl
  have c1 : w1.cell? ⟨b, 1, none⟩ = some v := by rw [Lib.cell_of_heap hbk]; rfl
  have hs1 := hb1.size
  go_wp2_with (at_builtin; refine Lib.wpList_append_own_string _ rfl _ _ 95 9 rfl B 5 i0 Tryd.underlying95 Tryd.underlying9 hi hz0 hz1 hz2 v _ _ rfl hown s rfl (by unfold maxLen; omega) (by omega) (by omega) ?_)
  intro v' w2 hown' hgrow _
  have hlt : b < w1.heap.size := Array.getElem?_eq_some_iff.1 hbk |>.1
  have hb2 : w2.heap[b]? = some (.cells #[.pointer (some ⟨b, 0, none⟩), v] 102 (0, 0)) := by
    rw [hgrow.block b (by omega) (fun e => hne e.symm)]
    exact hbk
  have d0 : w2.cell? ⟨b, 0, none⟩ = some (.pointer (some ⟨b, 0, none⟩)) := by rw [Lib.cell_of_heap hb2]; rfl
  have d1 : w2.cell? ⟨b, 1, none⟩ = some v := by rw [Lib.cell_of_heap hb2]; rfl
  have f1 : w2.frozen? ⟨b, 1, none⟩ = false := Lib.frozen_of_heap hb2 1
  obtain ⟨ta, tn, tc, rfl⟩ := ownsRow_slice hown'
  go_wp2
  go_ret2
  refine ⟨rfl, Lib.BuilderAt.put hB hb2 (bs' := bs ++ Lib.strCells s) (by rw [List.length_append, Lib.strCells_length]; exact hown') (by decide), ?_⟩
  exact (hb1.grown hgrow (by omega) (fun k hk => (hown.lt k hk).1)).setCell (p := ⟨b, 1, none⟩) hB _
end Go.Proofs.YtjngjnkecnnmeaaDoor

namespace Go.Proofs.YtjngjnkecnnmeaaDoor
open Go.RowKit
set_option linter.unusedVariables false

def AppPost (B : Nat) (v : Value) (bs news : List Value) (w : World) (e : Ending) (w' : World) : Prop :=
  ∃ v', e = .returned v' ∧ w'.ownsRow B 5 1 v' (bs.length + news.length) (bs ++ news) ∧ ∃ o, (w.alloc o).grownBy w' v.ownBlock

set_option maxHeartbeats 2000000 in
set_option maxRecDepth 100000 in
theorem appendRune_nl (B : Nat) (v : Value) (bs : List Value) (w : World) (hown : w.ownsRow B 5 1 v bs.length bs) (hBw : B ≤ w.heap.size) (hl : bs.length ≤ 1000000) :
    Calls Tryd.prog 122 #[v, .int .i32 10] w (AppPost B v bs [.int .u8 10] w) := by
  obtain ⟨i0, hi, hz0, hz1, hz2⟩ := info_parts info_u8
  go_enter Tryd.func122, Tryd.ntmps122
  go_wp2_with (at_builtin; refine wpList_append_own _ rfl _ _ 95 rfl B 5 i0 (.int .u8 0) 1 1 Tryd.underlying95 hi hz0 hz1 hz2 rfl (by decide) v _ _ rfl (hown.alloc _) ⟨w.heap.size, 0, none⟩ 1 1 [.int .u8 10] rfl rfl (cell_one_new _ _ _) (fun x hx => by simp at hx; subst hx; rfl) (by unfold maxLen; omega) (by omega) (by simp; omega) ?_)
  intro v' w2 hown' hgrow _
  go_wp2
  go_ret
  exact ⟨v', rfl, hown', _, hgrow⟩

set_option maxHeartbeats 2000000 in
set_option maxRecDepth 100000 in
theorem appendNon_dot (B : Nat) (v : Value) (bs : List Value) (w : World) (hown : w.ownsRow B 5 1 v bs.length bs) (hBw : B ≤ w.heap.size) (hl : bs.length ≤ 1000000) :
    Calls Tryd.prog 152 #[v, .int .i32 183] w (AppPost B v bs [.int .u8 194, .int .u8 183] w) := by
  obtain ⟨i0, hi, hz0, hz1, hz2⟩ := info_parts info_u8
  have NB := World.news_of_block (w := w.alloc (.cells #[.int .u8 194, .int .u8 183] 5)) (cs := #[.int .u8 194, .int .u8 183]) (t := 5) (fr := (0, 0)) (heap_alloc_new w _)
  go_enter Tryd.func152, Tryd.ntmps152
  go_wp2_with (at_builtin; refine wpList_append_own _ rfl _ _ 95 rfl B 5 i0 (.int .u8 0) 1 1 Tryd.underlying95 hi hz0 hz1 hz2 rfl (by decide) v _ _ rfl (hown.alloc _) ⟨w.heap.size, 0, none⟩ 2 2 [.int .u8 194, .int .u8 183] rfl rfl NB (fun x hx => by simp at hx; rcases hx with rfl | rfl <;> rfl) (by unfold maxLen; omega) (by omega) (by simp; omega) ?_)
  intro v' w2 hown' hgrow _
  go_wp2
  go_ret
  exact ⟨v', rfl, hown', _, hgrow⟩

set_option maxHeartbeats 2000000 in
set_option maxRecDepth 100000 in
theorem appendNon_disc (B : Nat) (v : Value) (bs : List Value) (w : World) (hown : w.ownsRow B 5 1 v bs.length bs) (hBw : B ≤ w.heap.size) (hl : bs.length ≤ 1000000) :
    Calls Tryd.prog 152 #[v, .int .i32 9679] w (AppPost B v bs [.int .u8 226, .int .u8 151, .int .u8 143] w) := by
  obtain ⟨i0, hi, hz0, hz1, hz2⟩ := info_parts info_u8
  have NB := World.news_of_block (w := w.alloc (.cells #[.int .u8 226, .int .u8 151, .int .u8 143] 5)) (cs := #[.int .u8 226, .int .u8 151, .int .u8 143]) (t := 5) (fr := (0, 0)) (heap_alloc_new w _)
  go_enter Tryd.func152, Tryd.ntmps152
  go_wp2_with (at_builtin; refine wpList_append_own _ rfl _ _ 95 rfl B 5 i0 (.int .u8 0) 1 1 Tryd.underlying95 hi hz0 hz1 hz2 rfl (by decide) v _ _ rfl (hown.alloc _) ⟨w.heap.size, 0, none⟩ 3 3 [.int .u8 226, .int .u8 151, .int .u8 143] rfl rfl NB (fun x hx => by simp at hx; rcases hx with rfl | rfl | rfl <;> rfl) (by unfold maxLen; omega) (by omega) (by simp; omega) ?_)
  intro v' w2 hown' hgrow _
  go_wp2
  go_ret
  exact ⟨v', rfl, hown', _, hgrow⟩

set_option maxHeartbeats 2000000 in
set_option maxRecDepth 100000 in
theorem appendRune_dot (B : Nat) (v : Value) (bs : List Value) (w : World) (hown : w.ownsRow B 5 1 v bs.length bs) (hBw : B ≤ w.heap.size) (hl : bs.length ≤ 1000000) :
    Calls Tryd.prog 122 #[v, .int .i32 183] w (AppPost B v bs [.int .u8 194, .int .u8 183] w) := by
  go_enter Tryd.func122, Tryd.ntmps122
  go_wp2_with fail
  refine (appendNon_dot B v bs _ hown hBw hl).mono ?_
  rintro e w2 ⟨v', rfl, hown', o, hgrow⟩
  go_wp2
  go_ret
  exact ⟨v', rfl, hown', _, hgrow⟩

set_option maxHeartbeats 2000000 in
set_option maxRecDepth 100000 in
theorem appendRune_disc (B : Nat) (v : Value) (bs : List Value) (w : World) (hown : w.ownsRow B 5 1 v bs.length bs) (hBw : B ≤ w.heap.size) (hl : bs.length ≤ 1000000) :
    Calls Tryd.prog 122 #[v, .int .i32 9679] w (AppPost B v bs [.int .u8 226, .int .u8 151, .int .u8 143] w) := by
  go_enter Tryd.func122, Tryd.ntmps122
  go_wp2_with fail
  refine (appendNon_disc B v bs _ hown hBw hl).mono ?_
  rintro e w2 ⟨v', rfl, hown', o, hgrow⟩
  go_wp2
  go_ret
  exact ⟨v', rfl, hown', _, hgrow⟩

def RuneIs (r : Int) (news : List Value) : Prop := ∀ (B : Nat) (v : Value) (bs : List Value) (w : World), w.ownsRow B 5 1 v bs.length bs → B ≤ w.heap.size → bs.length ≤ 1000000 →
  Calls Tryd.prog 122 #[v, .int .i32 r] w (AppPost B v bs news w)
theorem rune_nl : RuneIs 10 [.int .u8 10] := appendRune_nl
theorem rune_dot : RuneIs 183 [.int .u8 194, .int .u8 183] := appendRune_dot
theorem rune_disc : RuneIs 9679 [.int .u8 226, .int .u8 151, .int .u8 143] := appendRune_disc

set_option maxHeartbeats 2000000 in
set_option maxRecDepth 100000 in
theorem writeRune_any (r : Int) (news : List Value) (hr : RuneIs r news) (h0 : 0 < news.length) (h4 : news.length ≤ 4) (B b : Nat) (bs : List Value) (w : World) (h : Bld B b bs w) (hBw : B ≤ w.heap.size) (hl : bs.length ≤ 1000000) :
    Calls Tryd.prog 77 #[.pointer (some ⟨b, 0, none⟩), .int .i32 r] w fun e w' => e = .returned (.tuple #[.int .i64 news.length, .nilIface]) ∧ BldU B b (bs ++ news) w' ∧ Below B w w' := by
  have HR := hide' hr
  have HH := hide' h
  clear h hr
  go_enter Tryd.func77, Tryd.ntmps77
  go_wp2_with fail
  refine (copyCheck_any B b bs _ HH.out).mono ?_
  rintro e w1 ⟨rfl, ⟨hB, v, hbk, hown, hne⟩, hb1⟩
  obtain ⟨sa, cap, rfl⟩ : ∃ sa cap, v = .slice sa bs.length cap := by
    rcases hown.2 with ⟨hv, e0⟩ | ⟨g, cap, cur, hv, _⟩
    · exact ⟨none, 0, by rw [hv, e0]⟩
    · exact ⟨_, _, hv⟩
  have c0 : w1.cell? ⟨b, 0, none⟩ = some (.pointer (some ⟨b, 0, none⟩)) := by rw [Lib.cell_of_heap hbk]; rfl
  have c1 : w1.cell? ⟨b, 1, none⟩ = some (.slice sa bs.length cap) := by rw [Lib.cell_of_heap hbk]; rfl
  have hs1 := hb1.size
  have OW := hide' hown
  have HB1 := hide' hb1
  have HBK := hide' hbk
  have HNE := hide' hne
  clear hown hb1 hbk hne
  go_wp2_with fail
  refine (HR.out B _ bs _ OW.out (by omega) hl).mono ?_
  rintro e w2 ⟨v', rfl, hown', o, hgrow⟩
  have hlt : b < w1.heap.size := Array.getElem?_eq_some_iff.1 HBK.out |>.1
  have hb2 : w2.heap[b]? = some (.cells #[.pointer (some ⟨b, 0, none⟩), .slice sa bs.length cap] 102 (0, 0)) := by
    rw [hgrow.block b (by simp; omega) (fun e => HNE.out e.symm), Lib.alloc_old w1 _ b hlt]
    exact HBK.out
  have d0 : w2.cell? ⟨b, 0, none⟩ = some (.pointer (some ⟨b, 0, none⟩)) := by rw [Lib.cell_of_heap hb2]; rfl
  have d1 : w2.cell? ⟨b, 1, none⟩ = some (.slice sa bs.length cap) := by rw [Lib.cell_of_heap hb2]; rfl
  have f1 : w2.frozen? ⟨b, 1, none⟩ = false := Lib.frozen_of_heap hb2 1
  obtain ⟨g, cap', rfl⟩ : ∃ g cap', v' = .slice (some ⟨g, 0, none⟩) (bs.length + news.length) cap' := by
    rcases hown'.2 with ⟨_, e0⟩ | ⟨g, cap', cur, hv, _⟩
    · omega
    · exact ⟨g, cap', hv⟩
  have HG := hide' hgrow
  have HO := hide' hown'
  have H2 := hide' hb2
  clear hgrow hown' hb2
  go_wp2
  go_ret2
  refine ⟨by simp; omega, Lib.BuilderAt.put hB H2.out (bs' := bs ++ news) (by simpa using HO.out) (by decide), ?_⟩
  exact ((HB1.out.alloc (by omega) _).grown HG.out (by simp; omega) (fun k hk => (OW.out.lt k hk).1)).setCell (p := ⟨b, 1, none⟩) hB _
end Go.Proofs.YtjngjnkecnnmeaaDoor

namespace Go.Proofs
open Go.Shelf
def Tryd.lays169_ren : Go.Shelf.Ren := ⟨fun | 169 => 76 | n => n, fun | 70 => 100 | 9 => 9 | 0 => 0 | 72 => 102 | 37 => 95 | 127 => 141 | 3 => 3 | 5 => 5 | n => n, fun | n => n⟩
theorem Tryd.lays169 : Go.Proofs.Lays.n169 Tryd.prog Tryd.lays169_ren := {
  mixed := by kernel_rfl
  f169 := Tryd.func76.trans (congrArg some (by kernel_rfl))
  t0 := Tryd.underlying0
  a0 := Tryd.isAgg0
  z0 := Tryd.sizeOf0
  v0 := Tryd.zeroValue0
  t3 := Tryd.underlying3
  a3 := Tryd.isAgg3
  z3 := Tryd.sizeOf3
  v3 := Tryd.zeroValue3
  t9 := Tryd.underlying9
  a9 := Tryd.isAgg9
  z9 := Tryd.sizeOf9
  v9 := Tryd.zeroValue9
  t37 := Tryd.underlying95
  a37 := Tryd.isAgg95
  z37 := Tryd.sizeOf95
  v37 := Tryd.zeroValue95
  t70 := Tryd.underlying100
  a70 := Tryd.isAgg100
  z70 := Tryd.sizeOf100
  v70 := Tryd.zeroValue100
  t72 := Tryd.underlying102
  a72 := Tryd.isAgg102
  z72 := Tryd.sizeOf102
  v72 := Tryd.zeroValue102
  t127 := Tryd.underlying141
  a127 := Tryd.isAgg141
  z127 := Tryd.sizeOf141
  v127 := Tryd.zeroValue141 }
theorem Tryd.Builder_Extra_169 : Builder.Extra Tryd.prog Tryd.lays169_ren := {
  sizeBuilder := by kernel_rfl
  liesBuilder := by kernel_rfl
  t5 := Tryd.underlying5
  a5 := Tryd.isAgg5
  z5 := Tryd.sizeOf5
  v5 := Tryd.zeroValue5
  infoByte := by kernel_rfl
  cellsByte := by kernel_rfl
  sizeByte := by kernel_rfl
  neB5 := by decide }

open Go.RowKit in
theorem Tryd.bldString_any (B b : Nat) (l : List UInt8) (w : World) (h : Lib.IsBuilder 102 5 B b (Lib.byteCells l) w) (hBw : B ≤ w.heap.size) :
    Calls Tryd.prog 76 #[.pointer (some ⟨b, 0, none⟩)] w fun e w' => e = .returned (.string ⟨l.toArray⟩) ∧ Below B w w' := Any.Builder_String_any Tryd.lays169 Tryd.Builder_Extra_169 B b l w h hBw
end Go.Proofs

namespace Go.Proofs.YtjngjnkecnnmeaaDoor
open Go.RowKit
set_option linter.unusedVariables false

def cellBytes (x : Int) : List UInt8 := if x = 1 then [226, 151, 143] else [194, 183]
def drawRow (W : Nat) (xs : List Int) (y x : Nat) : List UInt8 := (List.range x).flatMap fun i => cellBytes (xs.getD (y * W + i) 0)
def drawRows (W : Nat) (xs : List Int) (y : Nat) : List UInt8 := (List.range y).flatMap fun j => drawRow W xs j W ++ [10]
def drawB (p : Pat) : List UInt8 := drawRows p.W p.xs p.H
theorem drawRow_succ (W : Nat) (xs : List Int) (y x : Nat) : drawRow W xs y (x + 1) = drawRow W xs y x ++ cellBytes (xs.getD (y * W + x) 0) := by simp [drawRow, List.range_succ, List.flatMap_append]
theorem drawRows_succ (W : Nat) (xs : List Int) (y : Nat) : drawRows W xs (y + 1) = drawRows W xs y ++ drawRow W xs y W ++ [10] := by simp [drawRows, List.range_succ, List.flatMap_append]
theorem cellBytes_le (x : Int) : (cellBytes x).length ≤ 3 := by unfold cellBytes; split <;> simp
theorem drawRow_le (W : Nat) (xs : List Int) (y : Nat) : ∀ x, (drawRow W xs y x).length ≤ 3 * x := by
  intro x
  induction x with
  | zero => simp [drawRow]
  | succ x ih =>
    rw [drawRow_succ, List.length_append]
    have := cellBytes_le (xs.getD (y * W + x) 0)
    omega
theorem drawRows_le (W : Nat) (xs : List Int) (hW : W ≤ 100) : ∀ y, (drawRows W xs y).length ≤ 301 * y := by
  intro y
  induction y with
  | zero => simp [drawRows]
  | succ y ih =>
    rw [drawRows_succ, List.length_append, List.length_append, List.length_singleton]
    have := drawRow_le W xs y W
    omega
theorem bytes_app (l m : List UInt8) : Lib.byteCells (l ++ m) = Lib.byteCells l ++ Lib.byteCells m := by simp [Lib.byteCells]
theorem bytes_dot : Lib.byteCells [194, 183] = [.int .u8 194, .int .u8 183] := rfl
theorem bytes_disc : Lib.byteCells [226, 151, 143] = [.int .u8 226, .int .u8 151, .int .u8 143] := rfl
theorem bytes_nl : Lib.byteCells [10] = [.int .u8 10] := rfl
theorem shape_bits {W H : Int} {xs : List Int} (h : shapeF W H xs = 0) (k : Nat) (hk : k < xs.length) : xs[k] = 0 ∨ xs[k] = 1 := by
  unfold shapeF at h
  split at h
  · split at h
    · split at h
      · rename_i q
        exact (cellB_iff _).1 (List.all_eq_true.1 q _ (List.getElem_mem hk))
      · cases h
    · cases h
  · cases h

/-- What holds while a drawing is written: the builder at the block that was made for it, all below as it was. -/
structure DW (w2 wr : World) (l : List UInt8) : Prop where
  bld : Bld w2.heap.size w2.heap.size (Lib.byteCells l) wr
  below : Below w2.heap.size w2 wr
theorem DW.start (w2 : World) : DW w2 (w2.alloc (.cells #[.pointer none, .slice none 0 0] 102)) [] := ⟨Lib.fresh_isBuilder _ _ _, (Below.refl _ _).alloc (Nat.le_refl _) _⟩
theorem DW.next {w2 wr w' : World} {l m : List UInt8} (h : DW w2 wr l) (hu : BldU w2.heap.size w2.heap.size (Lib.byteCells l ++ Lib.byteCells m) w') (hb : Below w2.heap.size wr w') : DW w2 w' (l ++ m) := ⟨Or.inr (by rw [bytes_app]; exact hu), h.below.trans hb⟩

theorem runeOf_0 (w : World) : Calls Tryd.prog 78 #[.int .i64 0] w fun e w' => e = .returned (.int .i32 183) ∧ w' = w := by
  go_enter Tryd.func78, Tryd.ntmps78
  go_wp2
  go_ret
  exact ⟨rfl, rfl⟩
theorem runeOf_1 (w : World) : Calls Tryd.prog 78 #[.int .i64 1] w fun e w' => e = .returned (.int .i32 9679) ∧ w' = w := by
  go_enter Tryd.func78, Tryd.ntmps78
  go_wp2
  go_ret
  exact ⟨rfl, rfl⟩

set_option maxRecDepth 100000 in
set_option maxHeartbeats 800000 in
theorem pDraw_bad (W H : Int) (xs : List Int) (a : Option Addr) (n c : Nat) (w : World) (hP : ArgP w xs a n c) (hs : shapeF W H xs ≠ 0) :
    Calls Tryd.prog 29 #[.agg #[.int .i64 W, .int .i64 H, .slice a n c]] w fun e w' => e = .returned (.tuple #[.string ⟨#[]⟩, .iface 87 (.int .i64 (shapeF W H xs : Int))]) ∧ Below w.heap.size w w' := by
  have AP0 := hide' (hP.alloc (.cells #[.int .i64 W, .int .i64 H, .slice a n c] 51))
  obtain ⟨f, hf⟩ : ∃ f, shapeF W H xs = f := ⟨_, rfl⟩
  rw [hf] at hs ⊢
  have HF := hide' hf
  have ER := hide' (show errOf f = .iface 87 (.int .i64 (f : Int)) by unfold errOf; rw [if_neg hs])
  clear hP hf hs
  go_enter Tryd.func29, Tryd.ntmps29
  go_wp2_with fail
  refine (Check_P W H xs a n c _ AP0.out).mono ?_
  rw [HF.out, ER.out]
  rintro e w2 ⟨rfl, b2⟩
  have BB := hide' (show Below w.heap.size w w2 from ((Below.refl _ _).alloc (Nat.le_refl _) _).trans (b2.mono (by simp only [World.size_alloc]; omega)))
  clear b2
  go_wp2
  go_ret2
  exact ⟨rfl, BB.out⟩
end Go.Proofs.YtjngjnkecnnmeaaDoor

namespace Go.Proofs.YtjngjnkecnnmeaaDoor
open Go.RowKit
set_option linter.unusedVariables false

set_option maxRecDepth 100000 in
set_option maxHeartbeats 1600000 in
theorem pDraw_full (W H : Nat) (xs : List Int) (ga off n c : Nat) (w : World) (hP : ArgP w xs (some ⟨ga, off, none⟩) n c) (hc : n ≤ c) (hcm : c ≤ maxLen) (lW : W ≤ 100) (lH : H ≤ 100) (hs : shapeF W H xs = 0) (hn : n = W * H) (hW : 0 < W) :
    Calls Tryd.prog 29 #[.agg #[.int .i64 (W : Int), .int .i64 (H : Int), .slice (some ⟨ga, off, none⟩) n c]] w fun e w' => e = .returned (.tuple #[.string ⟨(drawRows W xs H).toArray⟩, .nilIface]) ∧ Below w.heap.size w w' := by
  have AP0 := hide' (hP.alloc (.cells #[.int .i64 (W : Int), .int .i64 (H : Int), .slice (some ⟨ga, off, none⟩) n c] 51))
  have BX := hide' (TB.new w (.int .i64 (W : Int)) (.int .i64 (H : Int)) (.slice (some ⟨ga, off, none⟩) n c) 51)
  have HL := hide' hP.len
  have HN := hide' hn
  have HS := hide' hs
  have hN4 : n ≤ 10000 := by rw [hn]; exact Nat.mul_le_mul lW lH
  clear hP hn hs
  go_enter Tryd.func29, Tryd.ntmps29
  go_wp2_with fail
  refine (Check_P W H xs (some ⟨ga, off, none⟩) n c _ AP0.out).mono ?_
  rw [HS.out, show errOf 0 = .nilIface from rfl]
  rintro e w2 ⟨rfl, b2⟩
  have hz2 := b2.size
  simp only [World.size_alloc] at hz2
  have BX2 := hide' (BX.out.next b2)
  have AP2 := hide' (AP0.out.below b2)
  have BB := hide' (show Below w.heap.size w w2 from ((Below.refl _ _).alloc (Nat.le_refl _) _).trans (b2.mono (by simp only [World.size_alloc]; omega)))
  have D0 := hide' (DW.start w2)
  obtain ⟨x0, x1, x2, -⟩ := BX2.out.alloc (.cells #[.pointer none, .slice none 0 0] 102)
  clear b2
  go_wp2
  clear x0 x1 x2
  go_loopw [16] (fun yv wr => ∃ y : Nat, yv = .int .i64 (y : Int) ∧ y ≤ H ∧ DW w2 wr (drawRows W xs y)) (fun yv _ => H - (intOf yv).toNat)
  case atStart => exact ⟨0, rfl, by omega, D0.out⟩
  case round =>
    obtain ⟨y, rfl, hy, dw⟩ := hrel
    have DD := hide' dw
    obtain ⟨x0, x1, x2, -⟩ := BX2.out.next dw.below
    clear dw D0
    by_cases d : (y : Int) < (H : Int)
    · obtain ⟨P, hPe⟩ : ∃ P, y * W = P := ⟨_, rfl⟩
      obtain ⟨R, hRe⟩ : ∃ R, (y + 1) * W = R := ⟨_, rfl⟩
      have q1 : (y : Int) * (W : Int) = (P : Int) := by rw [← hPe]; simp
      have q2 : ((y : Int) + 1) * (W : Int) = (R : Int) := by rw [← hRe]; simp
      have hRn : R ≤ n := by rw [← hRe, HN.out, Nat.mul_comm W H]; exact Nat.mul_le_mul_right W (by omega)
      have hPR : R = P + W := by rw [← hRe, ← hPe, Nat.add_mul, Nat.one_mul]
      have HPR := hide' hPR
      have HP0 := hide' hPe
      have g1 : P ≤ R := by omega
      have g2 : R ≤ c := by omega
      have g3 : ¬ c = P := by omega
      clear hPR hPe hRe
      go_wp2
      clear x0 x1 x2
      go_loopw [32] (fun iv wx => ∃ x : Nat, iv = .int .i64 (x : Int) ∧ x ≤ W ∧ DW w2 wx (drawRows W xs y ++ drawRow W xs y x)) (fun iv _ => W - (intOf iv).toNat)
      case atStart => exact ⟨0, rfl, by omega, by simp only [drawRow, List.range_zero, List.flatMap_nil, List.append_nil]; exact DD.out⟩
      case round =>
        obtain ⟨x, rfl, hx, dx⟩ := hrel
        have DX := hide' dx
        have hsx := dx.below.size
        have hlen : (Lib.byteCells (drawRows W xs y ++ drawRow W xs y x)).length ≤ 1000000 := by
          rw [Lib.byteCells_length, List.length_append]
          have h1 := drawRows_le W xs lW y
          have h2 := drawRow_le W xs y x
          omega
        clear dx
        by_cases e : (x : Int) < ((R - P : Nat) : Int)
        · have hxW : x < W := by have := HPR.out; omega
          have hk : P + x < xs.length := by rw [← HL.out]; have := HPR.out; omega
          obtain ⟨ga', off', ee, hga, hcc⟩ := (AP2.out.below DX.out.below).cells (P + x) hk
          injection ee with ee
          injection ee with e1 e2
          subst e1 e2
          rw [← Nat.add_assoc] at hcc
          have STEP := hide' (drawRow_succ W xs y x)
          have hgd : xs.getD (y * W + x) 0 = xs[P + x] := by rw [HP0.out]; simp [List.getD, hk]
          rcases shape_bits HS.out (P + x) hk with z | z
          · rw [z] at hcc hgd
            have CB := hide' (show cellBytes (xs.getD (y * W + x) 0) = [194, 183] by rw [hgd]; rfl)
            clear z hgd
            go_wp2_with fail
            refine (runeOf_0 _).mono ?_
            rintro e w3 ⟨rfl, rfl⟩
            go_wp2_with fail
            refine (writeRune_any 183 _ rune_dot (by decide) (by decide) _ _ _ _ DX.out.bld hsx hlen).mono ?_
            rintro e w4 ⟨rfl, u4, b4⟩
            have D4 := hide' (DX.out.next (m := [194, 183]) (by rw [bytes_dot]; exact u4) b4)
            clear u4 b4
            go_wp2
            refine ⟨⟨x + 1, by go_num, by omega, ?_⟩, by simp [intOf]; omega⟩
            rw [STEP.out, CB.out, ← List.append_assoc]
            exact D4.out
          · rw [z] at hcc hgd
            have CB := hide' (show cellBytes (xs.getD (y * W + x) 0) = [226, 151, 143] by rw [hgd]; rfl)
            clear z hgd
            go_wp2_with fail
            refine (runeOf_1 _).mono ?_
            rintro e w3 ⟨rfl, rfl⟩
            go_wp2_with fail
            refine (writeRune_any 9679 _ rune_disc (by decide) (by decide) _ _ _ _ DX.out.bld hsx hlen).mono ?_
            rintro e w4 ⟨rfl, u4, b4⟩
            have D4 := hide' (DX.out.next (m := [226, 151, 143]) (by rw [bytes_disc]; exact u4) b4)
            clear u4 b4
            go_wp2
            refine ⟨⟨x + 1, by go_num, by omega, ?_⟩, by simp [intOf]; omega⟩
            rw [STEP.out, CB.out, ← List.append_assoc]
            exact D4.out
        · have X := hide' (show x = W by have := HPR.out; omega)
          have STEP := hide' (drawRows_succ W xs y)
          go_wp2_with fail
          refine (writeRune_any 10 _ rune_nl (by decide) (by decide) _ _ _ _ DX.out.bld hsx hlen).mono ?_
          rintro e w4 ⟨rfl, u4, b4⟩
          have D4 := hide' (DX.out.next (m := [10]) (by rw [bytes_nl]; exact u4) b4)
          clear u4 b4
          go_wp2
          refine ⟨⟨y + 1, by go_num, by omega, ?_⟩, by simp [intOf]; omega⟩
          rw [STEP.out]
          have hd := D4.out
          rw [X.out] at hd
          exact hd
    · have Y := hide' (show y = H by omega)
      have hsy := DD.out.below.size
      go_wp2_with fail
      refine (Tryd.bldString_any _ _ _ _ DD.out.bld hsy).mono ?_
      rintro e w4 ⟨rfl, b4⟩
      have B4 := hide' (BB.out.trans ((DD.out.below.trans b4).mono (by omega)))
      clear b4
      go_wp2
      go_ret2
      exact ⟨by rw [Y.out]; rfl, B4.out⟩

set_option maxRecDepth 100000 in
set_option maxHeartbeats 1600000 in
theorem pDraw_thin0 (W H : Nat) (xs : List Int) (a : Option Addr) (n c : Nat) (w : World) (hP : ArgP w xs a n 0) (lW : W ≤ 100) (lH : H ≤ 100) (hs : shapeF W H xs = 0) (hn : n = W * H) (h0 : n = 0) :
    Calls Tryd.prog 29 #[.agg #[.int .i64 (W : Int), .int .i64 (H : Int), .slice a n 0]] w fun e w' => e = .returned (.tuple #[.string ⟨(drawRows W xs H).toArray⟩, .nilIface]) ∧ Below w.heap.size w w' := by
  have AP0 := hide' (hP.alloc (.cells #[.int .i64 (W : Int), .int .i64 (H : Int), .slice a n 0] 51))
  have BX := hide' (TB.new w (.int .i64 (W : Int)) (.int .i64 (H : Int)) (.slice a n 0) 51)
  have HN := hide' (show W * H = 0 by rw [← hn, h0])
  have HS := hide' hs
  clear hP hn hs h0
  go_enter Tryd.func29, Tryd.ntmps29
  go_wp2_with fail
  refine (Check_P W H xs a n 0 _ AP0.out).mono ?_
  rw [HS.out, show errOf 0 = .nilIface from rfl]
  rintro e w2 ⟨rfl, b2⟩
  have hz2 := b2.size
  simp only [World.size_alloc] at hz2
  have BX2 := hide' (BX.out.next b2)
  have BB := hide' (show Below w.heap.size w w2 from ((Below.refl _ _).alloc (Nat.le_refl _) _).trans (b2.mono (by simp only [World.size_alloc]; omega)))
  have D0 := hide' (DW.start w2)
  obtain ⟨x0, x1, x2, -⟩ := BX2.out.alloc (.cells #[.pointer none, .slice none 0 0] 102)
  clear b2
  go_wp2
  clear x0 x1 x2
  go_loopw [16] (fun yv wr => ∃ y : Nat, yv = .int .i64 (y : Int) ∧ y ≤ H ∧ DW w2 wr (drawRows W xs y)) (fun yv _ => H - (intOf yv).toNat)
  case atStart => exact ⟨0, rfl, by omega, D0.out⟩
  case round =>
    obtain ⟨y, rfl, hy, dw⟩ := hrel
    have DD := hide' dw
    obtain ⟨x0, x1, x2, -⟩ := BX2.out.next dw.below
    clear dw D0
    by_cases d : (y : Int) < (H : Int)
    · have W0 : W = 0 := by
        rcases Nat.mul_eq_zero.1 HN.out with h | h
        · exact h
        · omega
      have q1 : (y : Int) * (W : Int) = 0 := by rw [W0]; simp
      have q2 : ((y : Int) + 1) * (W : Int) = 0 := by rw [W0]; simp
      have STEP := hide' (show drawRows W xs (y + 1) = drawRows W xs y ++ [10] by rw [drawRows_succ, W0]; simp [drawRow])
      clear W0
      go_wp2
      clear x0 x1 x2
      go_loopw [32] (fun iv wx => iv = .int .i64 0 ∧ DW w2 wx (drawRows W xs y)) (fun _ _ => 0)
      case atStart => exact ⟨rfl, DD.out⟩
      case round =>
        obtain ⟨rfl, dx⟩ := hrel
        have DX := hide' dx
        have hsx := dx.below.size
        have hlen : (Lib.byteCells (drawRows W xs y)).length ≤ 1000000 := by
          rw [Lib.byteCells_length]
          have h1 := drawRows_le W xs lW y
          omega
        clear dx
        go_wp2_with fail
        refine (writeRune_any 10 _ rune_nl (by decide) (by decide) _ _ _ _ DX.out.bld hsx hlen).mono ?_
        rintro e w4 ⟨rfl, u4, b4⟩
        have D4 := hide' (DX.out.next (m := [10]) (by rw [bytes_nl]; exact u4) b4)
        clear u4 b4
        go_wp2
        refine ⟨⟨y + 1, by go_num, by omega, ?_⟩, by simp [intOf]; omega⟩
        rw [STEP.out]
        exact D4.out
    · have Y := hide' (show y = H by omega)
      have hsy := DD.out.below.size
      go_wp2_with fail
      refine (Tryd.bldString_any _ _ _ _ DD.out.bld hsy).mono ?_
      rintro e w4 ⟨rfl, b4⟩
      have B4 := hide' (BB.out.trans ((DD.out.below.trans b4).mono (by omega)))
      clear b4
      go_wp2
      go_ret2
      exact ⟨by rw [Y.out]; rfl, B4.out⟩

set_option maxRecDepth 100000 in
set_option maxHeartbeats 1600000 in
theorem pDraw_thin1 (W H : Nat) (xs : List Int) (a : Option Addr) (n c : Nat) (w : World) (hP : ArgP w xs a n (c + 1)) (lW : W ≤ 100) (lH : H ≤ 100) (hs : shapeF W H xs = 0) (hn : n = W * H) (h0 : n = 0) :
    Calls Tryd.prog 29 #[.agg #[.int .i64 (W : Int), .int .i64 (H : Int), .slice a n (c + 1)]] w fun e w' => e = .returned (.tuple #[.string ⟨(drawRows W xs H).toArray⟩, .nilIface]) ∧ Below w.heap.size w w' := by
  have AP0 := hide' (hP.alloc (.cells #[.int .i64 (W : Int), .int .i64 (H : Int), .slice a n (c + 1)] 51))
  have BX := hide' (TB.new w (.int .i64 (W : Int)) (.int .i64 (H : Int)) (.slice a n (c + 1)) 51)
  have HN := hide' (show W * H = 0 by rw [← hn, h0])
  have HS := hide' hs
  clear hP hn hs h0
  go_enter Tryd.func29, Tryd.ntmps29
  go_wp2_with fail
  refine (Check_P W H xs a n (c + 1) _ AP0.out).mono ?_
  rw [HS.out, show errOf 0 = .nilIface from rfl]
  rintro e w2 ⟨rfl, b2⟩
  have hz2 := b2.size
  simp only [World.size_alloc] at hz2
  have BX2 := hide' (BX.out.next b2)
  have BB := hide' (show Below w.heap.size w w2 from ((Below.refl _ _).alloc (Nat.le_refl _) _).trans (b2.mono (by simp only [World.size_alloc]; omega)))
  have D0 := hide' (DW.start w2)
  obtain ⟨x0, x1, x2, -⟩ := BX2.out.alloc (.cells #[.pointer none, .slice none 0 0] 102)
  clear b2
  go_wp2
  clear x0 x1 x2
  go_loopw [16] (fun yv wr => ∃ y : Nat, yv = .int .i64 (y : Int) ∧ y ≤ H ∧ DW w2 wr (drawRows W xs y)) (fun yv _ => H - (intOf yv).toNat)
  case atStart => exact ⟨0, rfl, by omega, D0.out⟩
  case round =>
    obtain ⟨y, rfl, hy, dw⟩ := hrel
    have DD := hide' dw
    obtain ⟨x0, x1, x2, -⟩ := BX2.out.next dw.below
    clear dw D0
    by_cases d : (y : Int) < (H : Int)
    · have W0 : W = 0 := by
        rcases Nat.mul_eq_zero.1 HN.out with h | h
        · exact h
        · omega
      have q1 : (y : Int) * (W : Int) = 0 := by rw [W0]; simp
      have q2 : ((y : Int) + 1) * (W : Int) = 0 := by rw [W0]; simp
      have STEP := hide' (show drawRows W xs (y + 1) = drawRows W xs y ++ [10] by rw [drawRows_succ, W0]; simp [drawRow])
      clear W0
      go_wp2
      clear x0 x1 x2
      go_loopw [32] (fun iv wx => iv = .int .i64 0 ∧ DW w2 wx (drawRows W xs y)) (fun _ _ => 0)
      case atStart => exact ⟨rfl, DD.out⟩
      case round =>
        obtain ⟨rfl, dx⟩ := hrel
        have DX := hide' dx
        have hsx := dx.below.size
        have hlen : (Lib.byteCells (drawRows W xs y)).length ≤ 1000000 := by
          rw [Lib.byteCells_length]
          have h1 := drawRows_le W xs lW y
          omega
        clear dx
        go_wp2_with fail
        refine (writeRune_any 10 _ rune_nl (by decide) (by decide) _ _ _ _ DX.out.bld hsx hlen).mono ?_
        rintro e w4 ⟨rfl, u4, b4⟩
        have D4 := hide' (DX.out.next (m := [10]) (by rw [bytes_nl]; exact u4) b4)
        clear u4 b4
        go_wp2
        refine ⟨⟨y + 1, by go_num, by omega, ?_⟩, by simp [intOf]; omega⟩
        rw [STEP.out]
        exact D4.out
    · have Y := hide' (show y = H by omega)
      have hsy := DD.out.below.size
      go_wp2_with fail
      refine (Tryd.bldString_any _ _ _ _ DD.out.bld hsy).mono ?_
      rintro e w4 ⟨rfl, b4⟩
      have B4 := hide' (BB.out.trans ((DD.out.below.trans b4).mono (by omega)))
      clear b4
      go_wp2
      go_ret2
      exact ⟨by rw [Y.out]; rfl, B4.out⟩

theorem pDraw (W H : Nat) (xs : List Int) (a : Option Addr) (n c : Nat) (w : World) (hP : ArgP w xs a n c) (hc : n ≤ c) (hcm : c ≤ maxLen) (lW : W ≤ 100) (lH : H ≤ 100) (hs : shapeF W H xs = 0) (hn : n = W * H) :
    Calls Tryd.prog 29 #[.agg #[.int .i64 (W : Int), .int .i64 (H : Int), .slice a n c]] w fun e w' => e = .returned (.tuple #[.string ⟨(drawRows W xs H).toArray⟩, .nilIface]) ∧ Below w.heap.size w w' := by
  by_cases h0 : n = 0
  · cases c with
    | zero => exact pDraw_thin0 W H xs a n 0 w hP lW lH hs hn h0
    | succ c => exact pDraw_thin1 W H xs a n c w hP lW lH hs hn h0
  · obtain ⟨ga, off, rfl, -⟩ := hP.cells 0 (by rw [← hP.len]; omega)
    refine pDraw_full W H xs ga off n c w hP hc hcm lW lH hs hn ?_
    rcases Nat.eq_zero_or_pos W with e | e
    · rw [e, Nat.zero_mul] at hn
      exact absurd hn h0
    · exact e
end Go.Proofs.YtjngjnkecnnmeaaDoor

namespace Go.Proofs.YtjngjnkecnnmeaaDoor
open Go.RowKit
set_option linter.unusedVariables false

theorem Row8.pushL {w wr w' : World} {v v' : Value} {l m : List UInt8} {o : Obj} (h : Row8 w wr v l)
    (hg : (wr.alloc o).grownBy w' v.ownBlock) (ho : w'.ownsRow w.heap.size 5 1 v' (l.length + m.length) (l.map bval ++ m.map bval)) : Row8 w w' v' (l ++ m) := by
  have hz := h.below.size
  have hob := ownsRow_block h.own
  refine ⟨(h.below.alloc hz _).trans ⟨hg.os, hg.tape, hg.output, hg.size, fun k hk => hg.block k (by rw [World.size_alloc]; omega) (fun e => by have := hob k e.symm; omega)⟩, ?_⟩
  simpa using ho

set_option maxRecDepth 100000 in
set_option maxHeartbeats 1600000 in
theorem refDraw (W H : Nat) (xs : List Int) (a : Option Addr) (n c : Nat) (w : World) (hP : ArgP w xs a n c) (lW : W ≤ 100) (lH : H ≤ 100) (hn : n = W * H) :
    Calls Tryd.prog 35 #[.agg #[.int .i64 (W : Int), .int .i64 (H : Int), .slice a n c]] w fun e w' => e = .returned (.string ⟨(drawRows W xs H).toArray⟩) ∧ Below w.heap.size w w' := by
  obtain ⟨i0, hi, hz0, hz1, hz2⟩ := info_parts info_u8
  obtain ⟨w1, hw1⟩ : ∃ w1, w.alloc (.cells #[.int .i64 (W : Int), .int .i64 (H : Int), .slice a n c] 51) = w1 := ⟨_, rfl⟩
  have AP := hide' (show ArgP w1 xs a n c by rw [← hw1]; exact hP.alloc _)
  have BX := hide' (show TB w.heap.size (.int .i64 (W : Int)) (.int .i64 (H : Int)) (.slice a n c) w1 by rw [← hw1]; exact TB.new w _ _ _ _)
  have BB := hide' (show Below w.heap.size w w1 by rw [← hw1]; exact (Below.refl _ _).alloc (Nat.le_refl _) _)
  have hs1 := BB.out.size
  have S0 := hide' (Row8.start w1)
  have HL := hide' hP.len
  have HN := hide' hn
  have hN4 : n ≤ 10000 := by rw [hn]; exact Nat.mul_le_mul lW lH
  clear hP hn
  go_enter Tryd.func35, Tryd.ntmps35
  go_wp2
  clear hw1
  go_loopw [3, 4] (fun bv yv wr => ∃ y : Nat, yv = .int .i64 (y : Int) ∧ y ≤ H ∧ Row8 w1 wr bv (drawRows W xs y)) (fun _ yv _ => H - (intOf yv).toNat)
  case atStart => exact ⟨0, rfl, by omega, S0.out⟩
  case round =>
    obtain ⟨y, rfl, hy, r8⟩ := hrel
    have RR := hide' r8
    obtain ⟨x0, x1, x2, -⟩ := BX.out.next r8.below
    have ho := r8.own
    obtain ⟨sa, sn, sc, rfl⟩ := ownsRow_slice ho
    have hcv := own_string ho
    clear r8 S0 ho
    by_cases d : (y : Int) < (H : Int)
    · clear hcv
      obtain ⟨P, hPe⟩ : ∃ P, y * W = P := ⟨_, rfl⟩
      have q1 : (y : Int) * (W : Int) = (P : Int) := by rw [← hPe]; simp
      have hPn : P + W ≤ n := by rw [← hPe, HN.out, Nat.mul_comm W H, ← Nat.succ_mul]; exact Nat.mul_le_mul_right W (by omega)
      have HP0 := hide' hPe
      clear hPe
      go_wp2
      clear x0 x1 x2
      go_loopw [3, 5] (fun bv iv wx => ∃ x : Nat, iv = .int .i64 (x : Int) ∧ x ≤ W ∧ Row8 w1 wx bv (drawRows W xs y ++ drawRow W xs y x)) (fun _ iv _ => W - (intOf iv).toNat)
      case atStart => exact ⟨0, rfl, by omega, by simp only [drawRow, List.range_zero, List.flatMap_nil, List.append_nil]; exact RR.out⟩
      case round =>
        obtain ⟨x, rfl, hx, r8⟩ := hrel
        have RX := hide' r8
        have hsx := r8.below.size
        obtain ⟨x0, x1, x2, -⟩ := BX.out.next r8.below
        have ho := r8.own
        obtain ⟨ta, tn, tc, rfl⟩ := ownsRow_slice ho
        have HO := hide' ho
        have hlen : (drawRows W xs y ++ drawRow W xs y x).length ≤ 100000 := by
          rw [List.length_append]
          have h1 := drawRows_le W xs lW y
          have h2 := drawRow_le W xs y x
          omega
        clear r8 ho
        by_cases e : (x : Int) < (W : Int)
        · have hk : P + x < xs.length := by rw [← HL.out]; omega
          have hkn : P + x < n := by omega
          obtain ⟨ga, off, rfl, hga, hcc⟩ := (AP.out.below RX.out.below).cells (P + x) hk
          have STEP := hide' (drawRow_succ W xs y x)
          obtain ⟨z, hz⟩ : ∃ z, xs[P + x] = z := ⟨_, rfl⟩
          have hgd : xs.getD (y * W + x) 0 = z := by rw [HP0.out, ← hz]; simp [List.getD, hk]
          rw [hz] at hcc
          clear hz
          by_cases z1 : z = 1
          · have CB := hide' (show cellBytes (xs.getD (y * W + x) 0) = [226, 151, 143] by rw [hgd, z1]; rfl)
            have m1 : (z == 1) = true := by simp [z1]
            have NB := hide' (World.news_of_block (w := wr.alloc (.cells #[.int .u8 226, .int .u8 151, .int .u8 143] 5)) (cs := #[.int .u8 226, .int .u8 151, .int .u8 143]) (t := 5) (fr := (0, 0)) (heap_alloc_new wr _))
            clear hgd z1
            go_wp2_with (at_builtin; refine wpList_append_own _ rfl _ _ 95 rfl w1.heap.size 5 i0 (.int .u8 0) 1 1 Tryd.underlying95 hi hz0 hz1 hz2 rfl (by decide) (.slice ta tn tc) _ _ rfl (HO.out.alloc _) ⟨wr.heap.size, 0, none⟩ 3 3 [.int .u8 226, .int .u8 151, .int .u8 143] rfl rfl NB.out (fun x hx => by simp at hx; rcases hx with rfl | rfl | rfl <;> rfl) (by unfold maxLen; omega) (by omega) (by simp; omega) ?_; intro v' w4 hown' hgrow3 hnil3; have G3 := hide' hgrow3; have O3 := hide' hown'; clear hgrow3 hown' hnil3)
            refine ⟨⟨x + 1, by go_num, by omega, ?_⟩, by simp [intOf]; omega⟩
            rw [STEP.out, CB.out, ← List.append_assoc]
            exact RX.out.pushL G3.out O3.out
          · have CB := hide' (show cellBytes (xs.getD (y * W + x) 0) = [194, 183] by rw [hgd]; unfold cellBytes; rw [if_neg z1])
            have m1 : (z == 1) = false := by simp [z1]
            have NB := hide' (World.news_of_block (w := wr.alloc (.cells #[.int .u8 194, .int .u8 183] 5)) (cs := #[.int .u8 194, .int .u8 183]) (t := 5) (fr := (0, 0)) (heap_alloc_new wr _))
            clear hgd z1
            go_wp2_with (at_builtin; refine wpList_append_own _ rfl _ _ 95 rfl w1.heap.size 5 i0 (.int .u8 0) 1 1 Tryd.underlying95 hi hz0 hz1 hz2 rfl (by decide) (.slice ta tn tc) _ _ rfl (HO.out.alloc _) ⟨wr.heap.size, 0, none⟩ 2 2 [.int .u8 194, .int .u8 183] rfl rfl NB.out (fun x hx => by simp at hx; rcases hx with rfl | rfl <;> rfl) (by unfold maxLen; omega) (by omega) (by simp; omega) ?_; intro v' w4 hown' hgrow3 hnil3; have G3 := hide' hgrow3; have O3 := hide' hown'; clear hgrow3 hown' hnil3)
            refine ⟨⟨x + 1, by go_num, by omega, ?_⟩, by simp [intOf]; omega⟩
            rw [STEP.out, CB.out, ← List.append_assoc]
            exact RX.out.pushL G3.out O3.out
        · have X := hide' (show x = W by omega)
          have STEP := hide' (drawRows_succ W xs y)
          go_wp2_with (at_builtin; refine wpList_append_own _ rfl _ _ 95 rfl w1.heap.size 5 i0 (.int .u8 0) 1 1 Tryd.underlying95 hi hz0 hz1 hz2 rfl (by decide) (.slice ta tn tc) _ _ rfl (HO.out.alloc _) ⟨wr.heap.size, 0, none⟩ 1 1 [.int .u8 10] rfl rfl (cell_one_new _ _ _) (fun x hx => by simp at hx; subst hx; rfl) (by unfold maxLen; omega) (by omega) (by simp; omega) ?_; intro v' w4 hown' hgrow3 hnil3; have G3 := hide' hgrow3; have O3 := hide' hown'; clear hgrow3 hown' hnil3)
          refine ⟨⟨y + 1, by go_num, by omega, ?_⟩, by simp [intOf]; omega⟩
          rw [STEP.out]
          have hd := RX.out.pushL (m := [10]) G3.out O3.out
          rw [X.out] at hd
          exact hd
    · have Y := hide' (show y = H by omega)
      go_wp2
      go_ret
      have B4 := BB.out.trans (RR.out.below.mono (by omega))
      rw [Y.out]
      exact ⟨rfl, B4⟩
end Go.Proofs.YtjngjnkecnnmeaaDoor

namespace Go.Proofs.YtjngjnkecnnmeaaDoor
open Go.RowKit
set_option linter.unusedVariables false

/-- The table read as a number, low bit first. -/
def tabNum (xs : List Int) : Nat → Nat
  | 0 => 0
  | k + 1 => tabNum xs k + (xs.getD k 0).toNat * 2 ^ k
theorem tabNum_lt (xs : List Int) (h : ∀ k, k < xs.length → 0 ≤ xs.getD k 0 ∧ xs.getD k 0 < 2) : ∀ k, k ≤ xs.length → tabNum xs k < 2 ^ k
  | 0, _ => by simp [tabNum]
  | k + 1, hk => by
    have ih := tabNum_lt xs h k (by omega)
    have hx := h k (by omega)
    have : (xs.getD k 0).toNat = 0 ∨ (xs.getD k 0).toNat = 1 := by omega
    unfold tabNum
    rw [Nat.pow_succ]
    rcases this with e | e <;> rw [e] <;> omega

theorem wrapsum (t k : Nat) (x : Int) (ht : t ≤ 255) (hx : x = 0 ∨ x = 1) (hk : k ≤ 7) : wrap64 ((t : Int) + wrap64 (x * 2 ^ k)) = ((t + x.toNat * 2 ^ k : Nat) : Int) := by
  have hp : 2 ^ k ≤ 2 ^ 7 := Nat.pow_le_pow_right (by omega) hk
  have e : ((2 : Int) ^ k) = ((2 ^ k : Nat) : Int) := by simp
  rw [e]
  generalize 2 ^ k = p at *
  rcases hx with rfl | rfl
  · simp [wrap64]; omega
  · simp [wrap64]; omega

set_option maxHeartbeats 1600000 in
theorem numberOf_any (o : Out) (a : Option Addr) (n c : Nat) (w : World) (hR : ArgR w o a n c) (h8 : n = 8) (hb : ∀ k, k < o.table.length → 0 ≤ o.table.getD k 0 ∧ o.table.getD k 0 < 2) :
    Calls Tryd.prog 115 #[.slice a n c] w fun e w' => e = .returned (.int .i64 (tabNum o.table 8 : Int)) ∧ w' = w := by
  have hlen := hR.len
  have HR := hide' hR
  have HB := hide' hb
  have H8 := hide' h8
  have n8 : n ≤ 8 := by omega
  have HL := hide' hlen
  clear hR hb h8 hlen
  go_enter Tryd.func115, Tryd.ntmps115
  go_wp2
  go_loop [3, 8] (fun sv kv => ∃ k t : Nat, kv = .int .i64 (k : Int) ∧ sv = .int .i64 (t : Int) ∧ k ≤ n ∧ t ≤ 255 ∧ t = tabNum o.table k) (fun _ kv => n - (intOf kv).toNat)
  case atStart => exact ⟨0, 0, rfl, rfl, by omega, by omega, rfl⟩
  case round =>
    obtain ⟨k, t, rfl, rfl, hk, ht, hte⟩ := hrel
    have HT := hide' hte
    clear hte
    by_cases d : (k : Int) < (n : Int)
    · have hkl : k < o.table.length := by have := HL.out; omega
      obtain ⟨g, off, rfl, hg, hc⟩ := HR.out.cells k hkl
      have hx := HB.out k hkl
      have hget : o.table.getD k 0 = o.table[k] := by simp [List.getD, hkl]
      rw [hget] at hx
      have hlt := tabNum_lt o.table HB.out (k + 1) (by omega)
      have hp8 : 2 ^ (k + 1) ≤ 2 ^ 8 := Nat.pow_le_pow_right (by omega) (by omega)
      have T2 := hide' (show tabNum o.table (k + 1) = t + (o.table[k]).toNat * 2 ^ k by unfold tabNum; rw [hget, ← HT.out])
      have L2 := hide' (show tabNum o.table (k + 1) ≤ 255 by omega)
      have hcase : o.table[k] = 0 ∨ o.table[k] = 1 := by omega
      clear hlt hp8 hget hx
      have hk7 : (k : Int) ≤ 7 := by omega
      go_wp2
      rw [wrapsum t k o.table[k] ht hcase (by omega)]
      exact ⟨⟨k + 1, _, by go_num, rfl, by omega, by have := L2.out; rw [T2.out] at this; exact this, T2.out.symm⟩, by simp [intOf]; omega⟩
    · go_wp2
      go_ret
      have : k = 8 := by have := H8.out; omega
      rw [HT.out, this]
      exact ⟨rfl, rfl⟩

/-- At block g a list of n bytes of the call's own, the first k of which are f's. -/
structure FillB (w0 w : World) (g n k : Nat) (f : Nat → UInt8) : Prop where
  below : Below w0.heap.size w0 w
  ge : w0.heap.size ≤ g
  lt : g < w.heap.size
  cells : ∀ j, j < n → ∃ v, w.cell? ⟨g, j, none⟩ = some v ∧ (j < k → v = bval (f j))
  fz : ∀ j, w.frozen? ⟨g, j, none⟩ = false
theorem FillB.start (w : World) (n : Nat) (f : Nat → UInt8) (z : Value) (t : TypeId) : FillB w (w.alloc (.cells (madeCells #[z] n) t)) w.heap.size n 0 f := by
  refine ⟨(Below.refl _ _).alloc (Nat.le_refl _) _, Nat.le_refl _, by simp, fun j hj => ⟨(madeCells #[z] n)[j]'(by rw [size_madeCells]; exact hj), ?_, by omega⟩, fun j => by simp⟩
  rw [World.cell?_alloc_at _ _ _ _ rfl]
  exact Array.getElem?_eq_getElem (by rw [size_madeCells]; exact hj)
theorem FillB.step {w0 w : World} {g n k : Nat} {f : Nat → UInt8} (h : FillB w0 w g n k f) (hk : k < n) {x : Value} (hx : bval (f k) = x) : FillB w0 (w.setCell ⟨g, k, none⟩ x) g n (k + 1) f := by
  refine ⟨h.below.setCell h.ge _, h.ge, by rw [World.size_setCell]; exact h.lt, fun j hj => ?_, fun j => by rw [World.frozen?_setCell]; exact h.fz j⟩
  by_cases e : j = k
  · subst e
    obtain ⟨v, hv, -⟩ := h.cells j hj
    exact ⟨_, World.cell?_setCell_same _ _ _ hv, fun _ => hx.symm⟩
  · obtain ⟨v, hv, hv'⟩ := h.cells j hj
    refine ⟨v, ?_, fun _ => hv' (by omega)⟩
    exact (World.cell?_setCell_other _ ⟨g, k, none⟩ ⟨g, j, none⟩ _ (fun q => e (congrArg Addr.off q).symm)).trans hv
theorem FillB.string {w0 w : World} {g n cap : Nat} {f : Nat → UInt8} (h : FillB w0 w g n n f) :
    (convert 95 9 (.slice (some ⟨g, 0, none⟩) n cap)).run Tryd.prog w = .ok (.string ⟨((List.range n).map f).toArray⟩) w := by
  have := run_convert_bytes_back (P := Tryd.prog) w 95 9 5 ⟨g, 0, none⟩ cap ((List.range n).map f) Tryd.underlying95 Tryd.underlying5 Tryd.underlying9 (fun j hj => by
    have hadd : (⟨g, 0, none⟩ : Addr).add j = ⟨g, j, none⟩ := by unfold Addr.add; split <;> simp_all
    simp at hj
    obtain ⟨v, hv, hv'⟩ := h.cells j hj
    rw [hadd, hv, hv' hj]
    simp [bval])
  simpa using this

def stB (xs : List Int) (i : Nat) : UInt8 := UInt8.ofNat (48 + (xs.getD i 0).toNat)

set_option maxHeartbeats 1600000 in
theorem statesOf_any (o : Out) (a : Option Addr) (n c : Nat) (w : World) (hR : ArgR w o a n c) (hn4 : n ≤ 4096) (hb : ∀ k, k < o.table.length → 0 ≤ o.table.getD k 0 ∧ o.table.getD k 0 < 4) :
    Calls Tryd.prog 116 #[.slice a n c] w fun e w' => e = .returned (.string ⟨((List.range n).map (stB o.table)).toArray⟩) ∧ Below w.heap.size w w' := by
  have hlen := hR.len
  have HR := hide' hR
  have HB := hide' hb
  have HL := hide' hlen
  have hmk := run_make_row' (P := Tryd.prog) 95 5 (.int .u8 0) 1 Tryd.underlying95 info_u8 rfl .i64 .i64 n (by omega) (by omega)
  have S := hide' (FillB.start w n (stB o.table) (.int .u8 0) 5)
  clear hR hb hlen
  go_enter Tryd.func116, Tryd.ntmps116
  go_wp2
  go_loopw [11] (fun kv wr => ∃ k : Nat, kv = .int .i64 (k : Int) ∧ k ≤ n ∧ FillB w wr w.heap.size n k (stB o.table)) (fun kv _ => n - (intOf kv).toNat)
  case atStart => exact ⟨0, rfl, by omega, S.out⟩
  case round =>
    obtain ⟨k, rfl, hk, fk⟩ := hrel
    have FK := hide' fk
    clear hmk S
    by_cases d : (k : Int) < (n : Int)
    · have hkl : k < o.table.length := by have := HL.out; omega
      obtain ⟨g, off, rfl, hg, hc⟩ := (HR.out.below fk.below).cells k hkl
      obtain ⟨v, hv, -⟩ := fk.cells k (by omega)
      have hf := fk.fz k
      have hx := HB.out k hkl
      have hget : o.table.getD k 0 = o.table[k] := by simp [List.getD, hkl]
      have X := hide' (show bval (stB o.table k) = .int .u8 (48 + o.table[k]) by
        unfold stB
        rw [bval_dig _ (by omega), hget]
        rw [hget] at hx
        congr 1
        omega)
      rw [hget] at hx
      clear fk hget
      go_wp2
      exact ⟨⟨k + 1, by go_num, by omega, FK.out.step (by omega) X.out⟩, by simp [intOf]; omega⟩
    · have K := hide' (show k = n by omega)
      have ff := FK.out
      rw [K.out] at ff
      have hcv := ff.string (cap := n)
      clear fk ff
      go_wp2
      go_ret
      exact ⟨rfl, FK.out.below⟩
end Go.Proofs.YtjngjnkecnnmeaaDoor

