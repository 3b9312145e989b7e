/-
  What the last text of this claim leans on, part 20: Parse.
-/
import Derived.Test.YtljdidimoagnhaaDoorJu19
import Derived.Defers
import Derived.Recover
namespace Go.Proofs.YtljdidimoagnhaaDoor
open Go.RowKit
set_option linter.unusedVariables false

theorem catch_idle (p q r t : Value) (w : World) :
    CallsD Tryd.prog 74 #[p, q, r, t] .returning w fun e u' w' => e = .returned (.tuple #[]) ∧ u' = .returning ∧ w' = w := by
  refine callsD_of_wpS Tryd.func74 rfl fun c₀ cs hu => ?_
  apply wpS_seq
  apply wpS_region
  simp [wpOpsS, go_sem, recoverD, hu, Tryd.ntmps74, Exit.thenS]
  refine wpS_cond (t := false) (by simp [Act.eval, Array.replicate]) ?_
  simp only [Bool.false_eq_true, if_false]
  refine wpS_of_wp (wp_skip ?_)
  cases c₀
  simp_all [bodyPostS, results, Tryd.results74]

/-- The seven cells of a rule at g. -/
def setRule (w : World) (g : Nat) (v0 v1 v2 v3 v4 v5 v6 : Value) : World :=
  ((((((w.setCell ⟨g, 0, none⟩ v0).setCell ⟨g, 1, none⟩ v1).setCell ⟨g, 2, none⟩ v2).setCell ⟨g, 3, none⟩ v3).setCell ⟨g, 4, none⟩ v4).setCell ⟨g, 5, none⟩ v5).setCell ⟨g, 6, none⟩ v6

/-- The seven cells of a rule at g: they are there. -/
structure Seven (w : World) (g : Nat) (v0 v1 v2 v3 v4 v5 v6 : Value) : Prop where
  c0 : w.cell? ⟨g, 0, none⟩ = some v0
  c1 : w.cell? ⟨g, 1, none⟩ = some v1
  c2 : w.cell? ⟨g, 2, none⟩ = some v2
  c3 : w.cell? ⟨g, 3, none⟩ = some v3
  c4 : w.cell? ⟨g, 4, none⟩ = some v4
  c5 : w.cell? ⟨g, 5, none⟩ = some v5
  c6 : w.cell? ⟨g, 6, none⟩ = some v6
theorem Seven.set {w : World} {g : Nat} {u0 u1 u2 u3 u4 u5 u6 v0 v1 v2 v3 v4 v5 v6 : Value} (h : Seven w g u0 u1 u2 u3 u4 u5 u6) : Seven (setRule w g v0 v1 v2 v3 v4 v5 v6) g v0 v1 v2 v3 v4 v5 v6 := by
  obtain ⟨c0, c1, c2, c3, c4, c5, c6⟩ := h
  unfold setRule
  constructor <;> simp [go_sem, c0, c1, c2, c3, c4, c5, c6]
theorem Seven.other {w : World} {g : Nat} {v0 v1 v2 v3 v4 v5 v6 : Value} (h : Seven w g v0 v1 v2 v3 v4 v5 v6) {p : Addr} (hp : p.block ≠ g) (u : Value) : Seven (w.setCell p u) g v0 v1 v2 v3 v4 v5 v6 := by
  have e : (w.setCell p u).heap[g]? = w.heap[g]? := Below.heap_setCell _ _ _ _ (fun q => hp q.symm)
  obtain ⟨c0, c1, c2, c3, c4, c5, c6⟩ := h
  exact ⟨(World.cell?_of_block (w := w) (a := ⟨g, 0, none⟩) e).trans c0, (World.cell?_of_block (w := w) (a := ⟨g, 1, none⟩) e).trans c1, (World.cell?_of_block (w := w) (a := ⟨g, 2, none⟩) e).trans c2, (World.cell?_of_block (w := w) (a := ⟨g, 3, none⟩) e).trans c3, (World.cell?_of_block (w := w) (a := ⟨g, 4, none⟩) e).trans c4, (World.cell?_of_block (w := w) (a := ⟨g, 5, none⟩) e).trans c5, (World.cell?_of_block (w := w) (a := ⟨g, 6, none⟩) e).trans c6⟩
theorem setRule_block (w : World) (g k : Nat) (v0 v1 v2 v3 v4 v5 v6 : Value) (hk : k ≠ g) : (setRule w g v0 v1 v2 v3 v4 v5 v6).heap[k]? = w.heap[k]? := by
  unfold setRule
  rw [Below.heap_setCell _ _ _ _ hk, Below.heap_setCell _ _ _ _ hk, Below.heap_setCell _ _ _ _ hk, Below.heap_setCell _ _ _ _ hk, Below.heap_setCell _ _ _ _ hk, Below.heap_setCell _ _ _ _ hk, Below.heap_setCell _ _ _ _ hk]
theorem setRule_size (w : World) (g : Nat) (v0 v1 v2 v3 v4 v5 v6 : Value) : (setRule w g v0 v1 v2 v3 v4 v5 v6).heap.size = w.heap.size := by
  unfold setRule
  simp only [World.size_setCell]
theorem setRule_below {B : Nat} {w0 w : World} (h : Below B w0 w) {g : Nat} (hg : B ≤ g) (v0 v1 v2 v3 v4 v5 v6 : Value) : Below B w0 (setRule w g v0 v1 v2 v3 v4 v5 v6) := by
  unfold setRule
  exact ((((((h.setCell hg _).setCell hg _).setCell hg _).setCell hg _).setCell hg _).setCell hg _).setCell hg _
theorem Tab.block {w w' : World} {v : Value} {xs : List Int} (h : Tab w v xs) (hs : w'.heap.size = w.heap.size) (hb : ∀ g k c, v = .slice (some ⟨g, 0, none⟩) k c → w'.heap[g]? = w.heap[g]?) : Tab w' v xs := by
  rcases h with h | ⟨g, cap, hv, hg, hc⟩
  · exact Or.inl h
  · exact Or.inr ⟨g, cap, hv, by rw [hs]; exact hg, fun k hk => (World.cell?_of_block (w := w) (a := ⟨g, k, none⟩) (hb g _ _ hv)).trans (hc k hk)⟩

/-- Parse's three results are read. -/
theorem parse_results (g : Nat) (W : World) (v0 v1 v2 v3 v4 v5 v6 x y a0 a1 a5 a6 a7 a8 a9 a10 : Value) (h : Seven W g v0 v1 v2 v3 v4 v5 v6) (hx : W.cell? ⟨g + 1, 0, none⟩ = some x) (hy : W.cell? ⟨g + 1 + 1, 0, none⟩ = some y) :
    (results Tryd.f16 #[a0, a1, .pointer (some ⟨g, 0, none⟩), .pointer (some ⟨g + 1, 0, none⟩), .pointer (some ⟨g + 1 + 1, 0, none⟩), a5, a6, a7, a8, a9, a10]).run Tryd.prog W = .ok (.tuple #[.agg #[v0, v1, v2, v3, v4, v5, v6], x, y]) W := by
  obtain ⟨c0, c1, c2, c3, c4, c5, c6⟩ := h
  simp [results, Tryd.results16, go_sem, c0, c1, c2, c3, c4, c5, c6, hx, hy]

set_option maxHeartbeats 1600000 in
theorem catch_panicking (g : Nat) (i : Nat) (older : List PanicEntry) (w : World)
    (hp : w.cell? ⟨g + 1 + 1 + 1, 1, none⟩ = some (.int .i64 (i : Int)))
    (c0 : w.cell? ⟨g, 0, none⟩ = some (.int .i64 0)) (c1 : w.cell? ⟨g, 1, none⟩ = some (.int .i64 0)) (c2 : w.cell? ⟨g, 2, none⟩ = some (.int .i64 0)) (c3 : w.cell? ⟨g, 3, none⟩ = some (.int .i64 0)) (c4 : w.cell? ⟨g, 4, none⟩ = some (.int .i64 0)) (c5 : w.cell? ⟨g, 5, none⟩ = some (.slice none 0 0)) (c6 : w.cell? ⟨g, 6, none⟩ = some (.string ⟨#[]⟩))
    (d0 : w.cell? ⟨g + 1, 0, none⟩ = some (.int .i64 0)) (e0 : w.cell? ⟨g + 1 + 1, 0, none⟩ = some .nilIface)
    (f0 : ∀ j, w.frozen? ⟨g, j, none⟩ = false) (f1 : w.frozen? ⟨g + 1, 0, none⟩ = false) (f2 : w.frozen? ⟨g + 1 + 1, 0, none⟩ = false) :
    CallsD Tryd.prog 74 #[.pointer (some ⟨g + 1 + 1 + 1, 0, none⟩), .pointer (some ⟨g, 0, none⟩), .pointer (some ⟨g + 1, 0, none⟩), .pointer (some ⟨g + 1 + 1, 0, none⟩)] (.panicking ({ v := .iface 97 (.int .i64 2), recovered := false } :: older)) w fun e u' w' =>
      e = .returned (.tuple #[]) ∧ u' = .panicking ({ v := .iface 97 (.int .i64 2), recovered := true } :: older) ∧
      w' = ((setRule w g (.int .i64 0) (.int .i64 0) (.int .i64 0) (.int .i64 0) (.int .i64 0) (.slice none 0 0) (.string ⟨#[]⟩)).setCell ⟨g + 1, 0, none⟩ (.int .i64 (i : Int))).setCell ⟨g + 1 + 1, 0, none⟩ (.iface 97 (.int .i64 2)) := by
  refine callsD_of_wpS Tryd.func74 rfl fun c₀ cs hu => ?_
  apply wpS_seq
  apply wpS_region
  simp [wpOpsS, go_sem, recoverD, hu, Tryd.ntmps74, Exit.thenS]
  refine wpS_cond (t := true) (by simp [Act.eval, Array.replicate]) ?_
  simp only [if_true]
  apply wpS_region
  simp [wpOpsS, go_sem, hp, c0, c1, c2, c3, c4, c5, c6, d0, e0, f0, f1, f2, bodyPostS, results, Tryd.results74, setRule]

/-- What Parse answers where the text is a rule's. -/
def ParsedOk (o : Out) (w : World) (e : Ending) (w' : World) : Prop := ∃ v, e = .returned (.tuple #[o.val v, .int .i64 0, .nilIface]) ∧ Tab w' v o.table ∧ Fresh w v ∧ Below w.heap.size w w'
/-- What Parse answers where it is none: the first fault is at a. -/
def ParsedNo (a : Nat) (w : World) (e : Ending) (w' : World) : Prop := e = .returned (.tuple #[.agg zeroCells, .int .i64 (a : Int), .iface 97 (.int .i64 2)]) ∧ Below w.heap.size w w'

set_option maxHeartbeats 1600000 in
theorem parse_ok (s : ByteArray) (w : World) (hs : s.size ≤ maxLen) (o : Out) (hx : parseS s = .inl o) :
    Calls Tryd.prog 16 #[.string s] w fun e w' => ParsedOk o w e w' := by
  have hmf : ∀ (fn : Fn) (first cap : Array Value) (w : World), (Instr.makeFunc fn first cap).run Tryd.prog w = .ok (.func fn first cap) w := fun _ _ _ _ => rfl
  have hA : At (w.heap.size + 1 + 1 + 1) s 0 ((((w.alloc (.cells zeroCells 24)).alloc (.cells #[.int .i64 0] 3)).alloc (.cells #[.nilIface] 26)).alloc (.cells #[.string s, .int .i64 0] 96)) := by
    refine ⟨?_, ?_, ?_, ?_⟩ <;> simp [go_sem]
  have HA := hide hA
  have HX := hide hx
  clear hA hx
  go_enter_defers Tryd.func16, Tryd.ntmps16
  go_wp2_with fail
  refine (rule_any _ s _ HA.out hs).mono ?_
  rw [HX.out]
  rintro e w1 ⟨v, rfl, t1, f1, a1, r1⟩
  obtain ⟨sa, sn, sc, rfl⟩ := t1.slice
  have cc : ∀ k j, k < w.heap.size + 1 + 1 + 1 → w1.cell? ⟨k, j, none⟩ = _ := fun k j hk => r1.cell k j (by simp; omega) (by omega)
  have cf : ∀ k j, k < w.heap.size + 1 + 1 + 1 → w1.frozen? ⟨k, j, none⟩ = _ := fun k j hk => r1.frozen k j (by simp; omega) (by omega)
  have c0 := cc w.heap.size 0 (by omega)
  have c1 := cc w.heap.size 1 (by omega)
  have c2 := cc w.heap.size 2 (by omega)
  have c3 := cc w.heap.size 3 (by omega)
  have c4 := cc w.heap.size 4 (by omega)
  have c5 := cc w.heap.size 5 (by omega)
  have c6 := cc w.heap.size 6 (by omega)
  have d0 := cc (w.heap.size + 1) 0 (by omega)
  have e0 := cc (w.heap.size + 1 + 1) 0 (by omega)
  have z0 : ∀ j, w1.frozen? ⟨w.heap.size, j, none⟩ = false := fun j => (cf w.heap.size j (by omega)).trans (by simp [go_sem])
  have z1 := cf (w.heap.size + 1) 0 (by omega)
  have z2 := cf (w.heap.size + 1 + 1) 0 (by omega)
  simp [go_sem, zeroCells] at c0 c1 c2 c3 c4 c5 c6 d0 e0 z1 z2
  have T1 := hide t1
  have F1 := hide f1
  have R1 := hide r1
  clear cc cf t1 f1 r1 a1 HA
  unfold Out.val
  go_wp2
  refine leaves_cons (f := 74) (args := #[.pointer (some ⟨w.heap.size + 1 + 1 + 1, 0, none⟩), .pointer (some ⟨w.heap.size, 0, none⟩), .pointer (some ⟨w.heap.size + 1, 0, none⟩), .pointer (some ⟨w.heap.size + 1 + 1, 0, none⟩)]) (by simp) (by simp [go_sem]) ?_
  refine (catch_idle _ _ _ _ _).mono ?_
  rintro e u' w'' ⟨rfl, rfl, rfl⟩
  have S2 := ((((Seven.mk c0 c1 c2 c3 c4 c5 c6).set (v0 := .int .i64 o.kind) (v1 := .int .i64 o.born) (v2 := .int .i64 o.stay) (v3 := .int .i64 o.states) (v4 := .int .i64 o.radius) (v5 := .slice sa sn sc) (v6 := .string o.turns)).set (v0 := .int .i64 o.kind) (v1 := .int .i64 o.born) (v2 := .int .i64 o.stay) (v3 := .int .i64 o.states) (v4 := .int .i64 o.radius) (v5 := .slice sa sn sc) (v6 := .string o.turns)).other (p := ⟨w.heap.size + 1, 0, none⟩) (by simp) (.int .i64 0)).other (p := ⟨w.heap.size + 1 + 1, 0, none⟩) (by simp; omega) .nilIface
  have hz : w.heap.size + 1 + 1 + 1 + 1 ≤ w1.heap.size := by have := R1.out.size; simpa using this
  have hd : (setRule (setRule w1 w.heap.size (.int .i64 o.kind) (.int .i64 o.born) (.int .i64 o.stay) (.int .i64 o.states) (.int .i64 o.radius) (.slice sa sn sc) (.string o.turns)) w.heap.size (.int .i64 o.kind) (.int .i64 o.born) (.int .i64 o.stay) (.int .i64 o.states) (.int .i64 o.radius) (.slice sa sn sc) (.string o.turns)).cell? ⟨w.heap.size + 1, 0, none⟩ = some (.int .i64 0) := by
    rw [World.cell?_of_block (w := w1) (a := ⟨w.heap.size + 1, 0, none⟩) ((setRule_block _ _ _ _ _ _ _ _ _ _ (by simp)).trans (setRule_block _ _ _ _ _ _ _ _ _ _ (by simp)))]; exact d0
  have he : (setRule (setRule w1 w.heap.size (.int .i64 o.kind) (.int .i64 o.born) (.int .i64 o.stay) (.int .i64 o.states) (.int .i64 o.radius) (.slice sa sn sc) (.string o.turns)) w.heap.size (.int .i64 o.kind) (.int .i64 o.born) (.int .i64 o.stay) (.int .i64 o.states) (.int .i64 o.radius) (.slice sa sn sc) (.string o.turns)).cell? ⟨w.heap.size + 1 + 1, 0, none⟩ = some .nilIface := by
    rw [World.cell?_of_block (w := w1) (a := ⟨w.heap.size + 1 + 1, 0, none⟩) ((setRule_block _ _ _ _ _ _ _ _ _ _ (by simp; omega)).trans (setRule_block _ _ _ _ _ _ _ _ _ _ (by simp; omega)))]; exact e0
  have hd2 : (((setRule (setRule w1 w.heap.size (.int .i64 o.kind) (.int .i64 o.born) (.int .i64 o.stay) (.int .i64 o.states) (.int .i64 o.radius) (.slice sa sn sc) (.string o.turns)) w.heap.size (.int .i64 o.kind) (.int .i64 o.born) (.int .i64 o.stay) (.int .i64 o.states) (.int .i64 o.radius) (.slice sa sn sc) (.string o.turns)).setCell ⟨w.heap.size + 1, 0, none⟩ (.int .i64 0)).setCell ⟨w.heap.size + 1 + 1, 0, none⟩ .nilIface).cell? ⟨w.heap.size + 1, 0, none⟩ = some (.int .i64 0) := by
    rw [World.cell?_setCell_other _ _ _ _ (by simp)]; exact World.cell?_setCell_same _ _ _ hd
  have he2 : (((setRule (setRule w1 w.heap.size (.int .i64 o.kind) (.int .i64 o.born) (.int .i64 o.stay) (.int .i64 o.states) (.int .i64 o.radius) (.slice sa sn sc) (.string o.turns)) w.heap.size (.int .i64 o.kind) (.int .i64 o.born) (.int .i64 o.stay) (.int .i64 o.states) (.int .i64 o.radius) (.slice sa sn sc) (.string o.turns)).setCell ⟨w.heap.size + 1, 0, none⟩ (.int .i64 0)).setCell ⟨w.heap.size + 1 + 1, 0, none⟩ .nilIface).cell? ⟨w.heap.size + 1 + 1, 0, none⟩ = some .nilIface :=
    World.cell?_setCell_same _ _ _ ((World.cell?_setCell_other _ _ _ _ (by simp)).trans he)
  refine ⟨.tuple #[o.val (.slice sa sn sc), .int .i64 0, .nilIface], parse_results w.heap.size _ _ _ _ _ _ _ _ _ _ _ _ _ _ _ _ _ _ S2 hd2 he2, _, rfl, ?_, F1.out.old (by simp; omega), ?_⟩
  · refine T1.out.block (by rw [World.size_setCell, World.size_setCell]; exact (setRule_size _ _ _ _ _ _ _ _ _).trans (setRule_size _ _ _ _ _ _ _ _ _)) fun g k c q => ?_
    have hg := F1.out g k c q
    simp at hg
    rw [Below.heap_setCell _ _ _ _ (by simp; omega), Below.heap_setCell _ _ _ _ (by simp; omega)]
    exact (setRule_block _ _ _ _ _ _ _ _ _ _ (by omega)).trans (setRule_block _ _ _ _ _ _ _ _ _ _ (by omega))
  · have B1 : Below w.heap.size w w1 := Below.trans ((((Below.refl _ _).alloc (Nat.le_refl _) _).alloc (by simp) _).alloc (by simp; omega) _ |>.alloc (by simp; omega) _) (R1.out.below (by omega) (by simp; omega))
    exact ((setRule_below (setRule_below B1 (Nat.le_refl _) (.int .i64 o.kind) (.int .i64 o.born) (.int .i64 o.stay) (.int .i64 o.states) (.int .i64 o.radius) (.slice sa sn sc) (.string o.turns)) (Nat.le_refl _) (.int .i64 o.kind) (.int .i64 o.born) (.int .i64 o.stay) (.int .i64 o.states) (.int .i64 o.radius) (.slice sa sn sc) (.string o.turns)).setCell (p := ⟨w.heap.size + 1, 0, none⟩) (by simp) _).setCell (p := ⟨w.heap.size + 1 + 1, 0, none⟩) (by simp; omega) _

set_option maxHeartbeats 1600000 in
theorem parse_no (s : ByteArray) (w : World) (hs : s.size ≤ maxLen) (a : Nat) (hx : parseS s = .inr a) :
    Calls Tryd.prog 16 #[.string s] w fun e w' => ParsedNo a w e w' := by
  have hmf : ∀ (fn : Fn) (first cap : Array Value) (w : World), (Instr.makeFunc fn first cap).run Tryd.prog w = .ok (.func fn first cap) w := fun _ _ _ _ => rfl
  have hA : At (w.heap.size + 1 + 1 + 1) s 0 ((((w.alloc (.cells zeroCells 24)).alloc (.cells #[.int .i64 0] 3)).alloc (.cells #[.nilIface] 26)).alloc (.cells #[.string s, .int .i64 0] 96)) := by
    refine ⟨?_, ?_, ?_, ?_⟩ <;> simp [go_sem]
  have HA := hide hA
  have HX := hide hx
  clear hA hx
  go_enter_defers Tryd.func16, Tryd.ntmps16
  go_wp2_with fail
  refine (rule_any _ s _ HA.out hs).mono ?_
  rw [HX.out]
  rintro e w1 ⟨rfl, a1, r1⟩
  have cc : ∀ k j, k < w.heap.size + 1 + 1 + 1 → w1.cell? ⟨k, j, none⟩ = _ := fun k j hk => r1.cell k j (by simp; omega) (by omega)
  have cf : ∀ k j, k < w.heap.size + 1 + 1 + 1 → w1.frozen? ⟨k, j, none⟩ = _ := fun k j hk => r1.frozen k j (by simp; omega) (by omega)
  have c0 := cc w.heap.size 0 (by omega)
  have c1 := cc w.heap.size 1 (by omega)
  have c2 := cc w.heap.size 2 (by omega)
  have c3 := cc w.heap.size 3 (by omega)
  have c4 := cc w.heap.size 4 (by omega)
  have c5 := cc w.heap.size 5 (by omega)
  have c6 := cc w.heap.size 6 (by omega)
  have d0 := cc (w.heap.size + 1) 0 (by omega)
  have e0 := cc (w.heap.size + 1 + 1) 0 (by omega)
  have z0 : ∀ j, w1.frozen? ⟨w.heap.size, j, none⟩ = false := fun j => (cf w.heap.size j (by omega)).trans (by simp [go_sem])
  have z1 := cf (w.heap.size + 1) 0 (by omega)
  have z2 := cf (w.heap.size + 1 + 1) 0 (by omega)
  simp [go_sem, zeroCells] at c0 c1 c2 c3 c4 c5 c6 d0 e0 z1 z2
  have A1 := hide a1
  have R1 := hide r1
  clear cc cf r1 a1 HA
  unfold oops
  go_wp2
  refine leaves_cons (f := 74) (args := #[.pointer (some ⟨w.heap.size + 1 + 1 + 1, 0, none⟩), .pointer (some ⟨w.heap.size, 0, none⟩), .pointer (some ⟨w.heap.size + 1, 0, none⟩), .pointer (some ⟨w.heap.size + 1 + 1, 0, none⟩)]) (by simp) (by simp [go_sem]) ?_
  refine (catch_panicking w.heap.size a [] w1 A1.out.pos c0 c1 c2 c3 c4 c5 c6 d0 e0 z0 z1 z2).mono ?_
  rintro e u' w'' ⟨rfl, rfl, rfl⟩
  have S2 := (((Seven.mk c0 c1 c2 c3 c4 c5 c6).set (v0 := .int .i64 0) (v1 := .int .i64 0) (v2 := .int .i64 0) (v3 := .int .i64 0) (v4 := .int .i64 0) (v5 := .slice none 0 0) (v6 := .string ⟨#[]⟩)).other (p := ⟨w.heap.size + 1, 0, none⟩) (by simp) (.int .i64 (a : Int))).other (p := ⟨w.heap.size + 1 + 1, 0, none⟩) (by simp; omega) (.iface 97 (.int .i64 2))
  have hd : (setRule w1 w.heap.size (.int .i64 0) (.int .i64 0) (.int .i64 0) (.int .i64 0) (.int .i64 0) (.slice none 0 0) (.string ⟨#[]⟩)).cell? ⟨w.heap.size + 1, 0, none⟩ = some (.int .i64 0) := by
    rw [World.cell?_of_block (w := w1) (a := ⟨w.heap.size + 1, 0, none⟩) (setRule_block _ _ _ _ _ _ _ _ _ _ (by simp))]; exact d0
  have he : (setRule w1 w.heap.size (.int .i64 0) (.int .i64 0) (.int .i64 0) (.int .i64 0) (.int .i64 0) (.slice none 0 0) (.string ⟨#[]⟩)).cell? ⟨w.heap.size + 1 + 1, 0, none⟩ = some .nilIface := by
    rw [World.cell?_of_block (w := w1) (a := ⟨w.heap.size + 1 + 1, 0, none⟩) (setRule_block _ _ _ _ _ _ _ _ _ _ (by simp; omega))]; exact e0
  have hd2 : (((setRule w1 w.heap.size (.int .i64 0) (.int .i64 0) (.int .i64 0) (.int .i64 0) (.int .i64 0) (.slice none 0 0) (.string ⟨#[]⟩)).setCell ⟨w.heap.size + 1, 0, none⟩ (.int .i64 (a : Int))).setCell ⟨w.heap.size + 1 + 1, 0, none⟩ (.iface 97 (.int .i64 2))).cell? ⟨w.heap.size + 1, 0, none⟩ = some (.int .i64 (a : Int)) := by
    rw [World.cell?_setCell_other _ _ _ _ (by simp)]; exact World.cell?_setCell_same _ _ _ hd
  have he2 : (((setRule w1 w.heap.size (.int .i64 0) (.int .i64 0) (.int .i64 0) (.int .i64 0) (.int .i64 0) (.slice none 0 0) (.string ⟨#[]⟩)).setCell ⟨w.heap.size + 1, 0, none⟩ (.int .i64 (a : Int))).setCell ⟨w.heap.size + 1 + 1, 0, none⟩ (.iface 97 (.int .i64 2))).cell? ⟨w.heap.size + 1 + 1, 0, none⟩ = some (.iface 97 (.int .i64 2)) :=
    World.cell?_setCell_same _ _ _ ((World.cell?_setCell_other _ _ _ _ (by simp)).trans he)
  refine ⟨.tuple #[.agg zeroCells, .int .i64 (a : Int), (.iface 97 (.int .i64 2))], parse_results w.heap.size _ _ _ _ _ _ _ _ _ _ _ _ _ _ _ _ _ _ S2 hd2 he2, rfl, ?_⟩
  have B1 : Below w.heap.size w w1 := Below.trans ((((Below.refl _ _).alloc (Nat.le_refl _) _).alloc (by simp) _).alloc (by simp; omega) _ |>.alloc (by simp; omega) _) (R1.out.below (by omega) (by simp; omega))
  exact ((setRule_below B1 (Nat.le_refl _) (.int .i64 0) (.int .i64 0) (.int .i64 0) (.int .i64 0) (.int .i64 0) (.slice none 0 0) (.string ⟨#[]⟩)).setCell (p := ⟨w.heap.size + 1, 0, none⟩) (by simp) _).setCell (p := ⟨w.heap.size + 1 + 1, 0, none⟩) (by simp; omega) _
end Go.Proofs.YtljdidimoagnhaaDoor

