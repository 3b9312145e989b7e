/-
  What the last text of this claim leans on, part 15: Rk6, Parse.
-/
import Derived.Test.YtljdidimoagnhaaDoorJv14
import Derived.Defers
import Derived.Recover
namespace Go.Proofs.YtljdidimoagnhaaDoor
open Go.RowKit
set_option linter.unusedVariables false

set_option maxHeartbeats 800000 in
theorem ofKind_none (b : Nat) (s : ByteArray) (w : World) (h : At b s 0 w) (h0 : s.size = 0) :
    Calls Tryd.prog 136 #[.pointer (some ⟨b, 0, none⟩)] w fun e w' => Reads (.inr 0) b s w e w' := by
  have hin : inR s 0 0 255 = false := inR_false.2 (by omega)
  have H0 := hide h
  clear h h0
  go_enter Tryd.func136, Tryd.ntmps136
  go_wp2_with fail
  refine (take_no b s 0 0 255 _ (H0.out.alloc _) (by omega) hin).mono ?_
  rintro e w1 ⟨rfl, a1, r1⟩
  go_wp2
  exact ⟨rfl, Reads.bad a1 r1.un⟩

set_option maxHeartbeats 800000 in
theorem ofKind_other (b : Nat) (s : ByteArray) (w : World) (h : At b s 0 w) (hs : s.size ≤ maxLen) (h0 : 0 < s.size) (n1 : ¬ bt s 0 = 66) (n2 : ¬ bt s 0 = 87) (n3 : ¬ bt s 0 = 76) (n4 : ¬ bt s 0 = 84) :
    Calls Tryd.prog 136 #[.pointer (some ⟨b, 0, none⟩)] w fun e w' => Reads (.inr 0) b s w e w' := by
  have hin : inR s 0 0 255 = true := inR_true.2 ⟨h0, by omega, by have := bt_le s 0; omega⟩
  have H0 := hide h
  have e0 := bt_lt s 0 h0
  clear h
  have k0 : ((s[0].toNat : Int) == 66) = false := by simp; omega
  have k1 : ((s[0].toNat : Int) == 87) = false := by simp; omega
  have k2 : ((s[0].toNat : Int) == 76) = false := by simp; omega
  have k3 : ((s[0].toNat : Int) == 84) = false := by simp; omega
  clear e0
  go_enter Tryd.func136, Tryd.ntmps136
  go_wp2_with fail
  refine (take_yes b s 0 0 255 _ (H0.out.alloc _) hs h0 hin).mono ?_
  rintro e w1 ⟨rfl, a1, r1⟩
  have A1 := hide a1
  clear a1
  go_wp2_with fail
  refine (fail_any b s _ 0 _ A1.out).mono ?_
  rintro e w2 ⟨rfl, a2, r2⟩
  go_wp2
  exact ⟨rfl, Reads.bad a2 (r1.trans r2).un⟩

theorem ofKind_any (b : Nat) (s : ByteArray) (w : World) (h : At b s 0 w) (hs : s.size ≤ maxLen) :
    Calls Tryd.prog 136 #[.pointer (some ⟨b, 0, none⟩)] w fun e w' => Reads (kindS s) b s w e w' := by
  unfold kindS
  by_cases h0 : s.size = 0
  · rw [if_pos h0]; exact ofKind_none b s w h h0
  rw [if_neg h0]
  by_cases h1 : bt s 0 = 66
  · rw [if_pos h1]; exact ofKind_life b s w h hs (by omega) h1
  rw [if_neg h1]
  by_cases h2 : bt s 0 = 87
  · rw [if_pos h2]; exact ofKind_numbered b s w h hs (by omega) h2
  rw [if_neg h2]
  by_cases h3 : bt s 0 = 76
  · rw [if_pos h3]; exact ofKind_tabled b s w h hs (by omega) h3
  rw [if_neg h3]
  by_cases h4 : bt s 0 = 84
  · rw [if_pos h4]; exact ofKind_ant b s w h hs (by omega) h4
  rw [if_neg h4]
  exact ofKind_other b s w h hs (by omega) h1 h2 h3 h4

/-- What reading a whole text comes to. -/
def Ruled (x : Out ⊕ Nat) (b : Nat) (s : ByteArray) (w : World) (e : Ending) (w' : World) : Prop :=
  match x with
  | .inr a => e = .panicked oops ∧ At b s a w' ∧ Rd b w w'
  | .inl o => ∃ v, e = .returned (o.val v) ∧ Tab w' v o.table ∧ Fresh w v ∧ At b s s.size w' ∧ Rd b w w'
theorem Ruled.bad {b : Nat} {s : ByteArray} {w w' : World} {a : Nat} (ha : At b s a w') (hr : Rd b w w') : Ruled (.inr a) b s w (.panicked oops) w' := ⟨rfl, ha, hr⟩

theorem Tab.alloc {w : World} {v : Value} {xs : List Int} (h : Tab w v xs) (o : Obj) : Tab (w.alloc o) v xs := by
  rcases h with h | ⟨g, cap, hv, hg, hc⟩
  · exact Or.inl h
  · have e : (w.alloc o).heap[g]? = w.heap[g]? := Below.heap_alloc _ _ _ hg
    exact Or.inr ⟨g, cap, hv, by rw [World.size_alloc]; omega, fun k hk => (World.cell?_of_block (w := w) (a := ⟨g, k, none⟩) e).trans (hc k hk)⟩
theorem Tab.drewN {w : World} {v : Value} {xs : List Int} (h : Tab w v xs) (n : Nat) : Tab (w.drewN n) v xs := h

set_option maxHeartbeats 1600000 in
theorem rule_any (b : Nat) (s : ByteArray) (w : World) (h : At b s 0 w) (hs : s.size ≤ maxLen) :
    Calls Tryd.prog 75 #[.pointer (some ⟨b, 0, none⟩)] w fun e w' => Ruled (parseS s) b s w e w' := by
  have H0 := hide h
  have hlt := h.lt
  clear h
  go_enter Tryd.func75, Tryd.ntmps75
  go_wp2_with fail
  refine (ofKind_any b s _ (H0.out.alloc _) hs).mono ?_
  cases hx : kindS s with
  | inr a =>
    have X := hide (show parseS s = .inr a by unfold parseS; rw [hx])
    clear hx
    rintro e w1 ⟨rfl, a1, r1⟩
    go_wp2
    rw [X.out]
    exact ⟨rfl, Ruled.bad a1 r1.un⟩
  | inl x =>
    obtain ⟨o, p⟩ := x
    have HX := hide hx
    clear hx
    rintro e w1 ⟨v, rfl, t1, f1, a1, r1, l1⟩
    obtain ⟨sa, sn, sc, rfl⟩ := t1.slice
    have hz : w.heap.size + 1 ≤ w1.heap.size := by have := r1.size; simpa using this
    have T1 := hide t1
    have F1 := hide f1
    have A1 := hide a1
    have R1 := hide (show Rd b (w.alloc (.cells zeroCells 24)) w1 from r1)
    have L1 := hide l1
    clear t1 a1 r1 l1 f1
    unfold Out.val
    by_cases hp : p = s.size
    · have X := hide (show parseS s = .inl o by unfold parseS; rw [HX.out]; simp [hp])
      have P := hide hp
      clear hp
      go_wp2_with fail
      refine (ended_yes b s p _ (A1.out.alloc _) P.out).mono ?_
      rintro e w2 ⟨rfl, n, rfl⟩
      have A2 := (A1.out.alloc (.cells #[.int .i64 o.kind, .int .i64 o.born, .int .i64 o.stay, .int .i64 o.states, .int .i64 o.radius, .slice sa sn sc, .string o.turns] 24)).drewN n
      have R2 := (R1.out.alloc (.cells #[.int .i64 o.kind, .int .i64 o.born, .int .i64 o.stay, .int .i64 o.states, .int .i64 o.radius, .slice sa sn sc, .string o.turns] 24)).drewN n
      obtain ⟨hc, hf⟩ := R2.made hlt
      have c0 := hc 0
      have c1 := hc 1
      have c2 := hc 2
      have c3 := hc 3
      have c4 := hc 4
      have c5 := hc 5
      have c6 := hc 6
      simp [zeroCells] at c0 c1 c2 c3 c4 c5 c6
      have A3 := hide A2
      have R3 := hide R2
      clear hc R2 A2
      go_wp2
      refine bodyPost_ret (v := o.val (.slice sa sn sc)) (by simp [results, Tryd.results75, go_sem, Out.val, c0, c1, c2, c3, c4, c5, c6]) rfl ?_
      rw [X.out]
      have A4 := A3.out
      rw [P.out] at A4
      exact ⟨_, rfl, set7_tab ((T1.out.alloc _).drewN n) F1.out (by simp), F1.out.old (by simp), set7_at A4 (by omega), set7_rd R3.out.un (by omega)⟩
    · have X := hide (show parseS s = .inr p by unfold parseS; rw [HX.out]; simp [hp])
      have l2 := L1.out
      have P := hide (show p < s.size by omega)
      clear hp
      have A2 := A1.out.alloc (.cells #[.int .i64 o.kind, .int .i64 o.born, .int .i64 o.stay, .int .i64 o.states, .int .i64 o.radius, .slice sa sn sc, .string o.turns] 24)
      obtain ⟨g0, g1, g2, g3⟩ := A2
      clear l2
      go_wp2_with fail
      refine (ended_no b s p _ (A1.out.alloc _) P.out).mono ?_
      rintro e w2 ⟨rfl, n, rfl⟩
      go_wp2_with fail
      refine (fail_any b s p p _ ((A1.out.alloc _).drewN n)).mono ?_
      rintro e w3 ⟨rfl, a3, r3⟩
      go_wp2
      rw [X.out]
      exact ⟨rfl, Ruled.bad a3 (((R1.out.alloc _).drewN n).trans r3).un⟩
end Go.Proofs.YtljdidimoagnhaaDoor

namespace Go.Proofs.YtljdidimoagnhaaDoor
open Go.RowKit
set_option linter.unusedVariables false

theorem catch_idle (p q r t : Value) (w : World) :
    CallsD Tryd.prog 74 #[p, q, r, t] .returning w fun e u' w' => e = .returned (.tuple #[]) ∧ u' = .returning ∧ w' = w := by
  refine callsD_of_wpS Tryd.func74 rfl fun c₀ cs hu => ?_
  apply wpS_seq
  apply wpS_region
  simp [wpOpsS, go_sem, recoverD, hu, Tryd.ntmps74, Exit.thenS]
  refine wpS_cond (t := false) (by simp [Act.eval, Array.replicate]) ?_
  simp only [Bool.false_eq_true, if_false]
  refine wpS_of_wp (wp_skip ?_)
  cases c₀
  simp_all [bodyPostS, results, Tryd.results74]

/-- The seven cells of a rule at g. -/
def setRule (w : World) (g : Nat) (v0 v1 v2 v3 v4 v5 v6 : Value) : World :=
  ((((((w.setCell ⟨g, 0, none⟩ v0).setCell ⟨g, 1, none⟩ v1).setCell ⟨g, 2, none⟩ v2).setCell ⟨g, 3, none⟩ v3).setCell ⟨g, 4, none⟩ v4).setCell ⟨g, 5, none⟩ v5).setCell ⟨g, 6, none⟩ v6

/-- The seven cells of a rule at g: they are there. -/
structure Seven (w : World) (g : Nat) (v0 v1 v2 v3 v4 v5 v6 : Value) : Prop where
  c0 : w.cell? ⟨g, 0, none⟩ = some v0
  c1 : w.cell? ⟨g, 1, none⟩ = some v1
  c2 : w.cell? ⟨g, 2, none⟩ = some v2
  c3 : w.cell? ⟨g, 3, none⟩ = some v3
  c4 : w.cell? ⟨g, 4, none⟩ = some v4
  c5 : w.cell? ⟨g, 5, none⟩ = some v5
  c6 : w.cell? ⟨g, 6, none⟩ = some v6
theorem Seven.set {w : World} {g : Nat} {u0 u1 u2 u3 u4 u5 u6 v0 v1 v2 v3 v4 v5 v6 : Value} (h : Seven w g u0 u1 u2 u3 u4 u5 u6) : Seven (setRule w g v0 v1 v2 v3 v4 v5 v6) g v0 v1 v2 v3 v4 v5 v6 := by
  obtain ⟨c0, c1, c2, c3, c4, c5, c6⟩ := h
  unfold setRule
  constructor <;> simp [go_sem, c0, c1, c2, c3, c4, c5, c6]
theorem Seven.other {w : World} {g : Nat} {v0 v1 v2 v3 v4 v5 v6 : Value} (h : Seven w g v0 v1 v2 v3 v4 v5 v6) {p : Addr} (hp : p.block ≠ g) (u : Value) : Seven (w.setCell p u) g v0 v1 v2 v3 v4 v5 v6 := by
  have e : (w.setCell p u).heap[g]? = w.heap[g]? := Below.heap_setCell _ _ _ _ (fun q => hp q.symm)
  obtain ⟨c0, c1, c2, c3, c4, c5, c6⟩ := h
  exact ⟨(World.cell?_of_block (w := w) (a := ⟨g, 0, none⟩) e).trans c0, (World.cell?_of_block (w := w) (a := ⟨g, 1, none⟩) e).trans c1, (World.cell?_of_block (w := w) (a := ⟨g, 2, none⟩) e).trans c2, (World.cell?_of_block (w := w) (a := ⟨g, 3, none⟩) e).trans c3, (World.cell?_of_block (w := w) (a := ⟨g, 4, none⟩) e).trans c4, (World.cell?_of_block (w := w) (a := ⟨g, 5, none⟩) e).trans c5, (World.cell?_of_block (w := w) (a := ⟨g, 6, none⟩) e).trans c6⟩
theorem setRule_block (w : World) (g k : Nat) (v0 v1 v2 v3 v4 v5 v6 : Value) (hk : k ≠ g) : (setRule w g v0 v1 v2 v3 v4 v5 v6).heap[k]? = w.heap[k]? := by
  unfold setRule
  rw [Below.heap_setCell _ _ _ _ hk, Below.heap_setCell _ _ _ _ hk, Below.heap_setCell _ _ _ _ hk, Below.heap_setCell _ _ _ _ hk, Below.heap_setCell _ _ _ _ hk, Below.heap_setCell _ _ _ _ hk, Below.heap_setCell _ _ _ _ hk]
theorem setRule_size (w : World) (g : Nat) (v0 v1 v2 v3 v4 v5 v6 : Value) : (setRule w g v0 v1 v2 v3 v4 v5 v6).heap.size = w.heap.size := by
  unfold setRule
  simp only [World.size_setCell]
theorem setRule_below {B : Nat} {w0 w : World} (h : Below B w0 w) {g : Nat} (hg : B ≤ g) (v0 v1 v2 v3 v4 v5 v6 : Value) : Below B w0 (setRule w g v0 v1 v2 v3 v4 v5 v6) := by
  unfold setRule
  exact ((((((h.setCell hg _).setCell hg _).setCell hg _).setCell hg _).setCell hg _).setCell hg _).setCell hg _
theorem Tab.block {w w' : World} {v : Value} {xs : List Int} (h : Tab w v xs) (hs : w'.heap.size = w.heap.size) (hb : ∀ g k c, v = .slice (some ⟨g, 0, none⟩) k c → w'.heap[g]? = w.heap[g]?) : Tab w' v xs := by
  rcases h with h | ⟨g, cap, hv, hg, hc⟩
  · exact Or.inl h
  · exact Or.inr ⟨g, cap, hv, by rw [hs]; exact hg, fun k hk => (World.cell?_of_block (w := w) (a := ⟨g, k, none⟩) (hb g _ _ hv)).trans (hc k hk)⟩

/-- Parse's three results are read. -/
theorem parse_results (g : Nat) (W : World) (v0 v1 v2 v3 v4 v5 v6 x y a0 a1 a5 a6 a7 a8 a9 a10 : Value) (h : Seven W g v0 v1 v2 v3 v4 v5 v6) (hx : W.cell? ⟨g + 1, 0, none⟩ = some x) (hy : W.cell? ⟨g + 1 + 1, 0, none⟩ = some y) :
    (results Tryd.f16 #[a0, a1, .pointer (some ⟨g, 0, none⟩), .pointer (some ⟨g + 1, 0, none⟩), .pointer (some ⟨g + 1 + 1, 0, none⟩), a5, a6, a7, a8, a9, a10]).run Tryd.prog W = .ok (.tuple #[.agg #[v0, v1, v2, v3, v4, v5, v6], x, y]) W := by
  obtain ⟨c0, c1, c2, c3, c4, c5, c6⟩ := h
  simp [results, Tryd.results16, go_sem, c0, c1, c2, c3, c4, c5, c6, hx, hy]

set_option maxHeartbeats 1600000 in
theorem catch_panicking (g : Nat) (i : Nat) (older : List PanicEntry) (w : World)
    (hp : w.cell? ⟨g + 1 + 1 + 1, 1, none⟩ = some (.int .i64 (i : Int)))
    (c0 : w.cell? ⟨g, 0, none⟩ = some (.int .i64 0)) (c1 : w.cell? ⟨g, 1, none⟩ = some (.int .i64 0)) (c2 : w.cell? ⟨g, 2, none⟩ = some (.int .i64 0)) (c3 : w.cell? ⟨g, 3, none⟩ = some (.int .i64 0)) (c4 : w.cell? ⟨g, 4, none⟩ = some (.int .i64 0)) (c5 : w.cell? ⟨g, 5, none⟩ = some (.slice none 0 0)) (c6 : w.cell? ⟨g, 6, none⟩ = some (.string ⟨#[]⟩))
    (d0 : w.cell? ⟨g + 1, 0, none⟩ = some (.int .i64 0)) (e0 : w.cell? ⟨g + 1 + 1, 0, none⟩ = some .nilIface)
    (f0 : ∀ j, w.frozen? ⟨g, j, none⟩ = false) (f1 : w.frozen? ⟨g + 1, 0, none⟩ = false) (f2 : w.frozen? ⟨g + 1 + 1, 0, none⟩ = false) :
    CallsD Tryd.prog 74 #[.pointer (some ⟨g + 1 + 1 + 1, 0, none⟩), .pointer (some ⟨g, 0, none⟩), .pointer (some ⟨g + 1, 0, none⟩), .pointer (some ⟨g + 1 + 1, 0, none⟩)] (.panicking ({ v := .iface 97 (.int .i64 2), recovered := false } :: older)) w fun e u' w' =>
      e = .returned (.tuple #[]) ∧ u' = .panicking ({ v := .iface 97 (.int .i64 2), recovered := true } :: older) ∧
      w' = ((setRule w g (.int .i64 0) (.int .i64 0) (.int .i64 0) (.int .i64 0) (.int .i64 0) (.slice none 0 0) (.string ⟨#[]⟩)).setCell ⟨g + 1, 0, none⟩ (.int .i64 (i : Int))).setCell ⟨g + 1 + 1, 0, none⟩ (.iface 97 (.int .i64 2)) := by
  refine callsD_of_wpS Tryd.func74 rfl fun c₀ cs hu => ?_
  apply wpS_seq
  apply wpS_region
  simp [wpOpsS, go_sem, recoverD, hu, Tryd.ntmps74, Exit.thenS]
  refine wpS_cond (t := true) (by simp [Act.eval, Array.replicate]) ?_
  simp only [if_true]
  apply wpS_region
  simp [wpOpsS, go_sem, hp, c0, c1, c2, c3, c4, c5, c6, d0, e0, f0, f1, f2, bodyPostS, results, Tryd.results74, setRule]

/-- What Parse answers where the text is a rule's. -/
def ParsedOk (o : Out) (w : World) (e : Ending) (w' : World) : Prop := ∃ v, e = .returned (.tuple #[o.val v, .int .i64 0, .nilIface]) ∧ Tab w' v o.table ∧ Fresh w v ∧ Below w.heap.size w w'
/-- What Parse answers where it is none: the first fault is at a. -/
def ParsedNo (a : Nat) (w : World) (e : Ending) (w' : World) : Prop := e = .returned (.tuple #[.agg zeroCells, .int .i64 (a : Int), .iface 97 (.int .i64 2)]) ∧ Below w.heap.size w w'

set_option maxHeartbeats 1600000 in
theorem parse_ok (s : ByteArray) (w : World) (hs : s.size ≤ maxLen) (o : Out) (hx : parseS s = .inl o) :
    Calls Tryd.prog 16 #[.string s] w fun e w' => ParsedOk o w e w' := by
  have hmf : ∀ (fn : Fn) (first cap : Array Value) (w : World), (Instr.makeFunc fn first cap).run Tryd.prog w = .ok (.func fn first cap) w := fun _ _ _ _ => rfl
  have hA : At (w.heap.size + 1 + 1 + 1) s 0 ((((w.alloc (.cells zeroCells 24)).alloc (.cells #[.int .i64 0] 3)).alloc (.cells #[.nilIface] 26)).alloc (.cells #[.string s, .int .i64 0] 96)) := by
    refine ⟨?_, ?_, ?_, ?_⟩ <;> simp [go_sem]
  have HA := hide hA
  have HX := hide hx
  clear hA hx
  go_enter_defers Tryd.func16, Tryd.ntmps16
  go_wp2_with fail
  refine (rule_any _ s _ HA.out hs).mono ?_
  rw [HX.out]
  rintro e w1 ⟨v, rfl, t1, f1, a1, r1⟩
  obtain ⟨sa, sn, sc, rfl⟩ := t1.slice
  have cc : ∀ k j, k < w.heap.size + 1 + 1 + 1 → w1.cell? ⟨k, j, none⟩ = _ := fun k j hk => r1.cell k j (by simp; omega) (by omega)
  have cf : ∀ k j, k < w.heap.size + 1 + 1 + 1 → w1.frozen? ⟨k, j, none⟩ = _ := fun k j hk => r1.frozen k j (by simp; omega) (by omega)
  have c0 := cc w.heap.size 0 (by omega)
  have c1 := cc w.heap.size 1 (by omega)
  have c2 := cc w.heap.size 2 (by omega)
  have c3 := cc w.heap.size 3 (by omega)
  have c4 := cc w.heap.size 4 (by omega)
  have c5 := cc w.heap.size 5 (by omega)
  have c6 := cc w.heap.size 6 (by omega)
  have d0 := cc (w.heap.size + 1) 0 (by omega)
  have e0 := cc (w.heap.size + 1 + 1) 0 (by omega)
  have z0 : ∀ j, w1.frozen? ⟨w.heap.size, j, none⟩ = false := fun j => (cf w.heap.size j (by omega)).trans (by simp [go_sem])
  have z1 := cf (w.heap.size + 1) 0 (by omega)
  have z2 := cf (w.heap.size + 1 + 1) 0 (by omega)
  simp [go_sem, zeroCells] at c0 c1 c2 c3 c4 c5 c6 d0 e0 z1 z2
  have T1 := hide t1
  have F1 := hide f1
  have R1 := hide r1
  clear cc cf t1 f1 r1 a1 HA
  unfold Out.val
  go_wp2
  refine leaves_cons (f := 74) (args := #[.pointer (some ⟨w.heap.size + 1 + 1 + 1, 0, none⟩), .pointer (some ⟨w.heap.size, 0, none⟩), .pointer (some ⟨w.heap.size + 1, 0, none⟩), .pointer (some ⟨w.heap.size + 1 + 1, 0, none⟩)]) (by simp) (by simp [go_sem]) ?_
  refine (catch_idle _ _ _ _ _).mono ?_
  rintro e u' w'' ⟨rfl, rfl, rfl⟩
  have S2 := ((((Seven.mk c0 c1 c2 c3 c4 c5 c6).set (v0 := .int .i64 o.kind) (v1 := .int .i64 o.born) (v2 := .int .i64 o.stay) (v3 := .int .i64 o.states) (v4 := .int .i64 o.radius) (v5 := .slice sa sn sc) (v6 := .string o.turns)).set (v0 := .int .i64 o.kind) (v1 := .int .i64 o.born) (v2 := .int .i64 o.stay) (v3 := .int .i64 o.states) (v4 := .int .i64 o.radius) (v5 := .slice sa sn sc) (v6 := .string o.turns)).other (p := ⟨w.heap.size + 1, 0, none⟩) (by simp) (.int .i64 0)).other (p := ⟨w.heap.size + 1 + 1, 0, none⟩) (by simp; omega) .nilIface
  have hz : w.heap.size + 1 + 1 + 1 + 1 ≤ w1.heap.size := by have := R1.out.size; simpa using this
  have hd : (setRule (setRule w1 w.heap.size (.int .i64 o.kind) (.int .i64 o.born) (.int .i64 o.stay) (.int .i64 o.states) (.int .i64 o.radius) (.slice sa sn sc) (.string o.turns)) w.heap.size (.int .i64 o.kind) (.int .i64 o.born) (.int .i64 o.stay) (.int .i64 o.states) (.int .i64 o.radius) (.slice sa sn sc) (.string o.turns)).cell? ⟨w.heap.size + 1, 0, none⟩ = some (.int .i64 0) := by
    rw [World.cell?_of_block (w := w1) (a := ⟨w.heap.size + 1, 0, none⟩) ((setRule_block _ _ _ _ _ _ _ _ _ _ (by simp)).trans (setRule_block _ _ _ _ _ _ _ _ _ _ (by simp)))]; exact d0
  have he : (setRule (setRule w1 w.heap.size (.int .i64 o.kind) (.int .i64 o.born) (.int .i64 o.stay) (.int .i64 o.states) (.int .i64 o.radius) (.slice sa sn sc) (.string o.turns)) w.heap.size (.int .i64 o.kind) (.int .i64 o.born) (.int .i64 o.stay) (.int .i64 o.states) (.int .i64 o.radius) (.slice sa sn sc) (.string o.turns)).cell? ⟨w.heap.size + 1 + 1, 0, none⟩ = some .nilIface := by
    rw [World.cell?_of_block (w := w1) (a := ⟨w.heap.size + 1 + 1, 0, none⟩) ((setRule_block _ _ _ _ _ _ _ _ _ _ (by simp; omega)).trans (setRule_block _ _ _ _ _ _ _ _ _ _ (by simp; omega)))]; exact e0
  have hd2 : (((setRule (setRule w1 w.heap.size (.int .i64 o.kind) (.int .i64 o.born) (.int .i64 o.stay) (.int .i64 o.states) (.int .i64 o.radius) (.slice sa sn sc) (.string o.turns)) w.heap.size (.int .i64 o.kind) (.int .i64 o.born) (.int .i64 o.stay) (.int .i64 o.states) (.int .i64 o.radius) (.slice sa sn sc) (.string o.turns)).setCell ⟨w.heap.size + 1, 0, none⟩ (.int .i64 0)).setCell ⟨w.heap.size + 1 + 1, 0, none⟩ .nilIface).cell? ⟨w.heap.size + 1, 0, none⟩ = some (.int .i64 0) := by
    rw [World.cell?_setCell_other _ _ _ _ (by simp)]; exact World.cell?_setCell_same _ _ _ hd
  have he2 : (((setRule (setRule w1 w.heap.size (.int .i64 o.kind) (.int .i64 o.born) (.int .i64 o.stay) (.int .i64 o.states) (.int .i64 o.radius) (.slice sa sn sc) (.string o.turns)) w.heap.size (.int .i64 o.kind) (.int .i64 o.born) (.int .i64 o.stay) (.int .i64 o.states) (.int .i64 o.radius) (.slice sa sn sc) (.string o.turns)).setCell ⟨w.heap.size + 1, 0, none⟩ (.int .i64 0)).setCell ⟨w.heap.size + 1 + 1, 0, none⟩ .nilIface).cell? ⟨w.heap.size + 1 + 1, 0, none⟩ = some .nilIface :=
    World.cell?_setCell_same _ _ _ ((World.cell?_setCell_other _ _ _ _ (by simp)).trans he)
  refine ⟨.tuple #[o.val (.slice sa sn sc), .int .i64 0, .nilIface], parse_results w.heap.size _ _ _ _ _ _ _ _ _ _ _ _ _ _ _ _ _ _ S2 hd2 he2, _, rfl, ?_, F1.out.old (by simp; omega), ?_⟩
  · refine T1.out.block (by rw [World.size_setCell, World.size_setCell]; exact (setRule_size _ _ _ _ _ _ _ _ _).trans (setRule_size _ _ _ _ _ _ _ _ _)) fun g k c q => ?_
    have hg := F1.out g k c q
    simp at hg
    rw [Below.heap_setCell _ _ _ _ (by simp; omega), Below.heap_setCell _ _ _ _ (by simp; omega)]
    exact (setRule_block _ _ _ _ _ _ _ _ _ _ (by omega)).trans (setRule_block _ _ _ _ _ _ _ _ _ _ (by omega))
  · have B1 : Below w.heap.size w w1 := Below.trans ((((Below.refl _ _).alloc (Nat.le_refl _) _).alloc (by simp) _).alloc (by simp; omega) _ |>.alloc (by simp; omega) _) (R1.out.below (by omega) (by simp; omega))
    exact ((setRule_below (setRule_below B1 (Nat.le_refl _) (.int .i64 o.kind) (.int .i64 o.born) (.int .i64 o.stay) (.int .i64 o.states) (.int .i64 o.radius) (.slice sa sn sc) (.string o.turns)) (Nat.le_refl _) (.int .i64 o.kind) (.int .i64 o.born) (.int .i64 o.stay) (.int .i64 o.states) (.int .i64 o.radius) (.slice sa sn sc) (.string o.turns)).setCell (p := ⟨w.heap.size + 1, 0, none⟩) (by simp) _).setCell (p := ⟨w.heap.size + 1 + 1, 0, none⟩) (by simp; omega) _

set_option maxHeartbeats 1600000 in
theorem parse_no (s : ByteArray) (w : World) (hs : s.size ≤ maxLen) (a : Nat) (hx : parseS s = .inr a) :
    Calls Tryd.prog 16 #[.string s] w fun e w' => ParsedNo a w e w' := by
  have hmf : ∀ (fn : Fn) (first cap : Array Value) (w : World), (Instr.makeFunc fn first cap).run Tryd.prog w = .ok (.func fn first cap) w := fun _ _ _ _ => rfl
  have hA : At (w.heap.size + 1 + 1 + 1) s 0 ((((w.alloc (.cells zeroCells 24)).alloc (.cells #[.int .i64 0] 3)).alloc (.cells #[.nilIface] 26)).alloc (.cells #[.string s, .int .i64 0] 96)) := by
    refine ⟨?_, ?_, ?_, ?_⟩ <;> simp [go_sem]
  have HA := hide hA
  have HX := hide hx
  clear hA hx
  go_enter_defers Tryd.func16, Tryd.ntmps16
  go_wp2_with fail
  refine (rule_any _ s _ HA.out hs).mono ?_
  rw [HX.out]
  rintro e w1 ⟨rfl, a1, r1⟩
  have cc : ∀ k j, k < w.heap.size + 1 + 1 + 1 → w1.cell? ⟨k, j, none⟩ = _ := fun k j hk => r1.cell k j (by simp; omega) (by omega)
  have cf : ∀ k j, k < w.heap.size + 1 + 1 + 1 → w1.frozen? ⟨k, j, none⟩ = _ := fun k j hk => r1.frozen k j (by simp; omega) (by omega)
  have c0 := cc w.heap.size 0 (by omega)
  have c1 := cc w.heap.size 1 (by omega)
  have c2 := cc w.heap.size 2 (by omega)
  have c3 := cc w.heap.size 3 (by omega)
  have c4 := cc w.heap.size 4 (by omega)
  have c5 := cc w.heap.size 5 (by omega)
  have c6 := cc w.heap.size 6 (by omega)
  have d0 := cc (w.heap.size + 1) 0 (by omega)
  have e0 := cc (w.heap.size + 1 + 1) 0 (by omega)
  have z0 : ∀ j, w1.frozen? ⟨w.heap.size, j, none⟩ = false := fun j => (cf w.heap.size j (by omega)).trans (by simp [go_sem])
  have z1 := cf (w.heap.size + 1) 0 (by omega)
  have z2 := cf (w.heap.size + 1 + 1) 0 (by omega)
  simp [go_sem, zeroCells] at c0 c1 c2 c3 c4 c5 c6 d0 e0 z1 z2
  have A1 := hide a1
  have R1 := hide r1
  clear cc cf r1 a1 HA
  unfold oops
  go_wp2
  refine leaves_cons (f := 74) (args := #[.pointer (some ⟨w.heap.size + 1 + 1 + 1, 0, none⟩), .pointer (some ⟨w.heap.size, 0, none⟩), .pointer (some ⟨w.heap.size + 1, 0, none⟩), .pointer (some ⟨w.heap.size + 1 + 1, 0, none⟩)]) (by simp) (by simp [go_sem]) ?_
  refine (catch_panicking w.heap.size a [] w1 A1.out.pos c0 c1 c2 c3 c4 c5 c6 d0 e0 z0 z1 z2).mono ?_
  rintro e u' w'' ⟨rfl, rfl, rfl⟩
  have S2 := (((Seven.mk c0 c1 c2 c3 c4 c5 c6).set (v0 := .int .i64 0) (v1 := .int .i64 0) (v2 := .int .i64 0) (v3 := .int .i64 0) (v4 := .int .i64 0) (v5 := .slice none 0 0) (v6 := .string ⟨#[]⟩)).other (p := ⟨w.heap.size + 1, 0, none⟩) (by simp) (.int .i64 (a : Int))).other (p := ⟨w.heap.size + 1 + 1, 0, none⟩) (by simp; omega) (.iface 97 (.int .i64 2))
  have hd : (setRule w1 w.heap.size (.int .i64 0) (.int .i64 0) (.int .i64 0) (.int .i64 0) (.int .i64 0) (.slice none 0 0) (.string ⟨#[]⟩)).cell? ⟨w.heap.size + 1, 0, none⟩ = some (.int .i64 0) := by
    rw [World.cell?_of_block (w := w1) (a := ⟨w.heap.size + 1, 0, none⟩) (setRule_block _ _ _ _ _ _ _ _ _ _ (by simp))]; exact d0
  have he : (setRule w1 w.heap.size (.int .i64 0) (.int .i64 0) (.int .i64 0) (.int .i64 0) (.int .i64 0) (.slice none 0 0) (.string ⟨#[]⟩)).cell? ⟨w.heap.size + 1 + 1, 0, none⟩ = some .nilIface := by
    rw [World.cell?_of_block (w := w1) (a := ⟨w.heap.size + 1 + 1, 0, none⟩) (setRule_block _ _ _ _ _ _ _ _ _ _ (by simp; omega))]; exact e0
  have hd2 : (((setRule w1 w.heap.size (.int .i64 0) (.int .i64 0) (.int .i64 0) (.int .i64 0) (.int .i64 0) (.slice none 0 0) (.string ⟨#[]⟩)).setCell ⟨w.heap.size + 1, 0, none⟩ (.int .i64 (a : Int))).setCell ⟨w.heap.size + 1 + 1, 0, none⟩ (.iface 97 (.int .i64 2))).cell? ⟨w.heap.size + 1, 0, none⟩ = some (.int .i64 (a : Int)) := by
    rw [World.cell?_setCell_other _ _ _ _ (by simp)]; exact World.cell?_setCell_same _ _ _ hd
  have he2 : (((setRule w1 w.heap.size (.int .i64 0) (.int .i64 0) (.int .i64 0) (.int .i64 0) (.int .i64 0) (.slice none 0 0) (.string ⟨#[]⟩)).setCell ⟨w.heap.size + 1, 0, none⟩ (.int .i64 (a : Int))).setCell ⟨w.heap.size + 1 + 1, 0, none⟩ (.iface 97 (.int .i64 2))).cell? ⟨w.heap.size + 1 + 1, 0, none⟩ = some (.iface 97 (.int .i64 2)) :=
    World.cell?_setCell_same _ _ _ ((World.cell?_setCell_other _ _ _ _ (by simp)).trans he)
  refine ⟨.tuple #[.agg zeroCells, .int .i64 (a : Int), (.iface 97 (.int .i64 2))], parse_results w.heap.size _ _ _ _ _ _ _ _ _ _ _ _ _ _ _ _ _ _ S2 hd2 he2, rfl, ?_⟩
  have B1 : Below w.heap.size w w1 := Below.trans ((((Below.refl _ _).alloc (Nat.le_refl _) _).alloc (by simp) _).alloc (by simp; omega) _ |>.alloc (by simp; omega) _) (R1.out.below (by omega) (by simp; omega))
  exact ((setRule_below B1 (Nat.le_refl _) (.int .i64 0) (.int .i64 0) (.int .i64 0) (.int .i64 0) (.int .i64 0) (.slice none 0 0) (.string ⟨#[]⟩)).setCell (p := ⟨w.heap.size + 1, 0, none⟩) (by simp) _).setCell (p := ⟨w.heap.size + 1 + 1, 0, none⟩) (by simp; omega) _
end Go.Proofs.YtljdidimoagnhaaDoor

