/-
  What the last text of this claim leans on, part 30: Oe3.
-/
import Derived.Test.YtdhbdkkchobinaaJz29
namespace Go.Proofs.Ytdhbdkkchobinaa
open Go.RowKit
set_option linter.unusedVariables false

theorem stored7 {W : World} {t : TypeId} {p : Nat} (h : Blk W p #[.int .i64 0, .int .i64 0, .int .i64 0, .int .i64 0, .int .i64 0, .slice none 0 0, .string ⟨#[]⟩] t) (v0 v1 v2 v3 v4 v5 v6 : Value) {W9 : World}
    (e : W9 = (((((((W.setCell ⟨p, 0, none⟩ v0).setCell ⟨p, 1, none⟩ v1).setCell ⟨p, 2, none⟩ v2).setCell ⟨p, 3, none⟩ v3).setCell ⟨p, 4, none⟩ v4).setCell ⟨p, 5, none⟩ v5).setCell ⟨p, 6, none⟩ v6)) :
    Blk W9 p #[v0, v1, v2, v3, v4, v5, v6] t ∧ (∀ B (u : World), B ≤ p → Below B u W → Below B u W9) ∧ (∀ k, k ≠ p → W9.heap[k]? = W.heap[k]?) ∧ W9.heap.size = W.heap.size := by
  subst e
  refine ⟨((((((h.set 0 v0).set 1 v1).set 2 v2).set 3 v3).set 4 v4).set 5 v5).set 6 v6, fun B u hB hb => ?_, fun k hk => ?_, by simp⟩
  · exact ((((((hb.setCell (p := ⟨p, 0, none⟩) hB _).setCell (p := ⟨p, 1, none⟩) hB _).setCell (p := ⟨p, 2, none⟩) hB _).setCell (p := ⟨p, 3, none⟩) hB _).setCell (p := ⟨p, 4, none⟩) hB _).setCell (p := ⟨p, 5, none⟩) hB _).setCell (p := ⟨p, 6, none⟩) hB _
  · rw [heap_setCell_other _ _ _ _ _ hk, heap_setCell_other _ _ _ _ _ hk, heap_setCell_other _ _ _ _ _ hk, heap_setCell_other _ _ _ _ _ hk, heap_setCell_other _ _ _ _ _ hk, heap_setCell_other _ _ _ _ _ hk, heap_setCell_other _ _ _ _ _ hk]

/-- The table that undoes, at a radius. -/
def undoAt (S R n : Nat) (T : List Int) (q : Nat) : Option (List Int) := undoL S T (2 * q + 1) (S ^ (q + R)) (S ^ (2 * q + 1) * n)
def InvErr (f : Nat) (w : World) (e : Ending) (w' : World) : Prop := e = .returned (.tuple #[.agg #[.int .i64 0, .int .i64 0, .int .i64 0, .int .i64 0, .int .i64 0, .slice none 0 0, .string ⟨#[]⟩], .iface 23 (.int .i64 (f : Int))]) ∧ Below w.heap.size w w'
def InvPost (S R n : Nat) (T : List Int) (w : World) (e : Ending) (w' : World) : Prop :=
  ((∃ q t g, S ^ (2 * q + 1) ≤ 4096 ∧ undoAt S R n T q = some t ∧ (∀ p, p < q → undoAt S R n T p = none) ∧ e = .returned (.tuple #[.agg #[.int .i64 2, .int .i64 0, .int .i64 0, .int .i64 (S : Int), .int .i64 (q : Int), .slice (some ⟨g, 0, none⟩) (S ^ (2 * q + 1)) (S ^ (2 * q + 1)), .string ⟨#[]⟩], .nilIface]) ∧ Cel w' g t ∧ w.heap.size ≤ g) ∨
   ((∀ q, S ^ (2 * q + 1) ≤ 4096 → undoAt S R n T q = none) ∧ e = .returned (.tuple #[.agg #[.int .i64 0, .int .i64 0, .int .i64 0, .int .i64 0, .int .i64 0, .slice none 0 0, .string ⟨#[]⟩], .iface 23 (.int .i64 4)]))) ∧ Below w.heap.size w w'

def InvAll (S R n : Nat) (T : List Int) (w : World) (e : Ending) (w' : World) : Prop := ((∃ u full, IsRing S n T u full) ∧ InvErr 5 w e w') ∨ ((∀ u : Nat × Nat, u.1 ≤ u.2 → u.2 < n → NoRing S n T u) ∧ InvPost S R n T w e w')

set_option maxRecDepth 100000 in
set_option maxHeartbeats 6400000 in
theorem inverse_off (o : Out) (ta : Option Addr) (tn tc : Nat) (w : World) (hR : ArgR w o ta tn tc) (h : ¬ (Good o ∧ o.kind = 2)) :
    Calls Try.prog 14 #[.agg #[.int .i64 o.kind, .int .i64 o.born, .int .i64 o.stay, .int .i64 o.states, .int .i64 o.radius, .slice ta tn tc, .string o.turns]] w (InvErr 1 w) := by
  obtain ⟨w1, hw1⟩ : ∃ w1, (w.alloc (.cells #[.int .i64 o.kind, .int .i64 o.born, .int .i64 o.stay, .int .i64 o.states, .int .i64 o.radius, .slice ta tn tc, .string o.turns] 28)).alloc (.cells #[.int .i64 0, .int .i64 0, .int .i64 0, .int .i64 0, .int .i64 0, .slice none 0 0, .string ⟨#[]⟩] 28) = w1 := ⟨_, rfl⟩
  have s1 : w1.heap.size = w.heap.size + 2 := by rw [← hw1]; simp
  have BB := hide' (show Below w.heap.size w w1 by rw [← hw1]; exact ((Below.refl _ _).alloc (Nat.le_refl _) _).alloc (by simp) _)
  have RX := hide' (show RBo w.heap.size o (.slice ta tn tc) w1 by rw [← hw1]; exact (RBo.new w o _ _).next ((Below.refl _ _).alloc (Nat.le_refl _) _))
  have ZX := hide' (show Blk w1 (w.heap.size + 1) #[.int .i64 0, .int .i64 0, .int .i64 0, .int .i64 0, .int .i64 0, .slice none 0 0, .string ⟨#[]⟩] 28 by rw [← hw1]; have := Blk.new (w.alloc (.cells #[.int .i64 o.kind, .int .i64 o.born, .int .i64 o.stay, .int .i64 o.states, .int .i64 o.radius, .slice ta tn tc, .string o.turns] 28)) #[.int .i64 0, .int .i64 0, .int .i64 0, .int .i64 0, .int .i64 0, .slice none 0 0, .string ⟨#[]⟩] 28; rw [World.size_alloc] at this; exact this)
  have AT := hide' (show ArgR w1 o ta tn tc from hR.below BB.out)
  have HH := hide' h
  clear hR h
  obtain ⟨x0, x1, x2, x3, x4, x5, x6⟩ := RX.out
  go_enter Try.func14, Try.ntmps14
  go_wp2_with fail
  refine (one_off o ta tn tc _ AT.out HH.out).mono ?_
  unfold OneErr
  rintro e w2 ⟨rfl, b⟩
  have B2 := hide' (BB.out.trans (b.mono BB.out.size))
  have ZQ := hide' (ZX.out.of (b.block _ ZX.out.lt))
  clear x0 x1 x2 x3 x4 x5 x6 hw1 b
  have z0 : w2.cell? ⟨w.heap.size + 1, 0, none⟩ = some (.int .i64 0) := ZQ.out.cell 0
  have z1 : w2.cell? ⟨w.heap.size + 1, 1, none⟩ = some (.int .i64 0) := ZQ.out.cell 1
  have z2 : w2.cell? ⟨w.heap.size + 1, 2, none⟩ = some (.int .i64 0) := ZQ.out.cell 2
  have z3 : w2.cell? ⟨w.heap.size + 1, 3, none⟩ = some (.int .i64 0) := ZQ.out.cell 3
  have z4 : w2.cell? ⟨w.heap.size + 1, 4, none⟩ = some (.int .i64 0) := ZQ.out.cell 4
  have z5 : w2.cell? ⟨w.heap.size + 1, 5, none⟩ = some (.slice none 0 0) := ZQ.out.cell 5
  have z6 : w2.cell? ⟨w.heap.size + 1, 6, none⟩ = some (.string ⟨#[]⟩) := ZQ.out.cell 6
  have f0 := ZQ.out.frozen 0
  have f1 := ZQ.out.frozen 1
  have f2 := ZQ.out.frozen 2
  have f3 := ZQ.out.frozen 3
  have f4 := ZQ.out.frozen 4
  have f5 := ZQ.out.frozen 5
  have f6 := ZQ.out.frozen 6
  go_wp2
  obtain ⟨W9, hW9⟩ : ∃ W9, W9 = (((((((w2.setCell ⟨w.heap.size + 1, 0, none⟩ (.int .i64 0)).setCell ⟨w.heap.size + 1, 1, none⟩ (.int .i64 0)).setCell ⟨w.heap.size + 1, 2, none⟩ (.int .i64 0)).setCell ⟨w.heap.size + 1, 3, none⟩ (.int .i64 0)).setCell ⟨w.heap.size + 1, 4, none⟩ (.int .i64 0)).setCell ⟨w.heap.size + 1, 5, none⟩ (.slice none 0 0)).setCell ⟨w.heap.size + 1, 6, none⟩ (.string ⟨#[]⟩)) := ⟨_, rfl⟩
  rw [← hW9]
  have QB := stored7 ZQ.out (.int .i64 0) (.int .i64 0) (.int .i64 0) (.int .i64 0) (.int .i64 0) (.slice none 0 0) (.string ⟨#[]⟩) hW9
  have r0 : W9.cell? ⟨w.heap.size + 1, 0, none⟩ = some (.int .i64 0) := QB.1.cell 0
  have r1 : W9.cell? ⟨w.heap.size + 1, 1, none⟩ = some (.int .i64 0) := QB.1.cell 1
  have r2 : W9.cell? ⟨w.heap.size + 1, 2, none⟩ = some (.int .i64 0) := QB.1.cell 2
  have r3 : W9.cell? ⟨w.heap.size + 1, 3, none⟩ = some (.int .i64 0) := QB.1.cell 3
  have r4 : W9.cell? ⟨w.heap.size + 1, 4, none⟩ = some (.int .i64 0) := QB.1.cell 4
  have r5 : W9.cell? ⟨w.heap.size + 1, 5, none⟩ = some (.slice none 0 0) := QB.1.cell 5
  have r6 : W9.cell? ⟨w.heap.size + 1, 6, none⟩ = some (.string ⟨#[]⟩) := QB.1.cell 6
  refine bodyPost_ret (v := .tuple #[.agg #[.int .i64 0, .int .i64 0, .int .i64 0, .int .i64 0, .int .i64 0, .slice none 0 0, .string ⟨#[]⟩], .iface 23 (.int .i64 1)]) (by simp [results, Try.results14, go_sem, r0, r1, r2, r3, r4, r5, r6]) rfl ?_
  exact ⟨rfl, QB.2.1 _ _ (by omega) B2.out⟩

set_option maxRecDepth 100000 in
set_option maxHeartbeats 6400000 in
theorem inverse_bad (S R : Nat) (T : List Int) (ta : Option Addr) (tn tc : Nat) (w : World) (hL : LineOk S R T) (hT : ArgP w T ta tn tc) (he : askE S R [] ≠ 0) :
    Calls Try.prog 14 #[.agg #[.int .i64 2, .int .i64 0, .int .i64 0, .int .i64 (S : Int), .int .i64 (R : Int), .slice ta tn tc, .string ⟨#[]⟩]] w (InvErr (askE S R []) w) := by
  obtain ⟨w1, hw1⟩ : ∃ w1, (w.alloc (.cells #[.int .i64 2, .int .i64 0, .int .i64 0, .int .i64 (S : Int), .int .i64 (R : Int), .slice ta tn tc, .string ⟨#[]⟩] 28)).alloc (.cells #[.int .i64 0, .int .i64 0, .int .i64 0, .int .i64 0, .int .i64 0, .slice none 0 0, .string ⟨#[]⟩] 28) = w1 := ⟨_, rfl⟩
  have s1 : w1.heap.size = w.heap.size + 2 := by rw [← hw1]; simp
  have BB := hide' (show Below w.heap.size w w1 by rw [← hw1]; exact ((Below.refl _ _).alloc (Nat.le_refl _) _).alloc (by simp) _)
  have RX := hide' (show RB w.heap.size S R (.slice ta tn tc) w1 by rw [← hw1]; exact (RB.new w S R _ _).next ((Below.refl _ _).alloc (Nat.le_refl _) _))
  have ZX := hide' (show Blk w1 (w.heap.size + 1) #[.int .i64 0, .int .i64 0, .int .i64 0, .int .i64 0, .int .i64 0, .slice none 0 0, .string ⟨#[]⟩] 28 by rw [← hw1]; have := Blk.new (w.alloc (.cells #[.int .i64 2, .int .i64 0, .int .i64 0, .int .i64 (S : Int), .int .i64 (R : Int), .slice ta tn tc, .string ⟨#[]⟩] 28)) #[.int .i64 0, .int .i64 0, .int .i64 0, .int .i64 0, .int .i64 0, .slice none 0 0, .string ⟨#[]⟩] 28; rw [World.size_alloc] at this; exact this)
  have AT := hide' (hT.below BB.out)
  have ON := hide' (one_bad S R T ta tn tc w1 hL AT.out he)
  obtain ⟨f, hf⟩ : ∃ f, askE S R [] = f := ⟨_, rfl⟩
  rw [hf] at ON ⊢
  clear hT hL he hf
  obtain ⟨x0, x1, x2, x3, x4, x5, x6⟩ := RX.out
  go_enter Try.func14, Try.ntmps14
  go_wp2_with fail
  refine ON.out.mono ?_
  unfold OneErr
  rintro e w2 ⟨rfl, b⟩
  have B2 := hide' (BB.out.trans (b.mono BB.out.size))
  have ZQ := hide' (ZX.out.of (b.block _ ZX.out.lt))
  clear x0 x1 x2 x3 x4 x5 x6 hw1 b
  have z0 : w2.cell? ⟨w.heap.size + 1, 0, none⟩ = some (.int .i64 0) := ZQ.out.cell 0
  have z1 : w2.cell? ⟨w.heap.size + 1, 1, none⟩ = some (.int .i64 0) := ZQ.out.cell 1
  have z2 : w2.cell? ⟨w.heap.size + 1, 2, none⟩ = some (.int .i64 0) := ZQ.out.cell 2
  have z3 : w2.cell? ⟨w.heap.size + 1, 3, none⟩ = some (.int .i64 0) := ZQ.out.cell 3
  have z4 : w2.cell? ⟨w.heap.size + 1, 4, none⟩ = some (.int .i64 0) := ZQ.out.cell 4
  have z5 : w2.cell? ⟨w.heap.size + 1, 5, none⟩ = some (.slice none 0 0) := ZQ.out.cell 5
  have z6 : w2.cell? ⟨w.heap.size + 1, 6, none⟩ = some (.string ⟨#[]⟩) := ZQ.out.cell 6
  have f0 := ZQ.out.frozen 0
  have f1 := ZQ.out.frozen 1
  have f2 := ZQ.out.frozen 2
  have f3 := ZQ.out.frozen 3
  have f4 := ZQ.out.frozen 4
  have f5 := ZQ.out.frozen 5
  have f6 := ZQ.out.frozen 6
  go_wp2
  obtain ⟨W9, hW9⟩ : ∃ W9, W9 = (((((((w2.setCell ⟨w.heap.size + 1, 0, none⟩ (.int .i64 0)).setCell ⟨w.heap.size + 1, 1, none⟩ (.int .i64 0)).setCell ⟨w.heap.size + 1, 2, none⟩ (.int .i64 0)).setCell ⟨w.heap.size + 1, 3, none⟩ (.int .i64 0)).setCell ⟨w.heap.size + 1, 4, none⟩ (.int .i64 0)).setCell ⟨w.heap.size + 1, 5, none⟩ (.slice none 0 0)).setCell ⟨w.heap.size + 1, 6, none⟩ (.string ⟨#[]⟩)) := ⟨_, rfl⟩
  rw [← hW9]
  have QB := stored7 ZQ.out (.int .i64 0) (.int .i64 0) (.int .i64 0) (.int .i64 0) (.int .i64 0) (.slice none 0 0) (.string ⟨#[]⟩) hW9
  have r0 : W9.cell? ⟨w.heap.size + 1, 0, none⟩ = some (.int .i64 0) := QB.1.cell 0
  have r1 : W9.cell? ⟨w.heap.size + 1, 1, none⟩ = some (.int .i64 0) := QB.1.cell 1
  have r2 : W9.cell? ⟨w.heap.size + 1, 2, none⟩ = some (.int .i64 0) := QB.1.cell 2
  have r3 : W9.cell? ⟨w.heap.size + 1, 3, none⟩ = some (.int .i64 0) := QB.1.cell 3
  have r4 : W9.cell? ⟨w.heap.size + 1, 4, none⟩ = some (.int .i64 0) := QB.1.cell 4
  have r5 : W9.cell? ⟨w.heap.size + 1, 5, none⟩ = some (.slice none 0 0) := QB.1.cell 5
  have r6 : W9.cell? ⟨w.heap.size + 1, 6, none⟩ = some (.string ⟨#[]⟩) := QB.1.cell 6
  refine bodyPost_ret (v := .tuple #[.agg #[.int .i64 0, .int .i64 0, .int .i64 0, .int .i64 0, .int .i64 0, .slice none 0 0, .string ⟨#[]⟩], .iface 23 (.int .i64 (f : Int))]) (by simp [results, Try.results14, go_sem, r0, r1, r2, r3, r4, r5, r6]) rfl ?_
  exact ⟨rfl, QB.2.1 _ _ (by omega) B2.out⟩

set_option maxRecDepth 100000 in
set_option maxHeartbeats 6400000 in
theorem inverse_ok (S R n : Nat) (T : List Int) (ta : Option Addr) (tn tc : Nat) (w : World) (hL : LineOk S R T) (hT : ArgP w T ta tn tc) (he : askE S R [] = 0) (hn : S ^ (2 * R) = n) :
    Calls Try.prog 14 #[.agg #[.int .i64 2, .int .i64 0, .int .i64 0, .int .i64 (S : Int), .int .i64 (R : Int), .slice ta tn tc, .string ⟨#[]⟩]] w (InvAll S R n T w) := by
  obtain ⟨w1, hw1⟩ : ∃ w1, (w.alloc (.cells #[.int .i64 2, .int .i64 0, .int .i64 0, .int .i64 (S : Int), .int .i64 (R : Int), .slice ta tn tc, .string ⟨#[]⟩] 28)).alloc (.cells #[.int .i64 0, .int .i64 0, .int .i64 0, .int .i64 0, .int .i64 0, .slice none 0 0, .string ⟨#[]⟩] 28) = w1 := ⟨_, rfl⟩
  have s1 : w1.heap.size = w.heap.size + 2 := by rw [← hw1]; simp
  have BB := hide' (show Below w.heap.size w w1 by rw [← hw1]; exact ((Below.refl _ _).alloc (Nat.le_refl _) _).alloc (by simp) _)
  have RX := hide' (show RB w.heap.size S R (.slice ta tn tc) w1 by rw [← hw1]; exact (RB.new w S R _ _).next ((Below.refl _ _).alloc (Nat.le_refl _) _))
  have ZX := hide' (show Blk w1 (w.heap.size + 1) #[.int .i64 0, .int .i64 0, .int .i64 0, .int .i64 0, .int .i64 0, .slice none 0 0, .string ⟨#[]⟩] 28 by rw [← hw1]; have := Blk.new (w.alloc (.cells #[.int .i64 2, .int .i64 0, .int .i64 0, .int .i64 (S : Int), .int .i64 (R : Int), .slice ta tn tc, .string ⟨#[]⟩] 28)) #[.int .i64 0, .int .i64 0, .int .i64 0, .int .i64 0, .int .i64 0, .slice none 0 0, .string ⟨#[]⟩] 28; rw [World.size_alloc] at this; exact this)
  have AT := hide' (hT.below BB.out)
  have ON := hide' (one_ok S R n T ta tn tc w1 hL AT.out he hn)
  obtain ⟨h1, h2⟩ := askE_zero he
  obtain ⟨g1, g2, g3⟩ := hL.graph hT.len hn
  rw [hn] at h2
  have s2 := hL.s2
  have s4 := hL.s4
  have UD := hide' (fun (q : Nat) (wr : World) (h : Below w1.heap.size w1 wr) (h1 : S ^ (2 * q + 1) ≤ 4096) (h3 : q ≤ 40) => undoing_any S R n q T ta tn tc wr hL (AT.out.below h) g1 g3 h2 h1 h3)
  have PB6 := hide' (show ∀ q, S ^ (2 * q + 1) ≤ 4096 → q ≤ 6 from fun q h => by
    rcases Nat.lt_or_ge 6 q with c | c
    · have a : 2 ^ 15 ≤ 2 ^ (2 * q + 1) := Nat.pow_le_pow_right (by decide) (by omega)
      have b : 2 ^ (2 * q + 1) ≤ S ^ (2 * q + 1) := Nat.pow_le_pow_left s2 _
      have : (2 : Nat) ^ 15 = 32768 := by decide
      omega
    · exact c)
  clear hT hL he h1 h2 g1 g2 g3 hn
  obtain ⟨x0, x1, x2, x3, x4, x5, x6⟩ := RX.out
  go_enter Try.func14, Try.ntmps14
  go_wp2_with fail
  refine ON.out.mono ?_
  unfold OnePost
  rintro e w2 ⟨hor, b⟩
  have C2 := hide' b
  have B2 := hide' (BB.out.trans (b.mono BB.out.size))
  have ZQ := hide' (ZX.out.of (b.block _ ZX.out.lt))
  clear x0 x1 x2 x3 x4 x5 x6 hw1 b
  rcases hor with ⟨u, full, v1, v2, rfl, o1, o2, ir⟩ | ⟨rfl, hno⟩
  · have IR := hide' ir
    clear o1 o2 ir
    have z0 : w2.cell? ⟨w.heap.size + 1, 0, none⟩ = some (.int .i64 0) := ZQ.out.cell 0
    have z1 : w2.cell? ⟨w.heap.size + 1, 1, none⟩ = some (.int .i64 0) := ZQ.out.cell 1
    have z2 : w2.cell? ⟨w.heap.size + 1, 2, none⟩ = some (.int .i64 0) := ZQ.out.cell 2
    have z3 : w2.cell? ⟨w.heap.size + 1, 3, none⟩ = some (.int .i64 0) := ZQ.out.cell 3
    have z4 : w2.cell? ⟨w.heap.size + 1, 4, none⟩ = some (.int .i64 0) := ZQ.out.cell 4
    have z5 : w2.cell? ⟨w.heap.size + 1, 5, none⟩ = some (.slice none 0 0) := ZQ.out.cell 5
    have z6 : w2.cell? ⟨w.heap.size + 1, 6, none⟩ = some (.string ⟨#[]⟩) := ZQ.out.cell 6
    have f0 := ZQ.out.frozen 0
    have f1 := ZQ.out.frozen 1
    have f2 := ZQ.out.frozen 2
    have f3 := ZQ.out.frozen 3
    have f4 := ZQ.out.frozen 4
    have f5 := ZQ.out.frozen 5
    have f6 := ZQ.out.frozen 6
    go_wp2
    obtain ⟨W9, hW9⟩ : ∃ W9, W9 = (((((((w2.setCell ⟨w.heap.size + 1, 0, none⟩ (.int .i64 0)).setCell ⟨w.heap.size + 1, 1, none⟩ (.int .i64 0)).setCell ⟨w.heap.size + 1, 2, none⟩ (.int .i64 0)).setCell ⟨w.heap.size + 1, 3, none⟩ (.int .i64 0)).setCell ⟨w.heap.size + 1, 4, none⟩ (.int .i64 0)).setCell ⟨w.heap.size + 1, 5, none⟩ (.slice none 0 0)).setCell ⟨w.heap.size + 1, 6, none⟩ (.string ⟨#[]⟩)) := ⟨_, rfl⟩
    rw [← hW9]
    have QB := stored7 ZQ.out (.int .i64 0) (.int .i64 0) (.int .i64 0) (.int .i64 0) (.int .i64 0) (.slice none 0 0) (.string ⟨#[]⟩) hW9
    have r0 : W9.cell? ⟨w.heap.size + 1, 0, none⟩ = some (.int .i64 0) := QB.1.cell 0
    have r1 : W9.cell? ⟨w.heap.size + 1, 1, none⟩ = some (.int .i64 0) := QB.1.cell 1
    have r2 : W9.cell? ⟨w.heap.size + 1, 2, none⟩ = some (.int .i64 0) := QB.1.cell 2
    have r3 : W9.cell? ⟨w.heap.size + 1, 3, none⟩ = some (.int .i64 0) := QB.1.cell 3
    have r4 : W9.cell? ⟨w.heap.size + 1, 4, none⟩ = some (.int .i64 0) := QB.1.cell 4
    have r5 : W9.cell? ⟨w.heap.size + 1, 5, none⟩ = some (.slice none 0 0) := QB.1.cell 5
    have r6 : W9.cell? ⟨w.heap.size + 1, 6, none⟩ = some (.string ⟨#[]⟩) := QB.1.cell 6
    refine bodyPost_ret (v := .tuple #[.agg #[.int .i64 0, .int .i64 0, .int .i64 0, .int .i64 0, .int .i64 0, .slice none 0 0, .string ⟨#[]⟩], .iface 23 (.int .i64 5)]) (by simp [results, Try.results14, go_sem, r0, r1, r2, r3, r4, r5, r6]) rfl ?_
    exact Or.inl ⟨⟨u, full, IR.out⟩, rfl, QB.2.1 _ _ (by omega) B2.out⟩
  · have NO := hide' hno
    clear hno
    obtain ⟨x0, x1, x2, x3, x4, x5, x6⟩ := RX.out.next C2.out
    go_wp2
    clear x0 x1 x2 x3 x4 x5 x6
    go_loopw [8, 9] (fun ev qv wr => ∃ q E : Nat, ev = .int .i64 (E : Int) ∧ qv = .int .i64 (q : Int) ∧ E ≤ 65536 ∧ q ≤ 100 ∧ Hid (E = S ^ (2 * q + 1) ∧ Below w1.heap.size w1 wr ∧ ∀ p, p < q → S ^ (2 * p + 1) ≤ 4096 ∧ undoAt S R n T p = none)) (fun _ qv _ => 200 - (intOf qv).toNat)
    case atStart => exact ⟨0, S, rfl, rfl, by omega, by omega, hide' ⟨by simp, C2.out, fun p hp => by omega⟩⟩
    case round =>
      clear ZQ B2 C2
      obtain ⟨q, E, rfl, rfl, hE, hq, H1⟩ := hrel
      have CW := hide' H1.out.2.1
      obtain ⟨x0, x1, x2, x3, x4, x5, x6⟩ := RX.out.next CW.out
      by_cases d : (E : Int) ≤ 4096
      · have E4 := hide' (show S ^ (2 * q + 1) ≤ 4096 by rw [← H1.out.1]; omega)
        have q6 : q ≤ 6 := PB6.out q E4.out
        have UX := hide' (UD.out q wr CW.out E4.out (by omega))
        rw [← H1.out.1] at UX
        go_wp2_with fail
        refine UX.out.mono ?_
        unfold UndoPost
        rintro e w3 ⟨hor, b3⟩
        have C3 := hide' (CW.out.trans (b3.mono CW.out.size))
        clear x0 x1 x2 x3 x4 x5 x6 UX
        obtain ⟨x0, x1, x2, x3, x4, x5, x6⟩ := RX.out.next C3.out
        rcases hor with ⟨hu, rfl⟩ | ⟨t, g, hu, rfl, ce, hgw⟩
        · obtain ⟨ss, hss⟩ : ∃ y, S * S = y := ⟨_, rfl⟩
          have e1 : (S : Int) * (S : Int) = (ss : Int) := by rw [← hss]; simp
          have ss16 : ss ≤ 16 := by rw [← hss]; exact Nat.mul_le_mul s4 s4
          obtain ⟨E', hE'⟩ : ∃ y, E * ss = y := ⟨_, rfl⟩
          have e2 : (E : Int) * (ss : Int) = (E' : Int) := by rw [← hE']; simp
          have E6 : E' ≤ 65536 := by rw [← hE']; exact Nat.mul_le_mul (by omega : E ≤ 4096) ss16
          have HN := hide' (show E' = S ^ (2 * (q + 1) + 1) ∧ Below w1.heap.size w1 w3 ∧ ∀ p, p < q + 1 → S ^ (2 * p + 1) ≤ 4096 ∧ undoAt S R n T p = none from
            ⟨by rw [← hE', ← hss, H1.out.1, show 2 * (q + 1) + 1 = 2 * q + 1 + 2 by omega, Nat.pow_add S (2 * q + 1) 2, Nat.pow_two], C3.out, fun p hp => by
              by_cases c : p = q
              · subst c
                refine ⟨E4.out, ?_⟩
                unfold undoAt
                rw [H1.out.1] at hu
                exact hu
              · exact H1.out.2.2 p (by omega)⟩)
          clear hss hE' hu b3 H1
          go_wp2
          exact ⟨⟨q + 1, E', rfl, by go_num, by omega, by omega, HN⟩, by simp [intOf]; omega⟩
        · have ZQ := hide' (ZX.out.of (C3.out.block _ ZX.out.lt))
          have CE := hide' ce
          have HU := hide' (show undoAt S R n T q = some t by unfold undoAt; rw [H1.out.1] at hu; exact hu)
          have EE := hide' H1.out.1
          have PN := hide' (fun p hp => (H1.out.2.2 p hp).2)
          have gb : w.heap.size + 2 ≤ g := by have := CW.out.size; omega
          clear ce hu H1 b3
          have z0 : w3.cell? ⟨w.heap.size + 1, 0, none⟩ = some (.int .i64 0) := ZQ.out.cell 0
          have z1 : w3.cell? ⟨w.heap.size + 1, 1, none⟩ = some (.int .i64 0) := ZQ.out.cell 1
          have z2 : w3.cell? ⟨w.heap.size + 1, 2, none⟩ = some (.int .i64 0) := ZQ.out.cell 2
          have z3 : w3.cell? ⟨w.heap.size + 1, 3, none⟩ = some (.int .i64 0) := ZQ.out.cell 3
          have z4 : w3.cell? ⟨w.heap.size + 1, 4, none⟩ = some (.int .i64 0) := ZQ.out.cell 4
          have z5 : w3.cell? ⟨w.heap.size + 1, 5, none⟩ = some (.slice none 0 0) := ZQ.out.cell 5
          have z6 : w3.cell? ⟨w.heap.size + 1, 6, none⟩ = some (.string ⟨#[]⟩) := ZQ.out.cell 6
          have f0 := ZQ.out.frozen 0
          have f1 := ZQ.out.frozen 1
          have f2 := ZQ.out.frozen 2
          have f3 := ZQ.out.frozen 3
          have f4 := ZQ.out.frozen 4
          have f5 := ZQ.out.frozen 5
          have f6 := ZQ.out.frozen 6
          go_wp2
          obtain ⟨W9, hW9⟩ : ∃ W9, W9 = (((((((w3.setCell ⟨w.heap.size + 1, 0, none⟩ (.int .i64 2)).setCell ⟨w.heap.size + 1, 1, none⟩ (.int .i64 0)).setCell ⟨w.heap.size + 1, 2, none⟩ (.int .i64 0)).setCell ⟨w.heap.size + 1, 3, none⟩ (.int .i64 (S : Int))).setCell ⟨w.heap.size + 1, 4, none⟩ (.int .i64 (q : Int))).setCell ⟨w.heap.size + 1, 5, none⟩ (.slice (some ⟨g, 0, none⟩) E E)).setCell ⟨w.heap.size + 1, 6, none⟩ (.string ⟨#[]⟩)) := ⟨_, rfl⟩
          rw [← hW9]
          have QB := stored7 ZQ.out (.int .i64 2) (.int .i64 0) (.int .i64 0) (.int .i64 (S : Int)) (.int .i64 (q : Int)) (.slice (some ⟨g, 0, none⟩) E E) (.string ⟨#[]⟩) hW9
          have r0 : W9.cell? ⟨w.heap.size + 1, 0, none⟩ = some (.int .i64 2) := QB.1.cell 0
          have r1 : W9.cell? ⟨w.heap.size + 1, 1, none⟩ = some (.int .i64 0) := QB.1.cell 1
          have r2 : W9.cell? ⟨w.heap.size + 1, 2, none⟩ = some (.int .i64 0) := QB.1.cell 2
          have r3 : W9.cell? ⟨w.heap.size + 1, 3, none⟩ = some (.int .i64 (S : Int)) := QB.1.cell 3
          have r4 : W9.cell? ⟨w.heap.size + 1, 4, none⟩ = some (.int .i64 (q : Int)) := QB.1.cell 4
          have r5 : W9.cell? ⟨w.heap.size + 1, 5, none⟩ = some (.slice (some ⟨g, 0, none⟩) E E) := QB.1.cell 5
          have r6 : W9.cell? ⟨w.heap.size + 1, 6, none⟩ = some (.string ⟨#[]⟩) := QB.1.cell 6
          refine bodyPost_ret (v := .tuple #[.agg #[.int .i64 2, .int .i64 0, .int .i64 0, .int .i64 (S : Int), .int .i64 (q : Int), .slice (some ⟨g, 0, none⟩) E E, .string ⟨#[]⟩], .nilIface]) (by simp [results, Try.results14, go_sem, r0, r1, r2, r3, r4, r5, r6]) rfl ?_
          exact Or.inr ⟨NO.out, Or.inl ⟨q, t, g, E4.out, HU.out, PN.out, by rw [EE.out], CE.out.block (by rw [QB.2.2.2]; exact Nat.le_refl _) (QB.2.2.1 g (by omega)), by omega⟩, QB.2.1 _ _ (by omega) (BB.out.trans (C3.out.mono BB.out.size))⟩
      · have ZQ := hide' (ZX.out.of (CW.out.block _ ZX.out.lt))
        have ALL := hide' (show ∀ p, S ^ (2 * p + 1) ≤ 4096 → undoAt S R n T p = none from fun p hp => by
          rcases Nat.lt_or_ge p q with c | c
          · exact (H1.out.2.2 p c).2
          · have : S ^ (2 * q + 1) ≤ S ^ (2 * p + 1) := Nat.pow_le_pow_right (by omega) (by omega)
            rw [← H1.out.1] at this
            omega)
        clear H1
        have z0 : wr.cell? ⟨w.heap.size + 1, 0, none⟩ = some (.int .i64 0) := ZQ.out.cell 0
        have z1 : wr.cell? ⟨w.heap.size + 1, 1, none⟩ = some (.int .i64 0) := ZQ.out.cell 1
        have z2 : wr.cell? ⟨w.heap.size + 1, 2, none⟩ = some (.int .i64 0) := ZQ.out.cell 2
        have z3 : wr.cell? ⟨w.heap.size + 1, 3, none⟩ = some (.int .i64 0) := ZQ.out.cell 3
        have z4 : wr.cell? ⟨w.heap.size + 1, 4, none⟩ = some (.int .i64 0) := ZQ.out.cell 4
        have z5 : wr.cell? ⟨w.heap.size + 1, 5, none⟩ = some (.slice none 0 0) := ZQ.out.cell 5
        have z6 : wr.cell? ⟨w.heap.size + 1, 6, none⟩ = some (.string ⟨#[]⟩) := ZQ.out.cell 6
        have f0 := ZQ.out.frozen 0
        have f1 := ZQ.out.frozen 1
        have f2 := ZQ.out.frozen 2
        have f3 := ZQ.out.frozen 3
        have f4 := ZQ.out.frozen 4
        have f5 := ZQ.out.frozen 5
        have f6 := ZQ.out.frozen 6
        go_wp2
        obtain ⟨W9, hW9⟩ : ∃ W9, W9 = (((((((wr.setCell ⟨w.heap.size + 1, 0, none⟩ (.int .i64 0)).setCell ⟨w.heap.size + 1, 1, none⟩ (.int .i64 0)).setCell ⟨w.heap.size + 1, 2, none⟩ (.int .i64 0)).setCell ⟨w.heap.size + 1, 3, none⟩ (.int .i64 0)).setCell ⟨w.heap.size + 1, 4, none⟩ (.int .i64 0)).setCell ⟨w.heap.size + 1, 5, none⟩ (.slice none 0 0)).setCell ⟨w.heap.size + 1, 6, none⟩ (.string ⟨#[]⟩)) := ⟨_, rfl⟩
        rw [← hW9]
        have QB := stored7 ZQ.out (.int .i64 0) (.int .i64 0) (.int .i64 0) (.int .i64 0) (.int .i64 0) (.slice none 0 0) (.string ⟨#[]⟩) hW9
        have r0 : W9.cell? ⟨w.heap.size + 1, 0, none⟩ = some (.int .i64 0) := QB.1.cell 0
        have r1 : W9.cell? ⟨w.heap.size + 1, 1, none⟩ = some (.int .i64 0) := QB.1.cell 1
        have r2 : W9.cell? ⟨w.heap.size + 1, 2, none⟩ = some (.int .i64 0) := QB.1.cell 2
        have r3 : W9.cell? ⟨w.heap.size + 1, 3, none⟩ = some (.int .i64 0) := QB.1.cell 3
        have r4 : W9.cell? ⟨w.heap.size + 1, 4, none⟩ = some (.int .i64 0) := QB.1.cell 4
        have r5 : W9.cell? ⟨w.heap.size + 1, 5, none⟩ = some (.slice none 0 0) := QB.1.cell 5
        have r6 : W9.cell? ⟨w.heap.size + 1, 6, none⟩ = some (.string ⟨#[]⟩) := QB.1.cell 6
        refine bodyPost_ret (v := .tuple #[.agg #[.int .i64 0, .int .i64 0, .int .i64 0, .int .i64 0, .int .i64 0, .slice none 0 0, .string ⟨#[]⟩], .iface 23 (.int .i64 4)]) (by simp [results, Try.results14, go_sem, r0, r1, r2, r3, r4, r5, r6]) rfl ?_
        exact Or.inr ⟨NO.out, Or.inr ⟨ALL.out, rfl⟩, QB.2.1 _ _ (by omega) (BB.out.trans (CW.out.mono BB.out.size))⟩
end Go.Proofs.Ytdhbdkkchobinaa

