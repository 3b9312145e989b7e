/-
  What the last text of this claim leans on, part 9: Pr7, Pr8, Pr9, Pr10, Pr11, Pr12, Pr13, Pr14, Li5.
-/
import Derived.Test.YtdhbdkkchobinaaDoorJd8
import Derived.Test.YtdhbdkkchobinaaDoorShelf
import Derived.Test.YtdhbdkkchobinaaDoorJd2
import Derived.Test.YtdhbdkkchobinaaDoorJd3
import Derived.Test.YtdhbdkkchobinaaDoorJd7
import Derived.WalkSmall
import Derived.Deep.RegionWith
import Derived.Lib.ItoaLen
import Derived.Deep.RegionHeld3
import Derived.Deep.CutRange
namespace Go.Proofs.YtdhbdkkchobinaaDoor
open Go.RowKit
set_option linter.unusedVariables false

/-- The library's table of powers reads as it is written. -/
def PowT (w : World) : Prop := Lib.TabIs Tryd.prog w "internal/strconv.uint64pow10" .u64 Lib.pow10Tab
theorem powAt : Tryd.prog.globalNamed "internal/strconv.uint64pow10" = some 1 := by kernel_rfl
theorem PowT.lt {w : World} (h : PowT w) : 1 < w.heap.size := by
  unfold PowT Lib.TabIs World.var? at h
  simp only [powAt, Option.bind_some] at h
  rcases Nat.lt_or_ge 1 w.heap.size with q | q
  · exact q
  · rw [Array.getElem?_eq_none q] at h; cases h
theorem PowT.below {w w' : World} (h : PowT w) (hb : Below w.heap.size w w') : PowT w' := var?_below hb powAt h.lt h
end Go.Proofs.YtdhbdkkchobinaaDoor

namespace Go.Proofs.YtdhbdkkchobinaaDoor
open Go.RowKit
set_option linter.unusedVariables false

/-- The rule's copy lies at block b with these fields, and nothing older has turned. -/
def SL (w : World) (o : Out) (v : Value) (w' : World) : Prop :=
  w'.cell? ⟨w.heap.size, 3, none⟩ = some (.int .i64 o.states) ∧ w'.cell? ⟨w.heap.size, 4, none⟩ = some (.int .i64 o.radius) ∧ w'.cell? ⟨w.heap.size, 5, none⟩ = some v ∧ Hid (w.heap.size + 1 ≤ w'.heap.size ∧ Below w.heap.size w w')
theorem SL.next {w w1 w2 : World} {o : Out} {v : Value} (h : SL w o v w1) (hb : Below w1.heap.size w1 w2) : SL w o v w2 := by
  obtain ⟨h1, h2, h3, h4⟩ := h
  obtain ⟨h4, h5⟩ := h4.out
  have e : ∀ k, w2.cell? ⟨w.heap.size, k, none⟩ = w1.cell? ⟨w.heap.size, k, none⟩ := fun k =>
    World.cell?_of_block (w := w1) (a := ⟨w.heap.size, k, none⟩) (hb.block w.heap.size (by omega))
  exact ⟨(e 3).trans h1, (e 4).trans h2, (e 5).trans h3, hide' ⟨Nat.le_trans h4 hb.size, h5.trans (hb.mono (by omega))⟩⟩
theorem SL.start (w : World) (o : Out) (a : Option Addr) (n c : Nat) : SL w o (.slice a n c) ((w.alloc (.cells #[.int .i64 o.kind, .int .i64 o.born, .int .i64 o.stay, .int .i64 o.states, .int .i64 o.radius, .slice a n c, .string o.turns] 24)).drew) := by
  refine ⟨cell_all_new _ _ _ _, cell_all_new _ _ _ _, cell_all_new _ _ _ _, hide' ⟨?_, ((Below.refl _ _).alloc (Nat.le_refl _) _).drew⟩⟩
  simp

end Go.Proofs.YtdhbdkkchobinaaDoor

namespace Go.Proofs.YtdhbdkkchobinaaDoor
open Go.RowKit
set_option linter.unusedVariables false

/-- Two fields of the rule's copy, and nothing older has turned. -/
def SB (w : World) (o : Out) (w' : World) : Prop :=
  w'.cell? ⟨w.heap.size, 1, none⟩ = some (.int .i64 o.born) ∧ w'.cell? ⟨w.heap.size, 2, none⟩ = some (.int .i64 o.stay) ∧ Hid (w.heap.size + 1 ≤ w'.heap.size ∧ Below w.heap.size w w')
theorem SB.next {w w1 w2 : World} {o : Out} (h : SB w o w1) (hb : Below w1.heap.size w1 w2) : SB w o w2 := by
  obtain ⟨h1, h2, h4⟩ := h
  obtain ⟨h4, h5⟩ := h4.out
  have e : ∀ k, w2.cell? ⟨w.heap.size, k, none⟩ = w1.cell? ⟨w.heap.size, k, none⟩ := fun k =>
    World.cell?_of_block (w := w1) (a := ⟨w.heap.size, k, none⟩) (hb.block w.heap.size (by omega))
  exact ⟨(e 1).trans h1, (e 2).trans h2, hide' ⟨Nat.le_trans h4 hb.size, h5.trans (hb.mono (by omega))⟩⟩

end Go.Proofs.YtdhbdkkchobinaaDoor

namespace Go.Proofs.YtdhbdkkchobinaaDoor
open Go.RowKit
set_option linter.unusedVariables false

end Go.Proofs.YtdhbdkkchobinaaDoor

namespace Go.Proofs.YtdhbdkkchobinaaDoor
open Go.RowKit
set_option linter.unusedVariables false

end Go.Proofs.YtdhbdkkchobinaaDoor

namespace Go.Proofs.YtdhbdkkchobinaaDoor
open Go.RowKit
set_option linter.unusedVariables false

end Go.Proofs.YtdhbdkkchobinaaDoor

namespace Go.Proofs.YtdhbdkkchobinaaDoor
open Go.RowKit
set_option linter.unusedVariables false

end Go.Proofs.YtdhbdkkchobinaaDoor

namespace Go.Proofs.YtdhbdkkchobinaaDoor
open Go.RowKit
set_option linter.unusedVariables false

theorem ent_small : ∀ n, n < 5 → ∀ m, m < 11 → entOf n m ≤ 4096 → 2 ≤ n → entOf n m = n ^ (2 * m + 1) := by decide +kernel
theorem ent_is (n m : Nat) (hn : 2 ≤ n) (hn' : n ≤ 4) (h : entOf n m ≤ 4096) : entOf n m = n ^ (2 * m + 1) ∧ m ≤ 10 := by
  by_cases hm : m ≤ 10
  · exact ⟨ent_small n (by omega) m (by omega) h hn, hm⟩
  · have := ent_far n m hn hn' (by omega)
    omega
end Go.Proofs.YtdhbdkkchobinaaDoor

namespace Go.Proofs.YtdhbdkkchobinaaDoor
open Go.RowKit
set_option linter.unusedVariables false

theorem empty_bytes (t : ByteArray) (h : t.toList.isEmpty = true) : t = ⟨#[]⟩ := by
  rcases Nat.eq_zero_or_pos t.size with q | q
  · apply ByteArray.ext
    exact Array.eq_empty_of_size_eq_zero q
  · rw [not_empty q] at h
    cases h
/-- A rule of a line in its one form. -/
theorem good_line (o : Out) (h : Good o) (hk : o.kind = 2) : ∃ S R : Nat, o = ⟨2, 0, 0, (S : Int), (R : Int), o.table, ⟨#[]⟩⟩ ∧ LineOk S R o.table := by
  rcases h with h | h | h
  · omega
  · obtain ⟨-, ⟨h1, h2, h3, h4, h5, h6⟩, h7, h8⟩ := h
    unfold noLifeB at h7
    simp at h7
    have e := ent_is o.states.toNat o.radius.toNat (by omega) (by omega) h4
    refine ⟨o.states.toNat, o.radius.toNat, ?_, by omega, by omega, e.2, by rw [h5, e.1], by omega, fun x hx => ?_⟩
    · obtain ⟨k, b, s, st, r, t, tu⟩ := o
      dsimp only at hk h1 h2 h3 h7 h8 ⊢
      rw [empty_bytes tu h8]
      rw [show ((st.toNat : Nat) : Int) = st by omega, show ((r.toNat : Nat) : Int) = r by omega]
      rw [hk, h7.1, h7.2]
    · obtain ⟨k, hk, rfl⟩ := List.getElem_of_mem hx
      have := h6 k hk
      omega
  · omega
theorem ent_of_small : ∀ n, n < 5 → ∀ m, m < 11 → 2 ≤ n → n ^ (2 * m + 1) ≤ 4096 → entOf n m = n ^ (2 * m + 1) := by decide +kernel
theorem ent_of (n m : Nat) (h2 : 2 ≤ n) (h4 : n ≤ 4) (hm : m ≤ 10) (h : n ^ (2 * m + 1) ≤ 4096) : entOf n m = n ^ (2 * m + 1) := ent_of_small n (by omega) m (by omega) h2 h
theorem empty_none : (⟨#[]⟩ : ByteArray).toList.isEmpty = true := by decide +kernel
theorem line_good {S R : Nat} {T : List Int} (h : LineOk S R T) : Good ⟨2, 0, 0, (S : Int), (R : Int), T, ⟨#[]⟩⟩ := by
  have s2 := h.s2
  have s4 := h.s4
  have e : entOf S R = S ^ (2 * R + 1) := by
    have := h.max
    have hl := h.len
    exact ent_of S R s2 s4 h.r10 (by omega)
  refine Or.inr (Or.inl ⟨rfl, ⟨?_, ?_, ?_, ?_, ?_, fun k hk => h.ok _ (List.getElem_mem hk)⟩, rfl, empty_none⟩)
  · show (2 : Int) ≤ (S : Int); omega
  · show (S : Int) ≤ 4; omega
  · show (0 : Int) ≤ (R : Int); omega
  · show entOf ((S : Int)).toNat ((R : Int)).toNat ≤ 4096
    rw [Int.toNat_natCast, Int.toNat_natCast, e, ← h.len]; exact h.max
  · show T.length = entOf ((S : Int)).toNat ((R : Int)).toNat
    rw [Int.toNat_natCast, Int.toNat_natCast, e, ← h.len]
def okB (S : Nat) (ws : List Int) : Bool := ws.all fun x => decide (0 ≤ x) && decide (x < (S : Int))
theorem okB_iff (S : Nat) (ws : List Int) : okB S ws = true ↔ cellsOk S ws := by
  unfold okB cellsOk
  rw [List.all_eq_true]
  constructor
  · intro h x hx; have := h x hx; simp at this; exact this
  · intro h x hx; have := h x hx; simp; exact this
def wordE (S : Nat) (ws : List Int) : Nat := if 1000 < ws.length then 4 else if okB S ws then 0 else 1
theorem wordE_full {S : Nat} {ws : List Int} (h : 1000 < ws.length) : wordE S ws = 4 := by unfold wordE; rw [if_pos h]
theorem wordE_ok {S : Nat} {ws : List Int} (h : ¬ 1000 < ws.length) (hk : cellsOk S ws) : wordE S ws = 0 := by unfold wordE; rw [if_neg h, if_pos ((okB_iff S ws).2 hk)]
theorem wordE_bad {S : Nat} {ws : List Int} (h : ¬ 1000 < ws.length) (hk : ¬ cellsOk S ws) : wordE S ws = 1 := by unfold wordE; rw [if_neg h, if_neg (fun q => hk ((okB_iff S ws).1 q))]
theorem wordE_zero {S : Nat} {ws : List Int} (h : wordE S ws = 0) : ws.length ≤ 1000 ∧ cellsOk S ws := by
  unfold wordE at h
  split at h
  · cases h
  · split at h
    · rename_i q; exact ⟨by omega, (okB_iff S ws).1 q⟩
    · cases h

theorem ArgP.rule {w : World} {S R : Nat} {T : List Int} {a : Option Addr} {n c : Nat} (h : ArgP w T a n c) (hR : R ≤ 10) : ArgR w ⟨2, 0, 0, (S : Int), (R : Int), T, ⟨#[]⟩⟩ a n c :=
  ⟨h.len, h.max, by show (0 : Nat) ≤ maxLen; unfold maxLen; omega, h.cells, by show (R : Int) ≤ _; omega⟩
theorem rulesCheck_line (S R : Nat) (T : List Int) (a : Option Addr) (n c : Nat) (w : World) (hL : LineOk S R T) (hT : ArgP w T a n c) :
    Calls Tryd.prog 23 #[.agg #[.int .i64 2, .int .i64 0, .int .i64 0, .int .i64 (S : Int), .int .i64 (R : Int), .slice a n c, .string ⟨#[]⟩]] w fun e w' => e = .returned .nilIface ∧ Below w.heap.size w w' :=
  (Check_any ⟨2, 0, 0, (S : Int), (R : Int), T, ⟨#[]⟩⟩ a n c w (hT.rule hL.r10)).mono fun e w' ⟨h, hb⟩ => by
    rcases h with ⟨h, -⟩ | ⟨-, h⟩
    · exact ⟨h, hb⟩
    · exact absurd (line_good hL) h
theorem refFault_line (S R : Nat) (T : List Int) (a : Option Addr) (n c : Nat) (w : World) (hL : LineOk S R T) (hT : ArgP w T a n c) :
    Calls Tryd.prog 22 #[.agg #[.int .i64 2, .int .i64 0, .int .i64 0, .int .i64 (S : Int), .int .i64 (R : Int), .slice a n c, .string ⟨#[]⟩]] w fun e w' => e = .returned (.int .i64 0) ∧ Below w.heap.size w w' :=
  (Fault_any ⟨2, 0, 0, (S : Int), (R : Int), T, ⟨#[]⟩⟩ a n c w (hT.rule hL.r10)).mono fun e w' ⟨h, hb⟩ => by
    rcases h with ⟨h, -⟩ | ⟨-, h⟩
    · exact ⟨h, hb⟩
    · exact absurd (line_good hL) h

set_option maxHeartbeats 800000 in
theorem checkRule_line (S R : Nat) (T : List Int) (a : Option Addr) (n c : Nat) (w : World) (hL : LineOk S R T) (hT : ArgP w T a n c) :
    Calls Tryd.prog 129 #[.agg #[.int .i64 2, .int .i64 0, .int .i64 0, .int .i64 (S : Int), .int .i64 (R : Int), .slice a n c, .string ⟨#[]⟩]] w fun e w' => e = .returned .nilIface ∧ Below w.heap.size w w' := by
  obtain ⟨w1, hw1⟩ : ∃ w1, w.alloc (.cells #[.int .i64 2, .int .i64 0, .int .i64 0, .int .i64 (S : Int), .int .i64 (R : Int), .slice a n c, .string ⟨#[]⟩] 24) = w1 := ⟨_, rfl⟩
  have RX := hide' (show RB w.heap.size S R (.slice a n c) w1 by rw [← hw1]; exact RB.new w S R _ _)
  have AT := hide' (show ArgP w1 T a n c by rw [← hw1]; exact hT.alloc _)
  have BB := hide' (show Below w.heap.size w w1 by rw [← hw1]; exact (Below.refl _ _).alloc (Nat.le_refl _) _)
  have HL := hide' hL
  clear hT hL
  obtain ⟨x0, x1, x2, x3, x4, x5, x6⟩ := RX.out
  go_enter Tryd.func129, Tryd.ntmps129
  go_wp2_with fail
  refine (rulesCheck_line S R T a n c _ HL.out AT.out).mono ?_
  rintro e w2 ⟨rfl, b2⟩
  have B2 := hide' (BB.out.trans (b2.mono BB.out.size))
  clear x0 x1 x2 x3 x4 x5 x6 hw1
  obtain ⟨x0, x1, x2, x3, x4, x5, x6⟩ := RX.out.next b2
  clear b2
  go_wp2
  go_ret
  exact ⟨rfl, B2.out⟩

/-- Any rule in a box. -/
structure RBo (p : Nat) (o : Out) (v : Value) (w : World) : Prop where
  c0 : w.cell? ⟨p, 0, none⟩ = some (.int .i64 o.kind)
  c1 : w.cell? ⟨p, 1, none⟩ = some (.int .i64 o.born)
  c2 : w.cell? ⟨p, 2, none⟩ = some (.int .i64 o.stay)
  c3 : w.cell? ⟨p, 3, none⟩ = some (.int .i64 o.states)
  c4 : w.cell? ⟨p, 4, none⟩ = some (.int .i64 o.radius)
  c5 : w.cell? ⟨p, 5, none⟩ = some v
  c6 : w.cell? ⟨p, 6, none⟩ = some (.string o.turns)
theorem RBo.lt {p : Nat} {o : Out} {v : Value} {w : World} (h : RBo p o v w) : p < w.heap.size := by
  rcases Nat.lt_or_ge p w.heap.size with k | k
  · exact k
  · have := h.c0; simp [World.cell?, Array.getElem?_eq_none k] at this
theorem RBo.block {p : Nat} {o : Out} {v : Value} {w w' : World} (h : RBo p o v w) (e : w'.heap[p]? = w.heap[p]?) : RBo p o v w' :=
  ⟨(World.cell?_of_block (w := w) (a := ⟨p, 0, none⟩) e).trans h.c0, (World.cell?_of_block (w := w) (a := ⟨p, 1, none⟩) e).trans h.c1, (World.cell?_of_block (w := w) (a := ⟨p, 2, none⟩) e).trans h.c2, (World.cell?_of_block (w := w) (a := ⟨p, 3, none⟩) e).trans h.c3, (World.cell?_of_block (w := w) (a := ⟨p, 4, none⟩) e).trans h.c4, (World.cell?_of_block (w := w) (a := ⟨p, 5, none⟩) e).trans h.c5, (World.cell?_of_block (w := w) (a := ⟨p, 6, none⟩) e).trans h.c6⟩
theorem RBo.next {p : Nat} {o : Out} {v : Value} {w w' : World} (h : RBo p o v w) (hb : Below w.heap.size w w') : RBo p o v w' := h.block (hb.block p h.lt)
theorem RBo.new (w : World) (o : Out) (v : Value) (t : TypeId) : RBo w.heap.size o v (w.alloc (.cells #[.int .i64 o.kind, .int .i64 o.born, .int .i64 o.stay, .int .i64 o.states, .int .i64 o.radius, v, .string o.turns] t)) :=
  ⟨by rw [World.cell?_alloc_at _ _ _ _ rfl]; rfl, by rw [World.cell?_alloc_at _ _ _ _ rfl]; rfl, by rw [World.cell?_alloc_at _ _ _ _ rfl]; rfl, by rw [World.cell?_alloc_at _ _ _ _ rfl]; rfl, by rw [World.cell?_alloc_at _ _ _ _ rfl]; rfl, by rw [World.cell?_alloc_at _ _ _ _ rfl]; rfl, by rw [World.cell?_alloc_at _ _ _ _ rfl]; rfl⟩

set_option maxHeartbeats 800000 in
theorem checkRule_off (o : Out) (a : Option Addr) (n c : Nat) (w : World) (hR : ArgR w o a n c) (h : ¬ (Good o ∧ o.kind = 2)) :
    Calls Tryd.prog 129 #[.agg #[.int .i64 o.kind, .int .i64 o.born, .int .i64 o.stay, .int .i64 o.states, .int .i64 o.radius, .slice a n c, .string o.turns]] w fun e w' => e = .returned (.iface 103 (.int .i64 1)) ∧ Below w.heap.size w w' := by
  obtain ⟨w1, hw1⟩ : ∃ w1, w.alloc (.cells #[.int .i64 o.kind, .int .i64 o.born, .int .i64 o.stay, .int .i64 o.states, .int .i64 o.radius, .slice a n c, .string o.turns] 24) = w1 := ⟨_, rfl⟩
  have AT := hide' (show ArgR w1 o a n c by rw [← hw1]; exact hR.alloc _)
  have BB := hide' (show Below w.heap.size w w1 by rw [← hw1]; exact (Below.refl _ _).alloc (Nat.le_refl _) _)
  have RX := hide' (show RBo w.heap.size o (.slice a n c) w1 by rw [← hw1]; exact RBo.new w o _ _)
  have HH := hide' h
  clear hR h
  obtain ⟨x0, x1, x2, x3, x4, x5, x6⟩ := RX.out
  go_enter Tryd.func129, Tryd.ntmps129
  go_wp2_with fail
  refine (Check_any o a n c _ AT.out).mono ?_
  rintro e w2 ⟨(⟨rfl, hg⟩ | ⟨rfl, hg⟩), b2⟩
  · have k2 : (o.kind != 2) = true := by simp; exact fun q => HH.out ⟨hg, q⟩
    have B2 := hide' (BB.out.trans (b2.mono BB.out.size))
    clear x0 x1 x2 x3 x4 x5 x6 hw1
    obtain ⟨x0, x1, x2, x3, x4, x5, x6⟩ := RX.out.next b2
    have HG := hide' hg
    clear b2 hg
    go_wp2
    go_ret
    exact ⟨rfl, B2.out⟩
  · have B2 := hide' (BB.out.trans (b2.mono BB.out.size))
    have HG := hide' hg
    clear x0 x1 x2 x3 x4 x5 x6 b2 hg hw1
    go_wp2
    go_ret
    exact ⟨rfl, B2.out⟩

set_option maxHeartbeats 800000 in
theorem lineCheck_off (o : Out) (a : Option Addr) (n c : Nat) (v : Value) (w : World) (hR : ArgR w o a n c) (h : ¬ (Good o ∧ o.kind = 2)) :
    Calls Tryd.prog 122 #[.agg #[.int .i64 o.kind, .int .i64 o.born, .int .i64 o.stay, .int .i64 o.states, .int .i64 o.radius, .slice a n c, .string o.turns], v] w fun e w' => e = .returned (.iface 103 (.int .i64 1)) ∧ Below w.heap.size w w' := by
  obtain ⟨w1, hw1⟩ : ∃ w1, w.alloc (.cells #[.int .i64 o.kind, .int .i64 o.born, .int .i64 o.stay, .int .i64 o.states, .int .i64 o.radius, .slice a n c, .string o.turns] 24) = w1 := ⟨_, rfl⟩
  have AT := hide' (show ArgR w1 o a n c by rw [← hw1]; exact hR.alloc _)
  have BB := hide' (show Below w.heap.size w w1 by rw [← hw1]; exact (Below.refl _ _).alloc (Nat.le_refl _) _)
  have RX := hide' (show RBo w.heap.size o (.slice a n c) w1 by rw [← hw1]; exact RBo.new w o _ _)
  have HH := hide' h
  clear hR h
  obtain ⟨x0, x1, x2, x3, x4, x5, x6⟩ := RX.out
  go_enter Tryd.func122, Tryd.ntmps122
  go_wp2_with fail
  refine (checkRule_off o a n c _ AT.out HH.out).mono ?_
  rintro e w2 ⟨rfl, b2⟩
  have B2 := hide' (BB.out.trans (b2.mono BB.out.size))
  clear x0 x1 x2 x3 x4 x5 x6 b2 hw1
  go_wp2
  go_ret
  exact ⟨rfl, B2.out⟩

set_option maxHeartbeats 800000 in
theorem lineFault_off (o : Out) (a : Option Addr) (n c : Nat) (v : Value) (w : World) (hR : ArgR w o a n c) (h : ¬ (Good o ∧ o.kind = 2)) :
    Calls Tryd.prog 31 #[.agg #[.int .i64 o.kind, .int .i64 o.born, .int .i64 o.stay, .int .i64 o.states, .int .i64 o.radius, .slice a n c, .string o.turns], v] w fun e w' => e = .returned (.int .i64 1) ∧ Below w.heap.size w w' := by
  obtain ⟨w1, hw1⟩ : ∃ w1, w.alloc (.cells #[.int .i64 o.kind, .int .i64 o.born, .int .i64 o.stay, .int .i64 o.states, .int .i64 o.radius, .slice a n c, .string o.turns] 24) = w1 := ⟨_, rfl⟩
  have AT := hide' (show ArgR w1 o a n c by rw [← hw1]; exact hR.alloc _)
  have BB := hide' (show Below w.heap.size w w1 by rw [← hw1]; exact (Below.refl _ _).alloc (Nat.le_refl _) _)
  have RX := hide' (show RBo w.heap.size o (.slice a n c) w1 by rw [← hw1]; exact RBo.new w o _ _)
  have HH := hide' h
  clear hR h
  obtain ⟨x0, x1, x2, x3, x4, x5, x6⟩ := RX.out
  go_enter Tryd.func31, Tryd.ntmps31
  go_wp2_with fail
  refine (Fault_any o a n c _ AT.out).mono ?_
  rintro e w2 ⟨(⟨rfl, hg⟩ | ⟨rfl, hg⟩), b2⟩
  · have k2 : (o.kind != 2) = true := by simp; exact fun q => HH.out ⟨hg, q⟩
    have B2 := hide' (BB.out.trans (b2.mono BB.out.size))
    clear x0 x1 x2 x3 x4 x5 x6 hw1
    obtain ⟨x0, x1, x2, x3, x4, x5, x6⟩ := RX.out.next b2
    have HG := hide' hg
    clear b2 hg
    go_wp2
    go_ret
    exact ⟨rfl, B2.out⟩
  · have B2 := hide' (BB.out.trans (b2.mono BB.out.size))
    have HG := hide' hg
    clear x0 x1 x2 x3 x4 x5 x6 b2 hg hw1
    go_wp2
    go_ret
    exact ⟨rfl, B2.out⟩
end Go.Proofs.YtdhbdkkchobinaaDoor

