/-
  What the last text of this claim leans on, part 9: Li5, Li6, Li8.
-/
import Derived.Test.YtjjdjdodhedihaaDoorJl3
import Derived.Test.YtjjdjdodhedihaaDoorJl7
import Derived.Test.YtjjdjdodhedihaaDoorJl8
namespace Go.Proofs.YtjjdjdodhedihaaDoor
open Go.RowKit
set_option linter.unusedVariables false

theorem empty_bytes (t : ByteArray) (h : t.toList.isEmpty = true) : t = ⟨#[]⟩ := by
  rcases Nat.eq_zero_or_pos t.size with q | q
  · apply ByteArray.ext
    exact Array.eq_empty_of_size_eq_zero q
  · rw [not_empty q] at h
    cases h
/-- A rule of a line in its one form. -/
theorem good_line (o : Out) (h : Good o) (hk : o.kind = 2) : ∃ S R : Nat, o = ⟨2, 0, 0, (S : Int), (R : Int), o.table, ⟨#[]⟩⟩ ∧ LineOk S R o.table := by
  rcases h with h | h | h
  · omega
  · obtain ⟨-, ⟨h1, h2, h3, h4, h5, h6⟩, h7, h8⟩ := h
    unfold noLifeB at h7
    simp at h7
    have e := ent_is o.states.toNat o.radius.toNat (by omega) (by omega) h4
    refine ⟨o.states.toNat, o.radius.toNat, ?_, by omega, by omega, e.2, by rw [h5, e.1], by omega, fun x hx => ?_⟩
    · obtain ⟨k, b, s, st, r, t, tu⟩ := o
      dsimp only at hk h1 h2 h3 h7 h8 ⊢
      rw [empty_bytes tu h8]
      rw [show ((st.toNat : Nat) : Int) = st by omega, show ((r.toNat : Nat) : Int) = r by omega]
      rw [hk, h7.1, h7.2]
    · obtain ⟨k, hk, rfl⟩ := List.getElem_of_mem hx
      have := h6 k hk
      omega
  · omega
theorem ent_of_small : ∀ n, n < 5 → ∀ m, m < 11 → 2 ≤ n → n ^ (2 * m + 1) ≤ 4096 → entOf n m = n ^ (2 * m + 1) := by decide +kernel
theorem ent_of (n m : Nat) (h2 : 2 ≤ n) (h4 : n ≤ 4) (hm : m ≤ 10) (h : n ^ (2 * m + 1) ≤ 4096) : entOf n m = n ^ (2 * m + 1) := ent_of_small n (by omega) m (by omega) h2 h
theorem empty_none : (⟨#[]⟩ : ByteArray).toList.isEmpty = true := by decide +kernel
theorem line_good {S R : Nat} {T : List Int} (h : LineOk S R T) : Good ⟨2, 0, 0, (S : Int), (R : Int), T, ⟨#[]⟩⟩ := by
  have s2 := h.s2
  have s4 := h.s4
  have e : entOf S R = S ^ (2 * R + 1) := by
    have := h.max
    have hl := h.len
    exact ent_of S R s2 s4 h.r10 (by omega)
  refine Or.inr (Or.inl ⟨rfl, ⟨?_, ?_, ?_, ?_, ?_, fun k hk => h.ok _ (List.getElem_mem hk)⟩, rfl, empty_none⟩)
  · show (2 : Int) ≤ (S : Int); omega
  · show (S : Int) ≤ 4; omega
  · show (0 : Int) ≤ (R : Int); omega
  · show entOf ((S : Int)).toNat ((R : Int)).toNat ≤ 4096
    rw [Int.toNat_natCast, Int.toNat_natCast, e, ← h.len]; exact h.max
  · show T.length = entOf ((S : Int)).toNat ((R : Int)).toNat
    rw [Int.toNat_natCast, Int.toNat_natCast, e, ← h.len]
def okB (S : Nat) (ws : List Int) : Bool := ws.all fun x => decide (0 ≤ x) && decide (x < (S : Int))
theorem okB_iff (S : Nat) (ws : List Int) : okB S ws = true ↔ cellsOk S ws := by
  unfold okB cellsOk
  rw [List.all_eq_true]
  constructor
  · intro h x hx; have := h x hx; simp at this; exact this
  · intro h x hx; have := h x hx; simp; exact this
def wordE (S : Nat) (ws : List Int) : Nat := if 1000 < ws.length then 4 else if okB S ws then 0 else 1
theorem wordE_full {S : Nat} {ws : List Int} (h : 1000 < ws.length) : wordE S ws = 4 := by unfold wordE; rw [if_pos h]
theorem wordE_ok {S : Nat} {ws : List Int} (h : ¬ 1000 < ws.length) (hk : cellsOk S ws) : wordE S ws = 0 := by unfold wordE; rw [if_neg h, if_pos ((okB_iff S ws).2 hk)]
theorem wordE_bad {S : Nat} {ws : List Int} (h : ¬ 1000 < ws.length) (hk : ¬ cellsOk S ws) : wordE S ws = 1 := by unfold wordE; rw [if_neg h, if_neg (fun q => hk ((okB_iff S ws).1 q))]
theorem wordE_zero {S : Nat} {ws : List Int} (h : wordE S ws = 0) : ws.length ≤ 1000 ∧ cellsOk S ws := by
  unfold wordE at h
  split at h
  · cases h
  · split at h
    · rename_i q; exact ⟨by omega, (okB_iff S ws).1 q⟩
    · cases h

theorem ArgP.rule {w : World} {S R : Nat} {T : List Int} {a : Option Addr} {n c : Nat} (h : ArgP w T a n c) (hR : R ≤ 10) : ArgR w ⟨2, 0, 0, (S : Int), (R : Int), T, ⟨#[]⟩⟩ a n c :=
  ⟨h.len, h.max, by show (0 : Nat) ≤ maxLen; unfold maxLen; omega, h.cells, by show (R : Int) ≤ _; omega⟩
theorem rulesCheck_line (S R : Nat) (T : List Int) (a : Option Addr) (n c : Nat) (w : World) (hL : LineOk S R T) (hT : ArgP w T a n c) :
    Calls Tryd.prog 92 #[.agg #[.int .i64 2, .int .i64 0, .int .i64 0, .int .i64 (S : Int), .int .i64 (R : Int), .slice a n c, .string ⟨#[]⟩]] w fun e w' => e = .returned .nilIface ∧ Below w.heap.size w w' :=
  (Check_any ⟨2, 0, 0, (S : Int), (R : Int), T, ⟨#[]⟩⟩ a n c w (hT.rule hL.r10)).mono fun e w' ⟨h, hb⟩ => by
    rcases h with ⟨h, -⟩ | ⟨-, h⟩
    · exact ⟨h, hb⟩
    · exact absurd (line_good hL) h
theorem refFault_line (S R : Nat) (T : List Int) (a : Option Addr) (n c : Nat) (w : World) (hL : LineOk S R T) (hT : ArgP w T a n c) :
    Calls Tryd.prog 46 #[.agg #[.int .i64 2, .int .i64 0, .int .i64 0, .int .i64 (S : Int), .int .i64 (R : Int), .slice a n c, .string ⟨#[]⟩]] w fun e w' => e = .returned (.int .i64 0) ∧ Below w.heap.size w w' :=
  (Fault_any ⟨2, 0, 0, (S : Int), (R : Int), T, ⟨#[]⟩⟩ a n c w (hT.rule hL.r10)).mono fun e w' ⟨h, hb⟩ => by
    rcases h with ⟨h, -⟩ | ⟨-, h⟩
    · exact ⟨h, hb⟩
    · exact absurd (line_good hL) h

set_option maxHeartbeats 800000 in
theorem checkRule_line (S R : Nat) (T : List Int) (a : Option Addr) (n c : Nat) (w : World) (hL : LineOk S R T) (hT : ArgP w T a n c) :
    Calls Tryd.prog 87 #[.agg #[.int .i64 2, .int .i64 0, .int .i64 0, .int .i64 (S : Int), .int .i64 (R : Int), .slice a n c, .string ⟨#[]⟩]] w fun e w' => e = .returned .nilIface ∧ Below w.heap.size w w' := by
  obtain ⟨w1, hw1⟩ : ∃ w1, w.alloc (.cells #[.int .i64 2, .int .i64 0, .int .i64 0, .int .i64 (S : Int), .int .i64 (R : Int), .slice a n c, .string ⟨#[]⟩] 24) = w1 := ⟨_, rfl⟩
  have RX := hide' (show RB w.heap.size S R (.slice a n c) w1 by rw [← hw1]; exact RB.new w S R _ _)
  have AT := hide' (show ArgP w1 T a n c by rw [← hw1]; exact hT.alloc _)
  have BB := hide' (show Below w.heap.size w w1 by rw [← hw1]; exact (Below.refl _ _).alloc (Nat.le_refl _) _)
  have HL := hide' hL
  clear hT hL
  obtain ⟨x0, x1, x2, x3, x4, x5, x6⟩ := RX.out
  go_enter Tryd.func87, Tryd.ntmps87
  go_wp2_with fail
  refine (rulesCheck_line S R T a n c _ HL.out AT.out).mono ?_
  rintro e w2 ⟨rfl, b2⟩
  have B2 := hide' (BB.out.trans (b2.mono BB.out.size))
  clear x0 x1 x2 x3 x4 x5 x6 hw1
  obtain ⟨x0, x1, x2, x3, x4, x5, x6⟩ := RX.out.next b2
  clear b2
  go_wp2
  go_ret
  exact ⟨rfl, B2.out⟩

/-- Any rule in a box. -/
structure RBo (p : Nat) (o : Out) (v : Value) (w : World) : Prop where
  c0 : w.cell? ⟨p, 0, none⟩ = some (.int .i64 o.kind)
  c1 : w.cell? ⟨p, 1, none⟩ = some (.int .i64 o.born)
  c2 : w.cell? ⟨p, 2, none⟩ = some (.int .i64 o.stay)
  c3 : w.cell? ⟨p, 3, none⟩ = some (.int .i64 o.states)
  c4 : w.cell? ⟨p, 4, none⟩ = some (.int .i64 o.radius)
  c5 : w.cell? ⟨p, 5, none⟩ = some v
  c6 : w.cell? ⟨p, 6, none⟩ = some (.string o.turns)
theorem RBo.lt {p : Nat} {o : Out} {v : Value} {w : World} (h : RBo p o v w) : p < w.heap.size := by
  rcases Nat.lt_or_ge p w.heap.size with k | k
  · exact k
  · have := h.c0; simp [World.cell?, Array.getElem?_eq_none k] at this
theorem RBo.block {p : Nat} {o : Out} {v : Value} {w w' : World} (h : RBo p o v w) (e : w'.heap[p]? = w.heap[p]?) : RBo p o v w' :=
  ⟨(World.cell?_of_block (w := w) (a := ⟨p, 0, none⟩) e).trans h.c0, (World.cell?_of_block (w := w) (a := ⟨p, 1, none⟩) e).trans h.c1, (World.cell?_of_block (w := w) (a := ⟨p, 2, none⟩) e).trans h.c2, (World.cell?_of_block (w := w) (a := ⟨p, 3, none⟩) e).trans h.c3, (World.cell?_of_block (w := w) (a := ⟨p, 4, none⟩) e).trans h.c4, (World.cell?_of_block (w := w) (a := ⟨p, 5, none⟩) e).trans h.c5, (World.cell?_of_block (w := w) (a := ⟨p, 6, none⟩) e).trans h.c6⟩
theorem RBo.next {p : Nat} {o : Out} {v : Value} {w w' : World} (h : RBo p o v w) (hb : Below w.heap.size w w') : RBo p o v w' := h.block (hb.block p h.lt)
theorem RBo.new (w : World) (o : Out) (v : Value) (t : TypeId) : RBo w.heap.size o v (w.alloc (.cells #[.int .i64 o.kind, .int .i64 o.born, .int .i64 o.stay, .int .i64 o.states, .int .i64 o.radius, v, .string o.turns] t)) :=
  ⟨by rw [World.cell?_alloc_at _ _ _ _ rfl]; rfl, by rw [World.cell?_alloc_at _ _ _ _ rfl]; rfl, by rw [World.cell?_alloc_at _ _ _ _ rfl]; rfl, by rw [World.cell?_alloc_at _ _ _ _ rfl]; rfl, by rw [World.cell?_alloc_at _ _ _ _ rfl]; rfl, by rw [World.cell?_alloc_at _ _ _ _ rfl]; rfl, by rw [World.cell?_alloc_at _ _ _ _ rfl]; rfl⟩

set_option maxHeartbeats 800000 in
theorem checkRule_off (o : Out) (a : Option Addr) (n c : Nat) (w : World) (hR : ArgR w o a n c) (h : ¬ (Good o ∧ o.kind = 2)) :
    Calls Tryd.prog 87 #[.agg #[.int .i64 o.kind, .int .i64 o.born, .int .i64 o.stay, .int .i64 o.states, .int .i64 o.radius, .slice a n c, .string o.turns]] w fun e w' => e = .returned (.iface 85 (.int .i64 1)) ∧ Below w.heap.size w w' := by
  obtain ⟨w1, hw1⟩ : ∃ w1, w.alloc (.cells #[.int .i64 o.kind, .int .i64 o.born, .int .i64 o.stay, .int .i64 o.states, .int .i64 o.radius, .slice a n c, .string o.turns] 24) = w1 := ⟨_, rfl⟩
  have AT := hide' (show ArgR w1 o a n c by rw [← hw1]; exact hR.alloc _)
  have BB := hide' (show Below w.heap.size w w1 by rw [← hw1]; exact (Below.refl _ _).alloc (Nat.le_refl _) _)
  have RX := hide' (show RBo w.heap.size o (.slice a n c) w1 by rw [← hw1]; exact RBo.new w o _ _)
  have HH := hide' h
  clear hR h
  obtain ⟨x0, x1, x2, x3, x4, x5, x6⟩ := RX.out
  go_enter Tryd.func87, Tryd.ntmps87
  go_wp2_with fail
  refine (Check_any o a n c _ AT.out).mono ?_
  rintro e w2 ⟨(⟨rfl, hg⟩ | ⟨rfl, hg⟩), b2⟩
  · have k2 : (o.kind != 2) = true := by simp; exact fun q => HH.out ⟨hg, q⟩
    have B2 := hide' (BB.out.trans (b2.mono BB.out.size))
    clear x0 x1 x2 x3 x4 x5 x6 hw1
    obtain ⟨x0, x1, x2, x3, x4, x5, x6⟩ := RX.out.next b2
    have HG := hide' hg
    clear b2 hg
    go_wp2
    go_ret
    exact ⟨rfl, B2.out⟩
  · have B2 := hide' (BB.out.trans (b2.mono BB.out.size))
    have HG := hide' hg
    clear x0 x1 x2 x3 x4 x5 x6 b2 hg hw1
    go_wp2
    go_ret
    exact ⟨rfl, B2.out⟩

set_option maxHeartbeats 800000 in
theorem lineCheck_off (o : Out) (a : Option Addr) (n c : Nat) (v : Value) (w : World) (hR : ArgR w o a n c) (h : ¬ (Good o ∧ o.kind = 2)) :
    Calls Tryd.prog 47 #[.agg #[.int .i64 o.kind, .int .i64 o.born, .int .i64 o.stay, .int .i64 o.states, .int .i64 o.radius, .slice a n c, .string o.turns], v] w fun e w' => e = .returned (.iface 85 (.int .i64 1)) ∧ Below w.heap.size w w' := by
  obtain ⟨w1, hw1⟩ : ∃ w1, w.alloc (.cells #[.int .i64 o.kind, .int .i64 o.born, .int .i64 o.stay, .int .i64 o.states, .int .i64 o.radius, .slice a n c, .string o.turns] 24) = w1 := ⟨_, rfl⟩
  have AT := hide' (show ArgR w1 o a n c by rw [← hw1]; exact hR.alloc _)
  have BB := hide' (show Below w.heap.size w w1 by rw [← hw1]; exact (Below.refl _ _).alloc (Nat.le_refl _) _)
  have RX := hide' (show RBo w.heap.size o (.slice a n c) w1 by rw [← hw1]; exact RBo.new w o _ _)
  have HH := hide' h
  clear hR h
  obtain ⟨x0, x1, x2, x3, x4, x5, x6⟩ := RX.out
  go_enter Tryd.func47, Tryd.ntmps47
  go_wp2_with fail
  refine (checkRule_off o a n c _ AT.out HH.out).mono ?_
  rintro e w2 ⟨rfl, b2⟩
  have B2 := hide' (BB.out.trans (b2.mono BB.out.size))
  clear x0 x1 x2 x3 x4 x5 x6 b2 hw1
  go_wp2
  go_ret
  exact ⟨rfl, B2.out⟩

set_option maxHeartbeats 800000 in
theorem lineFault_off (o : Out) (a : Option Addr) (n c : Nat) (v : Value) (w : World) (hR : ArgR w o a n c) (h : ¬ (Good o ∧ o.kind = 2)) :
    Calls Tryd.prog 16 #[.agg #[.int .i64 o.kind, .int .i64 o.born, .int .i64 o.stay, .int .i64 o.states, .int .i64 o.radius, .slice a n c, .string o.turns], v] w fun e w' => e = .returned (.int .i64 1) ∧ Below w.heap.size w w' := by
  obtain ⟨w1, hw1⟩ : ∃ w1, w.alloc (.cells #[.int .i64 o.kind, .int .i64 o.born, .int .i64 o.stay, .int .i64 o.states, .int .i64 o.radius, .slice a n c, .string o.turns] 24) = w1 := ⟨_, rfl⟩
  have AT := hide' (show ArgR w1 o a n c by rw [← hw1]; exact hR.alloc _)
  have BB := hide' (show Below w.heap.size w w1 by rw [← hw1]; exact (Below.refl _ _).alloc (Nat.le_refl _) _)
  have RX := hide' (show RBo w.heap.size o (.slice a n c) w1 by rw [← hw1]; exact RBo.new w o _ _)
  have HH := hide' h
  clear hR h
  obtain ⟨x0, x1, x2, x3, x4, x5, x6⟩ := RX.out
  go_enter Tryd.func16, Tryd.ntmps16
  go_wp2_with fail
  refine (Fault_any o a n c _ AT.out).mono ?_
  rintro e w2 ⟨(⟨rfl, hg⟩ | ⟨rfl, hg⟩), b2⟩
  · have k2 : (o.kind != 2) = true := by simp; exact fun q => HH.out ⟨hg, q⟩
    have B2 := hide' (BB.out.trans (b2.mono BB.out.size))
    clear x0 x1 x2 x3 x4 x5 x6 hw1
    obtain ⟨x0, x1, x2, x3, x4, x5, x6⟩ := RX.out.next b2
    have HG := hide' hg
    clear b2 hg
    go_wp2
    go_ret
    exact ⟨rfl, B2.out⟩
  · have B2 := hide' (BB.out.trans (b2.mono BB.out.size))
    have HG := hide' hg
    clear x0 x1 x2 x3 x4 x5 x6 b2 hg hw1
    go_wp2
    go_ret
    exact ⟨rfl, B2.out⟩
end Go.Proofs.YtjjdjdodhedihaaDoor

namespace Go.Proofs.YtjjdjdodhedihaaDoor
open Go.RowKit
set_option linter.unusedVariables false

theorem not_cellsOk {S : Nat} {ws : List Int} {k : Nat} (hk : k < ws.length) (h : ws.getD k 0 < 0 ∨ (S : Int) ≤ ws.getD k 0) : ¬ cellsOk S ws := fun q => by
  have := cellsOk_at q hk
  omega
theorem is_cellsOk {S : Nat} {ws : List Int} (h : ∀ j, j < ws.length → 0 ≤ ws.getD j 0 ∧ ws.getD j 0 < (S : Int)) : cellsOk S ws := fun x hx => by
  obtain ⟨k, hk, rfl⟩ := List.getElem_of_mem hx
  have := h k hk
  simpa [List.getD, hk] using this

set_option maxHeartbeats 1600000 in
theorem lineCheck_line (S R : Nat) (T : List Int) (a : Option Addr) (n c : Nat) (ws : List Int) (wa : Option Addr) (wn wc : Nat) (w : World) (hL : LineOk S R T) (hT : ArgP w T a n c) (hW : ArgP w ws wa wn wc) :
    Calls Tryd.prog 47 #[.agg #[.int .i64 2, .int .i64 0, .int .i64 0, .int .i64 (S : Int), .int .i64 (R : Int), .slice a n c, .string ⟨#[]⟩], .slice wa wn wc] w fun e w' => e = .returned (errOf (wordE S ws)) ∧ Below w.heap.size w w' := by
  obtain ⟨w1, hw1⟩ : ∃ w1, w.alloc (.cells #[.int .i64 2, .int .i64 0, .int .i64 0, .int .i64 (S : Int), .int .i64 (R : Int), .slice a n c, .string ⟨#[]⟩] 24) = w1 := ⟨_, rfl⟩
  have RX := hide' (show RB w.heap.size S R (.slice a n c) w1 by rw [← hw1]; exact RB.new w S R _ _)
  have AT := hide' (show ArgP w1 T a n c by rw [← hw1]; exact hT.alloc _)
  have AW := hide' (show ArgP w1 ws wa wn wc by rw [← hw1]; exact hW.alloc _)
  have BB := hide' (show Below w.heap.size w w1 by rw [← hw1]; exact (Below.refl _ _).alloc (Nat.le_refl _) _)
  have HL := hide' hL
  have WL := hide' hW.len
  have hmx := hW.max
  have s4 := hL.s4
  unfold maxLen at hmx
  clear hT hL hW
  obtain ⟨x0, x1, x2, x3, x4, x5, x6⟩ := RX.out
  go_enter Tryd.func47, Tryd.ntmps47
  go_wp2_with fail
  refine (checkRule_line S R T a n c _ HL.out AT.out).mono ?_
  rintro e w2 ⟨rfl, b2⟩
  have B2 := hide' (BB.out.trans (b2.mono BB.out.size))
  have AW2 := hide' (AW.out.below b2)
  clear x0 x1 x2 x3 x4 x5 x6 hw1
  obtain ⟨x0, x1, x2, x3, x4, x5, x6⟩ := RX.out.next b2
  clear b2
  by_cases hf : (1000 : Int) < (wn : Int)
  · have E := hide' (wordE_full (S := S) (ws := ws) (by have := WL.out; omega))
    go_wp2
    go_ret
    exact ⟨by rw [E.out]; rfl, B2.out⟩
  · have hle : ¬ 1000 < ws.length := by have := WL.out; omega
    have EO := hide' (wordE_ok (S := S) hle)
    have EB := hide' (wordE_bad (S := S) hle)
    clear hle
    go_wp2
    go_loop [19] (fun kv => ∃ k : Nat, kv = .int .i64 (k : Int) ∧ k ≤ wn ∧ Hid (∀ j, j < k → 0 ≤ ws.getD j 0 ∧ ws.getD j 0 < (S : Int))) (fun kv => wn - (intOf kv).toNat)
    case atStart => exact ⟨0, rfl, by omega, fun j hj => by omega⟩
    case round =>
      obtain ⟨k, rfl, hk, HK⟩ := hrel
      by_cases d : (k : Int) < (wn : Int)
      · obtain ⟨g, off, rfl, hc⟩ := AW2.out.at (k := k) (by omega)
        obtain ⟨x, hx⟩ : ∃ x, ws.getD k 0 = x := ⟨_, rfl⟩
        rw [hx] at hc
        have HX := hide' hx
        clear hx
        by_cases d1 : x < 0
        · have F := hide' (EB.out (not_cellsOk (k := k) (by have := WL.out; omega) (by rw [HX.out]; exact Or.inl d1)))
          go_wp2
          go_ret
          exact ⟨by rw [F.out]; rfl, B2.out⟩
        · skip
          by_cases d2 : (S : Int) ≤ x
          · have F := hide' (EB.out (not_cellsOk (k := k) (by have := WL.out; omega) (by rw [HX.out]; exact Or.inr d2)))
            go_wp2
            go_ret
            exact ⟨by rw [F.out]; rfl, B2.out⟩
          · go_wp2
            refine ⟨⟨k + 1, by go_num, by omega, fun j hj => ?_⟩, by simp [intOf]; omega⟩
            by_cases ej : j = k
            · subst ej; rw [HX.out]; omega
            · exact HK.out j (by omega)
      · have F := hide' (EO.out (is_cellsOk fun j hj => HK.out j (by have := WL.out; omega)))
        go_wp2
        go_ret
        exact ⟨by rw [F.out]; rfl, B2.out⟩

set_option maxHeartbeats 1600000 in
theorem lineFault_line (S R : Nat) (T : List Int) (a : Option Addr) (n c : Nat) (ws : List Int) (wa : Option Addr) (wn wc : Nat) (w : World) (hL : LineOk S R T) (hT : ArgP w T a n c) (hW : ArgP w ws wa wn wc) :
    Calls Tryd.prog 16 #[.agg #[.int .i64 2, .int .i64 0, .int .i64 0, .int .i64 (S : Int), .int .i64 (R : Int), .slice a n c, .string ⟨#[]⟩], .slice wa wn wc] w fun e w' => e = .returned (.int .i64 ((wordE S ws : Nat) : Int)) ∧ Below w.heap.size w w' := by
  obtain ⟨w1, hw1⟩ : ∃ w1, w.alloc (.cells #[.int .i64 2, .int .i64 0, .int .i64 0, .int .i64 (S : Int), .int .i64 (R : Int), .slice a n c, .string ⟨#[]⟩] 24) = w1 := ⟨_, rfl⟩
  have RX := hide' (show RB w.heap.size S R (.slice a n c) w1 by rw [← hw1]; exact RB.new w S R _ _)
  have AT := hide' (show ArgP w1 T a n c by rw [← hw1]; exact hT.alloc _)
  have AW := hide' (show ArgP w1 ws wa wn wc by rw [← hw1]; exact hW.alloc _)
  have BB := hide' (show Below w.heap.size w w1 by rw [← hw1]; exact (Below.refl _ _).alloc (Nat.le_refl _) _)
  have HL := hide' hL
  have WL := hide' hW.len
  have hmx := hW.max
  have s4 := hL.s4
  unfold maxLen at hmx
  clear hT hL hW
  obtain ⟨x0, x1, x2, x3, x4, x5, x6⟩ := RX.out
  go_enter Tryd.func16, Tryd.ntmps16
  go_wp2_with fail
  refine (refFault_line S R T a n c _ HL.out AT.out).mono ?_
  rintro e w2 ⟨rfl, b2⟩
  have B2 := hide' (BB.out.trans (b2.mono BB.out.size))
  have AW2 := hide' (AW.out.below b2)
  clear x0 x1 x2 x3 x4 x5 x6 hw1
  obtain ⟨x0, x1, x2, x3, x4, x5, x6⟩ := RX.out.next b2
  clear b2
  by_cases hf : (1000 : Int) < (wn : Int)
  · have E := hide' (wordE_full (S := S) (ws := ws) (by have := WL.out; omega))
    go_wp2
    go_ret
    exact ⟨by rw [E.out]; rfl, B2.out⟩
  · have hle : ¬ 1000 < ws.length := by have := WL.out; omega
    have EO := hide' (wordE_ok (S := S) hle)
    have EB := hide' (wordE_bad (S := S) hle)
    clear hle
    go_wp2
    go_loopw [6] (fun kv wr => ∃ k m : Nat, kv = .int .i64 (k : Int) ∧ k ≤ wn ∧ wr = w2.drewN m ∧ Hid (∀ j, j < k → 0 ≤ ws.getD j 0 ∧ ws.getD j 0 < (S : Int))) (fun kv _ => wn - (intOf kv).toNat)
    case atStart => exact ⟨0, 0, rfl, by omega, rfl, fun j hj => by omega⟩
    case round =>
      obtain ⟨k, m, rfl, hk, rfl, HK⟩ := hrel
      by_cases d : (k : Int) < (wn : Int)
      · obtain ⟨g, off, rfl, hc⟩ := AW2.out.at (k := k) (by omega)
        obtain ⟨x, hx⟩ : ∃ x, ws.getD k 0 = x := ⟨_, rfl⟩
        rw [hx] at hc
        have HX := hide' hx
        clear hx
        by_cases d1 : x < 0
        · have F := hide' (EB.out (not_cellsOk (k := k) (by have := WL.out; omega) (by rw [HX.out]; exact Or.inl d1)))
          have d1b : decide (x < 0) = true := by simp; exact d1
          go_wp2
          go_quiet (fail)
          go_wp2
          go_ret
          exact ⟨by rw [F.out]; rfl, below_drewN (below_drewN B2.out _) _⟩
        · have d1b : decide (x < 0) = false := by simp; omega
          by_cases d2 : (S : Int) ≤ x
          · have F := hide' (EB.out (not_cellsOk (k := k) (by have := WL.out; omega) (by rw [HX.out]; exact Or.inr d2)))
            go_wp2
            go_quiet (fail)
            go_wp2
            go_ret
            exact ⟨by rw [F.out]; rfl, below_drewN (below_drewN B2.out _) _⟩
          · go_wp2
            go_quiet (fail)
            go_wp2
            refine ⟨⟨k + 1, m + nq, by go_num, by omega, by simp, fun j hj => ?_⟩, by simp [intOf]; omega⟩
            by_cases ej : j = k
            · subst ej; rw [HX.out]; omega
            · exact HK.out j (by omega)
      · have F := hide' (EO.out (is_cellsOk fun j hj => HK.out j (by have := WL.out; omega)))
        go_wp2
        go_ret
        exact ⟨by rw [F.out]; rfl, below_drewN B2.out _⟩
end Go.Proofs.YtjjdjdodhedihaaDoor

namespace Go.Proofs.YtjjdjdodhedihaaDoor
open Go.RowKit
set_option linter.unusedVariables false

theorem ST.below {w w' : World} {pr pw gw S R N : Nat} {T : List Int} {ta : Option Addr} {tn tc : Nat} {ws : List Int} (h : ST w pr pw gw S R N T ta tn tc ws) (hb : Below w.heap.size w w') : ST w' pr pw gw S R N T ta tn tc ws :=
  ⟨h.rb.next hb, (World.cell?_of_block (w := w) (a := ⟨pw, 0, none⟩) (hb.block pw h.wl)).trans h.wb, Nat.lt_of_lt_of_le h.wl hb.size, h.cw.below hb, h.wn, h.ap.below hb, h.ne1, h.ne2, h.ne3⟩

end Go.Proofs.YtjjdjdodhedihaaDoor

