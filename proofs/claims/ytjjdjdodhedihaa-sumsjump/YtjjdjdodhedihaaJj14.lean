/-
  What the last text of this claim leans on, part 14: Sb1, Sb2, Og6, Ry2, Ry3, Ry5, Ry6, Oh1, Oi1, Sc1, Sg2.
-/
import Derived.Test.YtjjdjdodhedihaaJj9
import Derived.Test.YtjjdjdodhedihaaJj8
import Derived.Test.YtjjdjdodhedihaaJj7
import Derived.Test.YtjjdjdodhedihaaJj6
import Derived.Test.YtjjdjdodhedihaaJj2
import Derived.Test.YtjjdjdodhedihaaJj13
import Derived.Maps.OwnSet
namespace Go.Proofs.Ytjjdjdodhedihaa
open Go.RowKit
set_option linter.unusedVariables false

/-- What keeps holds. -/
structure KS (w wr : World) (S R : Nat) (vt vw : Value) (n g : Nat) (hs : List Int) : Prop where
  rb : RB w.heap.size S R vt wr
  cw : Blk wr (w.heap.size + 1) #[vw] 22
  cn : Blk wr (w.heap.size + 1 + 1) #[.int .i64 (n : Int)] 3
  cl : Cel wr g hs
  bl : Below w.heap.size w wr
  gl : w.heap.size + 3 ≤ g
theorem KS.below {w wr wr' : World} {S R : Nat} {vt vw : Value} {n g : Nat} {hs : List Int} (h : KS w wr S R vt vw n g hs) (hb : Below wr.heap.size wr wr') : KS w wr' S R vt vw n g hs :=
  ⟨h.rb.next hb, h.cw.of (hb.block _ h.cw.lt), h.cn.of (hb.block _ h.cn.lt), h.cl.below hb, h.bl.trans (hb.mono h.bl.size), h.gl⟩
end Go.Proofs.Ytjjdjdodhedihaa

namespace Go.Proofs.Ytjjdjdodhedihaa
open Go.RowKit
set_option linter.unusedVariables false

end Go.Proofs.Ytjjdjdodhedihaa

namespace Go.Proofs.Ytjjdjdodhedihaa
set_option linter.unusedVariables false

end Go.Proofs.Ytjjdjdodhedihaa

namespace Go.Proofs.Ytjjdjdodhedihaa
set_option linter.unusedVariables false

end Go.Proofs.Ytjjdjdodhedihaa

namespace Go.Proofs.Ytjjdjdodhedihaa
open Go.RowKit
set_option linter.unusedVariables false

/-- At block g n bytes of the call's own. -/
structure Pk (w0 w : World) (g n : Nat) (F : Nat → Nat) : Prop where
  below : Below w0.heap.size w0 w
  ge : w0.heap.size ≤ g
  lt : g < w.heap.size
  cells : ∀ j, j < n → w.cell? ⟨g, j, none⟩ = some (.int .u8 (F j : Int))
  fz : ∀ j, w.frozen? ⟨g, j, none⟩ = false
theorem Pk.start (w : World) (n : Nat) (F : Nat → Nat) (t : TypeId) (h : ∀ j, F j = 0) : Pk w (w.alloc (.cells (madeCells #[.int .u8 0] n) t)) w.heap.size n F := by
  refine ⟨(Below.refl _ _).alloc (Nat.le_refl _) _, Nat.le_refl _, by simp, fun j hj => ?_, fun j => by simp⟩
  rw [World.cell?_alloc_at _ _ _ _ rfl, h j]
  have hs : j < (madeCells #[.int .u8 0] n).size := by rw [size_madeCells]; exact hj
  have e : (madeCells #[.int .u8 0] n)[j]? = some (.int .u8 0) := by
    rw [Array.getElem?_eq_getElem hs]
    simp [madeCells, Nat.mod_one]
  exact e
end Go.Proofs.Ytjjdjdodhedihaa

namespace Go.Proofs.Ytjjdjdodhedihaa
open Go.RowKit
open Go.Maps (Keyed)
set_option linter.unusedVariables false

end Go.Proofs.Ytjjdjdodhedihaa

namespace Go.Proofs.Ytjjdjdodhedihaa
open Go.RowKit
set_option linter.unusedVariables false

end Go.Proofs.Ytjjdjdodhedihaa

namespace Go.Proofs.Ytjjdjdodhedihaa
open Go.RowKit
set_option linter.unusedVariables false

theorem owns_arg {W : World} {B0 : Nat} {v : Value} {xs : List Int} (h : W.ownsRow B0 3 1 v xs.length (xs.map fun y => Value.int .i64 y)) (h0 : 0 < xs.length) (hm : xs.length ≤ maxLen) : ∃ g cap, v = .slice (some ⟨g, 0, none⟩) xs.length cap ∧ ArgP W xs (some ⟨g, 0, none⟩) xs.length cap := by
  rcases h.2 with ⟨rfl, h1⟩ | ⟨g, cap, cur, rfl, hg, hh, hc, hm', hs, ht⟩
  · omega
  · refine ⟨g, cap, rfl, rfl, hm, fun k hk => ⟨g, 0, rfl, (Array.getElem?_eq_some_iff.1 hh).1, ?_⟩⟩
    have e : (xs.map fun y => Value.int .i64 y)[k]? = some (.int .i64 xs[k]) := by simp [hk]
    rw [← ht, List.getElem?_take, if_pos (by omega)] at e
    rw [Nat.zero_add]
    simp only [World.cell?, hh]
    rw [← Array.getElem?_toList]
    exact e

end Go.Proofs.Ytjjdjdodhedihaa

namespace Go.Proofs.Ytjjdjdodhedihaa
open Go.RowKit
set_option linter.unusedVariables false

theorem Tab.argI {w : World} {v : Value} {xs : List Int} (h : Tab w v xs) (hm : xs.length ≤ maxLen) : ∃ a c, v = .slice a xs.length c ∧ ArgP w xs a xs.length c := by
  rcases h with ⟨h1, h2⟩ | ⟨g, cap, h1, h2, h3⟩
  · subst h1
    exact ⟨none, 0, h2, rfl, hm, fun k hk => by simp at hk⟩
  · exact ⟨some ⟨g, 0, none⟩, cap, h1, rfl, hm, fun k hk => ⟨g, 0, rfl, h2, by rw [Nat.zero_add]; exact h3 k hk⟩⟩
theorem IntsEq (xs : List Int) (a b : Option Addr) (n c m d : Nat) (w : World) (hA : ArgP w xs a n c) (hB : ArgP w xs b m d) :
    Calls Try.prog 6 #[.slice a n c, .slice b m d] w fun e w' => e = .returned (.bool true) ∧ Below w.heap.size w w' :=
  (Ints_any xs xs a b n c m d w hA hB).mono fun e w' ⟨h1, q, h2⟩ => ⟨by rw [h1]; simp, by rw [h2]; exact below_drewN (Below.refl _ _) q⟩

end Go.Proofs.Ytjjdjdodhedihaa

namespace Go.Proofs.Ytjjdjdodhedihaa
open Go.RowKit
set_option linter.unusedVariables false

theorem two_arg (w : World) (x y : Int) (t : TypeId) : ArgP (w.alloc (.cells #[.int .i64 x, .int .i64 y] t)) [x, y] (some ⟨w.heap.size, 0, none⟩) 2 2 := by
  refine ⟨rfl, by unfold maxLen; omega, fun k hk => ⟨w.heap.size, 0, rfl, by simp, ?_⟩⟩
  rw [World.cell?_alloc_at _ _ _ _ rfl]
  have : k = 0 ∨ k = 1 := by simp at hk; omega
  rcases this with rfl | rfl <;> rfl

end Go.Proofs.Ytjjdjdodhedihaa

namespace Go.Proofs.Ytjjdjdodhedihaa
open Go.RowKit
set_option linter.unusedVariables false

/-- sums.Jump at a rule of a line, as the law needs it. -/
def JumpAny (S R : Nat) (T ws : List Int) (k : Int) (w : World) (e : Ending) (w' : World) : Prop :=
  ((wordE S ws = 0 ∧ LinP S R T ∧ 0 ≤ k ∧ k ≤ 1000000000000000000 ∧ ∃ a c, e = .returned (.tuple #[.slice a ws.length c, .nilIface]) ∧ ArgP w' (runL S R T k.toNat ws) a ws.length c) ∨ (¬ (wordE S ws = 0 ∧ LinP S R T ∧ 0 ≤ k ∧ k ≤ 1000000000000000000) ∧ ∃ f : Int, e = .returned (.tuple #[.slice none 0 0, .iface 33 (.int .i64 f)]))) ∧ Below w.heap.size w w'
theorem jump_whole (S R : Nat) (T ws : List Int) (k : Int) (ta : Option Addr) (tn tc : Nat) (wa : Option Addr) (wc : Nat) (w : World) (hL : LineOk S R T) (hT : ArgP w T ta tn tc) (hA : ArgP w ws wa ws.length wc) :
    Calls Try.prog 4 #[.agg #[.int .i64 2, .int .i64 0, .int .i64 0, .int .i64 (S : Int), .int .i64 (R : Int), .slice ta tn tc, .string ⟨#[]⟩], .slice wa ws.length wc, .int .i64 k] w (JumpAny S R T ws k w) := by
  refine (jump_line S R T ta tn tc ws wa wc k w hL hT hA).mono ?_
  rintro e w' (⟨h, rfl, b⟩ | ⟨_, h, rfl, b⟩ | ⟨_, _, h, rfl, b⟩ | ⟨h1, h2, h3, h4, v, rfl, ht, _, b⟩)
  · exact ⟨Or.inr ⟨fun q => h q.1, _, rfl⟩, b⟩
  · exact ⟨Or.inr ⟨fun q => h q.2.1, _, rfl⟩, b⟩
  · exact ⟨Or.inr ⟨fun q => h ⟨q.2.2.1, q.2.2.2⟩, _, rfl⟩, b⟩
  · obtain ⟨a, c, rfl, h⟩ := ht.argI (by rw [runL_length]; have := (wordE_zero h1).1; unfold maxLen; omega)
    rw [runL_length] at h ⊢
    exact ⟨Or.inl ⟨h1, h2, h3, h4, a, c, rfl, h⟩, b⟩
theorem jump_fact (g g' : Nat) (W : World) (hA : ArgP W [0, 1] (some ⟨g, 0, none⟩) 2 2) (hB : ArgP W [1, 0] (some ⟨g', 0, none⟩) 2 2) :
    Calls Try.prog 4 #[.agg #[.int .i64 2, .int .i64 0, .int .i64 0, .int .i64 2, .int .i64 0, .slice (some ⟨g, 0, none⟩) 2 2, .string ⟨#[]⟩], .slice (some ⟨g', 0, none⟩) 2 2, .int .i64 7] W fun e w' => ∃ h c, e = .returned (.tuple #[.slice (some ⟨h, 0, none⟩) 2 c, .nilIface]) ∧ w'.cell? ⟨h, 0, none⟩ = some (.int .i64 1) ∧ w'.cell? ⟨h, 1, none⟩ = some (.int .i64 0) ∧ Below W.heap.size W w' := by
  refine (jump_line 2 0 [0, 1] (some ⟨g, 0, none⟩) 2 2 [1, 0] (some ⟨g', 0, none⟩) 2 7 W fact_ok hA hB).mono ?_
  rintro e w' (⟨h, _⟩ | ⟨_, h, _⟩ | ⟨_, _, h, _⟩ | ⟨h1, h2, h3, h4, v, rfl, ht, _, b⟩)
  · exact absurd fact_word h
  · exact absurd fact_lin h
  · exact absurd ⟨by omega, by omega⟩ h
  · rw [show (7 : Int).toNat = 7 from rfl, show ((2 : Nat) : Int) = 2 from rfl, fact_run] at ht
    rcases ht with ⟨h, _⟩ | ⟨q, c, rfl, _, h⟩
    · cases h
    · exact ⟨q, c, rfl, h 0 (by simp), h 1 (by simp), b⟩

set_option maxRecDepth 100000 in
set_option maxHeartbeats 12800000 in
theorem law_jump_off (o : Out) (ta : Option Addr) (tn tc : Nat) (v v' : Value) (n m : Int) (w : World) (hR : ArgR w o ta tn tc) (h : ¬ (Good o ∧ o.kind = 2)) :
    Calls Try.prog 3 #[.agg #[.int .i64 o.kind, .int .i64 o.born, .int .i64 o.stay, .int .i64 o.states, .int .i64 o.radius, .slice ta tn tc, .string o.turns], v, v', .int .i64 n, .int .i64 m] w fun e w' => e = .returned (.bool true) ∧ Below w.heap.size w w' := by
  obtain ⟨w1, hw1⟩ : ∃ w1, w.alloc (.cells #[.int .i64 o.kind, .int .i64 o.born, .int .i64 o.stay, .int .i64 o.states, .int .i64 o.radius, .slice ta tn tc, .string o.turns] 24) = w1 := ⟨_, rfl⟩
  have BB := hide' (show Below w.heap.size w w1 by rw [← hw1]; exact (Below.refl _ _).alloc (Nat.le_refl _) _)
  have RX := hide' (show RBo w.heap.size o (.slice ta tn tc) w1 by rw [← hw1]; exact RBo.new w o _ _)
  have AT := hide' (show ArgR w1 o ta tn tc by rw [← hw1]; exact hR.alloc _)
  have HH := hide' h
  clear hR h
  obtain ⟨v0, hv0⟩ : ∃ v0, w1.alloc (.cells #[.int .i64 0, .int .i64 1] 3) = v0 := ⟨_, rfl⟩
  obtain ⟨u0, hu0⟩ : ∃ u0, v0.alloc (.cells #[.int .i64 1, .int .i64 0] 3) = u0 := ⟨_, rfl⟩
  have zv0 : v0.heap.size = w1.heap.size + 1 := by rw [← hv0]; simp
  have P0 : Below w1.heap.size w1 v0 := by rw [← hv0]; exact (Below.refl _ _).alloc (Nat.le_refl _) _
  have Q0 : Below v0.heap.size v0 u0 := by rw [← hu0]; exact (Below.refl _ _).alloc (Nat.le_refl _) _
  have FO0 := hide' (jump_fact w1.heap.size v0.heap.size u0 ((show ArgP v0 [0, 1] (some ⟨w1.heap.size, 0, none⟩) 2 2 by rw [← hv0]; exact two_arg _ _ _ _).below Q0) (by rw [← hu0]; exact two_arg _ _ _ _))
  rw [zv0] at FO0
  have D0 := hide' (P0.trans (Q0.mono P0.size))
  clear P0 Q0
  obtain ⟨x0, x1, x2, x3, x4, x5, x6⟩ := RX.out.next D0.out
  go_enter Try.func3, Try.ntmps3
  go_wp2_with fail
  refine (show Calls Try.prog _ _ _ _ from FO0.out).mono ?_
  rintro e w3 ⟨g0, c0, rfl, k0, k1, b⟩
  have C1 := hide' (D0.out.trans (b.mono D0.out.size))
  clear b x0 x1 x2 x3 x4 x5 x6 FO0 D0 hv0 hu0 zv0 hw1
  obtain ⟨x0, x1, x2, x3, x4, x5, x6⟩ := RX.out.next C1.out
  go_wp2_with fail
  refine (jump_off o ta tn tc v n _ (AT.out.below C1.out) HH.out).mono ?_
  unfold ListErr
  rintro e w4 ⟨rfl, b⟩
  have C2 := hide' (C1.out.trans (b.mono C1.out.size))
  clear b x0 x1 x2 x3 x4 x5 x6 C1 k0 k1
  go_wp2
  go_ret
  exact ⟨rfl, BB.out.trans (C2.out.mono BB.out.size)⟩
end Go.Proofs.Ytjjdjdodhedihaa

