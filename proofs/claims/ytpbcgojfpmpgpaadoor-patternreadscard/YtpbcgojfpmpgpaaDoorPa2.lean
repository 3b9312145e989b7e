/-
  The reader of package pattern: fail, next, skip, isDigit.
-/
import Derived.Test.YtpbcgojfpmpgpaaDoorPa1
namespace Go.Proofs.YtpbcgojfpmpgpaaDoor
open Go.RowKit
set_option linter.unusedVariables false

theorem pfail (b : Nat) (s : ByteArray) (r : Rv) (a : Nat) (A f : Int) (w : World) (hA : A = a) (h : RAt b s r w) :
    Calls Tryd.prog 68 #[.pointer (some ⟨b, 0, none⟩), .int .i64 A, .int .i64 f] w fun e w' => e = .returned (.bool false) ∧ RAt b s { r with i := a, fl := f } w' ∧ Rd b w w' := by
  subst hA
  have H := hide' h
  obtain ⟨c0, c1, c2, c3, c4, c5, c6, c7, c8, c9, f1, f2, f3, f4, f5, f6, f7, f8, f9⟩ := h.ten
  clear h
  go_enter Tryd.func68, Tryd.ntmps68
  go_wp2
  go_ret
  exact ⟨rfl, (H.out.set_i a).set_fl f, ((Rd.refl _ _).set _ _).set _ _⟩

theorem pnext_in (b : Nat) (s : ByteArray) (i : Nat) (w : World) (c0 : w.cell? ⟨b, 0, none⟩ = some (.string s)) (c1 : w.cell? ⟨b, 1, none⟩ = some (.int .i64 (i : Int))) (hi : i < s.size) :
    Calls Tryd.prog 72 #[.pointer (some ⟨b, 0, none⟩)] w fun e w' => e = .returned (.int .u8 (bt s i : Int)) ∧ ∃ n, w' = w.drewN n := by
  have n1 : ((i : Int) == (s.size : Int)) = false := by simp; omega
  rw [← bt_lt s i hi]
  go_enter Tryd.func72, Tryd.ntmps72
  go_wp2
  go_quiet (fail)
  go_wp2
  go_quiet (fail)
  go_wp2
  go_ret
  exact ⟨rfl, _, World.drewN_drewN _ _ _⟩

theorem pnext_end (b : Nat) (s : ByteArray) (i : Nat) (w : World) (c0 : w.cell? ⟨b, 0, none⟩ = some (.string s)) (c1 : w.cell? ⟨b, 1, none⟩ = some (.int .i64 (i : Int))) (hi : i = s.size) :
    Calls Tryd.prog 72 #[.pointer (some ⟨b, 0, none⟩)] w fun e w' => e = .returned (.int .u8 (bt s i : Int)) ∧ ∃ n, w' = w.drewN n := by
  have n1 : ((i : Int) == (s.size : Int)) = true := by simp; omega
  rw [show bt s i = 0 by simp [bt, hi]]
  clear hi
  go_enter Tryd.func72, Tryd.ntmps72
  go_wp2
  go_quiet (fail)
  go_wp2
  go_ret
  exact ⟨rfl, _, rfl⟩

theorem pnext (b : Nat) (s : ByteArray) (r : Rv) (w : World) (h : RAt b s r w) (hi : r.i ≤ s.size) :
    Calls Tryd.prog 72 #[.pointer (some ⟨b, 0, none⟩)] w fun e w' => e = .returned (.int .u8 (bt s r.i : Int)) ∧ ∃ n, w' = w.drewN n := by
  by_cases hl : r.i < s.size
  · exact pnext_in b s r.i w h.ten.c0 h.ten.c1 hl
  · exact pnext_end b s r.i w h.ten.c0 h.ten.c1 (by omega)
end Go.Proofs.YtpbcgojfpmpgpaaDoor
