/-
  plain.Told and edensame.Error by their contracts: of nil the number is 0, of an Errno it is the Errno's own.
-/
import Derived.Test.YtpbcgojfpmpgpaaDoorAs
import Derived.WalkSpells
import Derived.WalkLawsBesides
namespace Go.Proofs.YtpbcgojfpmpgpaaDoor
open Go.RowKit

theorem told_nil (w : World) :
    Calls Tryd.prog 44 #[.nilIface] w fun e w' => e = .returned (.int .i64 0) ∧ w' = w := by
  go_enter Tryd.func44, Tryd.ntmps44
  go_wp2
  go_ret
  exact ⟨rfl, rfl⟩

/-- The cell of errors.errorType holds the handle of the type error. -/
def Handle (w : World) : Prop := w.cell? ⟨0, 0, none⟩ = some (.iface 155 (.agg #[.pointer (some ⟨4, 26, none⟩)]))

theorem Handle.lt {w : World} (hg : Handle w) : 0 < w.heap.size := by
  unfold Handle at hg
  rcases Nat.lt_or_ge 0 w.heap.size with h | h
  · exact h
  · simp [World.cell?, Array.getElem?_eq_none h] at hg

theorem Handle.below {w w' : World} (hg : Handle w) (h : Below w.heap.size w w') : Handle w' := by
  have := hg.lt
  unfold Handle at hg ⊢
  rw [h.cell (p := ⟨0, 0, none⟩) this]; exact hg

set_option maxHeartbeats 1000000 in
theorem told_errno (n : Int) (w : World) (hg : Handle w) :
    Calls Tryd.prog 44 #[.iface 72 (.int .i64 n)] w fun e w' => e = .returned (.int .i64 n) ∧ Below w.heap.size w w' := by
  have hlt := hg.lt
  have hgA : (w.alloc (.cells #[.int .i64 0] 72)).cell? ⟨0, 0, none⟩ = some (.iface 155 (.agg #[.pointer (some ⟨4, 26, none⟩)])) := by
    rw [World.cell?_alloc_lt _ _ ⟨0, 0, none⟩ hlt]; exact hg
  have htA : (w.alloc (.cells #[.int .i64 0] 72)).cell? ⟨w.heap.size, 0, none⟩ = some (.int .i64 0) := by simp
  have hfA : (w.alloc (.cells #[.int .i64 0] 72)).frozen? ⟨w.heap.size, 0, none⟩ = false := by simp
  clear hg hlt
  go_enter Tryd.func44, Tryd.ntmps44
  go_wp2_with (go_at_call 81; refine (as_hit _ _ (.int .i64 0) _ hgA htA hfA).mono ?_; rintro e w' ⟨rfl, rfl⟩)
  go_ret
  refine ⟨rfl, ?_⟩
  repeat (first | exact Below.refl _ _ | refine Below.setCell ?_ (by simp) _ | refine Below.alloc ?_ (by simp; try omega) _)

set_option maxHeartbeats 400000 in
theorem error_nil (n : Int) (w : World) :
    Calls Tryd.prog 11 #[.nilIface, .int .i64 n] w fun e w' => e = .returned (.bool (0 == n)) ∧ w' = w := by
  go_enter Tryd.func11, Tryd.ntmps11
  go_wp2_with (go_at_call 44; refine (told_nil _).mono ?_; rintro e w' ⟨rfl, rfl⟩)
  go_ret
  exact ⟨rfl, rfl⟩

set_option maxHeartbeats 400000 in
theorem error_errno (k n : Int) (w : World) (hg : Handle w) :
    Calls Tryd.prog 11 #[.iface 72 (.int .i64 k), .int .i64 n] w fun e w' => e = .returned (.bool (k == n)) ∧ Below w.heap.size w w' := by
  go_enter Tryd.func11, Tryd.ntmps11
  go_wp2_with (go_at_call 44; refine (told_errno k _ hg).mono ?_; rintro e w' ⟨rfl, hb⟩)
  go_ret
  exact ⟨rfl, hb⟩
end Go.Proofs.YtpbcgojfpmpgpaaDoor
