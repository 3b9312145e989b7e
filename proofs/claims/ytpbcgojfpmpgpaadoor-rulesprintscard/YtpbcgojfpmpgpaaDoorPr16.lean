/-
  rules.mirrorTurns.
-/
import Derived.Test.YtpbcgojfpmpgpaaDoorPr15
namespace Go.Proofs.YtpbcgojfpmpgpaaDoor
open Go.RowKit
set_option linter.unusedVariables false

/-- The turn that mirrors the i-th. -/
def mirU (t : ByteArray) (i : Nat) : UInt8 := if bt t i = 76 then 82 else 76
theorem FillB.poke {w0 w : World} {g n k : Nat} {f : Nat → UInt8} (h : FillB w0 w g n k f) (hk : k < n) (x : Value) : FillB w0 (w.setCell ⟨g, k, none⟩ x) g n k f := by
  refine ⟨h.below.setCell h.ge _, h.ge, by rw [World.size_setCell]; exact h.lt, fun j hj => ?_, fun j => by rw [World.frozen?_setCell]; exact h.fz j⟩
  by_cases e : j = k
  · subst e
    obtain ⟨v, hv, -⟩ := h.cells j hj
    exact ⟨_, World.cell?_setCell_same _ _ _ hv, fun q => by omega⟩
  · obtain ⟨v, hv, hv'⟩ := h.cells j hj
    exact ⟨v, (World.cell?_setCell_other _ ⟨g, k, none⟩ ⟨g, j, none⟩ _ (fun q => e (congrArg Addr.off q).symm)).trans hv, hv'⟩

set_option maxHeartbeats 1600000 in
theorem mirrorTurns_any (t : ByteArray) (n : Nat) (w : World) (hn : n = t.size) (hn4 : n ≤ 26) :
    Calls Tryd.prog 51 #[.string t] w fun e w' => e = .returned (.string ⟨((List.range t.size).map (mirU t)).toArray⟩) ∧ Below w.heap.size w w' := by
  have ht : t.size ≤ 26 := by omega
  have hmk := run_make_row' (P := Tryd.prog) 82 5 (.int .u8 0) 1 Tryd.underlying82 info_u8 rfl .i64 .i64 t.size (by omega) (by omega)
  have S := hide' (FillB.start w t.size (mirU t) (.int .u8 0) 5)
  clear hn hn4
  go_enter Tryd.func51, Tryd.ntmps51
  go_wp2
  go_loopw [4] (fun kv wr => ∃ k : Nat, kv = .int .i64 (k : Int) ∧ k ≤ t.size ∧ FillB w wr w.heap.size t.size k (mirU t)) (fun kv _ => t.size - (intOf kv).toNat)
  case atStart => exact ⟨0, rfl, by omega, S.out⟩
  case round =>
    obtain ⟨k, rfl, hk, fk⟩ := hrel
    have FK := hide' fk
    clear hmk S
    by_cases c : k < t.size
    · have c' : (k : Int) < (t.size : Int) := by omega
      have e := bt_lt t k c
      obtain ⟨v, hv, -⟩ := fk.cells k (by omega)
      have hf := fk.fz k
      have hv2 := World.cell?_setCell_same wr ⟨w.heap.size, k, none⟩ (.int .u8 76) hv
      have hf2 := (fk.poke c (.int .u8 76)).fz k
      by_cases d : bt t k = 76
      · have D := hide' d
        have q : ((t[k].toNat : Int) == 76) = true := by simp; omega
        clear d e fk
        go_wp2
        exact ⟨⟨k + 1, by go_num, by omega, (FK.out.poke c _).step c (by unfold mirU; rw [if_pos D.out]; rfl)⟩, by simp [intOf]; omega⟩
      · have D := hide' d
        have q : ((t[k].toNat : Int) == 76) = false := by simp; omega
        clear d e fk
        go_wp2
        exact ⟨⟨k + 1, by go_num, by omega, FK.out.step c (by unfold mirU; rw [if_neg D.out]; rfl)⟩, by simp [intOf]; omega⟩
    · have K := hide' (show k = t.size by omega)
      have c' : ¬ (k : Int) < (t.size : Int) := by omega
      have ff := FK.out
      rw [K.out] at ff
      have hcv := ff.string (cap := t.size)
      clear fk ff
      go_wp2
      go_ret
      exact ⟨rfl, FK.out.below⟩
end Go.Proofs.YtpbcgojfpmpgpaaDoor
