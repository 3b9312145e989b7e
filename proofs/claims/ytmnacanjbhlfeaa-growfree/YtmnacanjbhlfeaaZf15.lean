/-
  What the last text of this claim leans on, part 15: OpenGq.
-/
import Derived.Test.YtmnacanjbhlfeaaZf2
import Derived.Test.YtmnacanjbhlfeaaRows
import Derived.WalkKit
import Derived.ProofKit
import Derived.OpenShut
import Derived.ChangeSame
import Derived.ChangeSlices
import Derived.ChangeMaps5
import Derived.SliceStrings
import Derived.ChangeVars
import Derived.RowKit
import Derived.Carry
namespace Go.Proofs.Ytmnacanjbhlfeaa
open Go.ChangeShapes Go.WideShapes Go.ChangeAt Go.RowKit
open Go.ChangeMaps (setBlock shut_map_nil open_string shut_string keptBut_setBlock frozen?_setBlock heap_setBlock_same)
set_option linter.unusedVariables false
set_option linter.unusedSimpArgs false
set_option maxRecDepth 100000
theorem laidOutX : laidOutB Try.prog = true := by kernel_rfl
theorem ownX : ownKnob Try.prog.godebug = none := by kernel_rfl
/-- A text that came in. -/
theorem open_textX {H : Type} {enc : TypeId × Value → H} {W : World} {base : Nat} {v : Value} {d : DataW H} {p : List MemPlace}
    (hv : Value.okWide Try.prog W .any base 9 v) (h : DataW.Trod enc Try.prog W 0 (fun _ => true) true 9 v d p) :
    ∃ l : List UInt8, v = .string ⟨l.toArray⟩ ∧ d = .lit (.string l) ∧ p = [] ∧ l.length ≤ maxLen := by
  obtain ⟨s, rfl, rfl, rfl, hs⟩ := open_string Try.underlying9 hv h
  exact ⟨s.data.toList, by simp, rfl, rfl, by simpa using hs⟩
theorem shut_textX {H : Type} {enc : TypeId × Value → H} {W : World} {base : Nat} {sp : Nat → Bool} {held : Bool} {l : List UInt8} (hl : l.length ≤ maxLen) : DataW.Trod enc Try.prog W base sp held 9 (.string ⟨l.toArray⟩) (.lit (.string l)) [] := by
  have := shut_string (H := H) (enc := enc) (P := Try.prog) (w := W) (base := base) (sp := sp) (held := held) (s := ⟨l.toArray⟩) Try.underlying9 (show l.toArray.size ≤ maxLen by simpa using hl)
  simpa using this
/-- A list of texts as it is read. -/
theorem texts_argX {H : Type} {enc : TypeId × Value → H} {W : World} {fuel : Nat} {cs : List Value} {x : DataW H × List MemPlace}
    (h : DataW.trod enc Try.prog W 0 (fun _ => true) true fuel 26 cs = some x) :
    ∃ (xs : List (List UInt8)) (a : Option Addr) (c : Nat), cs = [.slice a xs.length c] ∧ ArgX W xs a xs.length c := by
  have q3 : Try.prog.cellsOf 9 = 1 := by kernel_rfl
  rcases open_strings Try.underlying26 Try.underlying9 q3 h with ⟨rfl, -⟩ | ⟨a, len, cap, ss, rfl, hb, hlc, hcm, hzl, -, hcell, hwf⟩
  · exact ⟨[], none, 0, rfl, ⟨rfl, by simp, fun k hk => absurd hk (by simp), fun k hk => absurd hk (by simp)⟩⟩
  · simp only [if_true] at hzl
    have hl : ((ss.take len).map fun s => s.data.toList).length = len := by simp; omega
    have ge : ∀ k, k < len → ((ss.take len).map fun s => s.data.toList).getD k [] = (ss.getD k ByteArray.empty).data.toList := fun k hk => by
      have h1 : k < ss.length := by omega
      simp [List.getD, List.getElem?_take, hk, h1]
    refine ⟨(ss.take len).map fun s => s.data.toList, some a, cap, by rw [hl], ⟨rfl, by omega, fun k hk => ?_, fun k hk => ?_⟩⟩
    · rw [hl] at hk
      rw [ge k hk]
      have h1 : k < ss.length := by omega
      have := hwf (ss.getD k ByteArray.empty) (by rw [List.getD, List.getElem?_eq_getElem h1]; exact List.getElem_mem h1)
      simpa using this
    · rw [hl] at hk
      rw [ge k hk]
      have hc0 := hcell 0 (by omega)
      have hck := hcell k (by omega)
      obtain ⟨g, off, sp⟩ := a
      have hsp : sp = none := by
        cases sp with
        | none => rfl
        | some q =>
          exfalso
          simp [Addr.add, World.cell?] at hc0
          split at hc0 <;> simp at hc0
      subst hsp
      have ea : (⟨g, off, none⟩ : Addr).add k = ⟨g, off + k, none⟩ := by
        unfold Addr.add
        split
        · rename_i hz; subst hz; rfl
        · rfl
      rw [ea] at hck
      refine ⟨g, off, rfl, ?_, ?_⟩
      · rcases Nat.lt_or_ge g W.heap.size with q | q
        · exact q
        · simp [World.cell?, Array.getElem?_eq_none q] at hck
      · rw [hck]
set_option maxRecDepth 100000 in
/-- A list of texts that came in. -/
theorem open_textsX {H : Type} {enc : TypeId × Value → H} {W : World} {base : Nat} {v : Value} {d : DataW H} {p : List MemPlace}
    (hv : Value.okWide Try.prog W .any base 26 v) (h : DataW.Trod enc Try.prog W 0 (fun _ => true) true 26 v d p) :
    ∃ (xs : List (List UInt8)) (a : Option Addr) (c : Nat), v = .slice a xs.length c ∧ ArgX W xs a xs.length c := by
  obtain ⟨a0, n0, c0, rfl⟩ := okWide_slice Try.underlying26 hv
  obtain ⟨fuel, h⟩ := h
  obtain ⟨xs, a, c, e, ha⟩ := texts_argX h
  simp [Value.cells] at e
  obtain ⟨rfl, rfl, rfl⟩ := e
  exact ⟨xs, _, _, rfl, ha⟩
end Go.Proofs.Ytmnacanjbhlfeaa

