/-
  What the last text of this claim leans on, part 22: Pr6.
-/
import Derived.Test.YtljdidimoagnhaaDoorJu21
namespace Go.Proofs.YtljdidimoagnhaaDoor
open Go.RowKit
set_option linter.unusedVariables false

/-- The table read as a number, low bit first. -/
def tabNum (xs : List Int) : Nat → Nat
  | 0 => 0
  | k + 1 => tabNum xs k + (xs.getD k 0).toNat * 2 ^ k
theorem tabNum_lt (xs : List Int) (h : ∀ k, k < xs.length → 0 ≤ xs.getD k 0 ∧ xs.getD k 0 < 2) : ∀ k, k ≤ xs.length → tabNum xs k < 2 ^ k
  | 0, _ => by simp [tabNum]
  | k + 1, hk => by
    have ih := tabNum_lt xs h k (by omega)
    have hx := h k (by omega)
    have : (xs.getD k 0).toNat = 0 ∨ (xs.getD k 0).toNat = 1 := by omega
    unfold tabNum
    rw [Nat.pow_succ]
    rcases this with e | e <;> rw [e] <;> omega

theorem wrapsum (t k : Nat) (x : Int) (ht : t ≤ 255) (hx : x = 0 ∨ x = 1) (hk : k ≤ 7) : wrap64 ((t : Int) + wrap64 (x * 2 ^ k)) = ((t + x.toNat * 2 ^ k : Nat) : Int) := by
  have hp : 2 ^ k ≤ 2 ^ 7 := Nat.pow_le_pow_right (by omega) hk
  have e : ((2 : Int) ^ k) = ((2 ^ k : Nat) : Int) := by simp
  rw [e]
  generalize 2 ^ k = p at *
  rcases hx with rfl | rfl
  · simp [wrap64]; omega
  · simp [wrap64]; omega

set_option maxHeartbeats 1600000 in
theorem numberOf_any (o : Out) (a : Option Addr) (n c : Nat) (w : World) (hR : ArgR w o a n c) (h8 : n = 8) (hb : ∀ k, k < o.table.length → 0 ≤ o.table.getD k 0 ∧ o.table.getD k 0 < 2) :
    Calls Tryd.prog 145 #[.slice a n c] w fun e w' => e = .returned (.int .i64 (tabNum o.table 8 : Int)) ∧ w' = w := by
  have hlen := hR.len
  have HR := hide' hR
  have HB := hide' hb
  have H8 := hide' h8
  have n8 : n ≤ 8 := by omega
  have HL := hide' hlen
  clear hR hb h8 hlen
  go_enter Tryd.func145, Tryd.ntmps145
  go_wp2
  go_loop [3, 8] (fun sv kv => ∃ k t : Nat, kv = .int .i64 (k : Int) ∧ sv = .int .i64 (t : Int) ∧ k ≤ n ∧ t ≤ 255 ∧ t = tabNum o.table k) (fun _ kv => n - (intOf kv).toNat)
  case atStart => exact ⟨0, 0, rfl, rfl, by omega, by omega, rfl⟩
  case round =>
    obtain ⟨k, t, rfl, rfl, hk, ht, hte⟩ := hrel
    have HT := hide' hte
    clear hte
    by_cases d : (k : Int) < (n : Int)
    · have hkl : k < o.table.length := by have := HL.out; omega
      obtain ⟨g, off, rfl, hg, hc⟩ := HR.out.cells k hkl
      have hx := HB.out k hkl
      have hget : o.table.getD k 0 = o.table[k] := by simp [List.getD, hkl]
      rw [hget] at hx
      have hlt := tabNum_lt o.table HB.out (k + 1) (by omega)
      have hp8 : 2 ^ (k + 1) ≤ 2 ^ 8 := Nat.pow_le_pow_right (by omega) (by omega)
      have T2 := hide' (show tabNum o.table (k + 1) = t + (o.table[k]).toNat * 2 ^ k by unfold tabNum; rw [hget, ← HT.out])
      have L2 := hide' (show tabNum o.table (k + 1) ≤ 255 by omega)
      have hcase : o.table[k] = 0 ∨ o.table[k] = 1 := by omega
      clear hlt hp8 hget hx
      have hk7 : (k : Int) ≤ 7 := by omega
      go_wp2
      rw [wrapsum t k o.table[k] ht hcase (by omega)]
      exact ⟨⟨k + 1, _, by go_num, rfl, by omega, by have := L2.out; rw [T2.out] at this; exact this, T2.out.symm⟩, by simp [intOf]; omega⟩
    · go_wp2
      go_ret
      have : k = 8 := by have := H8.out; omega
      rw [HT.out, this]
      exact ⟨rfl, rfl⟩

/-- At block g a list of n bytes of the call's own, the first k of which are f's. -/
structure FillB (w0 w : World) (g n k : Nat) (f : Nat → UInt8) : Prop where
  below : Below w0.heap.size w0 w
  ge : w0.heap.size ≤ g
  lt : g < w.heap.size
  cells : ∀ j, j < n → ∃ v, w.cell? ⟨g, j, none⟩ = some v ∧ (j < k → v = bval (f j))
  fz : ∀ j, w.frozen? ⟨g, j, none⟩ = false
theorem FillB.start (w : World) (n : Nat) (f : Nat → UInt8) (z : Value) (t : TypeId) : FillB w (w.alloc (.cells (madeCells #[z] n) t)) w.heap.size n 0 f := by
  refine ⟨(Below.refl _ _).alloc (Nat.le_refl _) _, Nat.le_refl _, by simp, fun j hj => ⟨(madeCells #[z] n)[j]'(by rw [size_madeCells]; exact hj), ?_, by omega⟩, fun j => by simp⟩
  rw [World.cell?_alloc_at _ _ _ _ rfl]
  exact Array.getElem?_eq_getElem (by rw [size_madeCells]; exact hj)
theorem FillB.step {w0 w : World} {g n k : Nat} {f : Nat → UInt8} (h : FillB w0 w g n k f) (hk : k < n) {x : Value} (hx : bval (f k) = x) : FillB w0 (w.setCell ⟨g, k, none⟩ x) g n (k + 1) f := by
  refine ⟨h.below.setCell h.ge _, h.ge, by rw [World.size_setCell]; exact h.lt, fun j hj => ?_, fun j => by rw [World.frozen?_setCell]; exact h.fz j⟩
  by_cases e : j = k
  · subst e
    obtain ⟨v, hv, -⟩ := h.cells j hj
    exact ⟨_, World.cell?_setCell_same _ _ _ hv, fun _ => hx.symm⟩
  · obtain ⟨v, hv, hv'⟩ := h.cells j hj
    refine ⟨v, ?_, fun _ => hv' (by omega)⟩
    exact (World.cell?_setCell_other _ ⟨g, k, none⟩ ⟨g, j, none⟩ _ (fun q => e (congrArg Addr.off q).symm)).trans hv
theorem FillB.string {w0 w : World} {g n cap : Nat} {f : Nat → UInt8} (h : FillB w0 w g n n f) :
    (convert 105 9 (.slice (some ⟨g, 0, none⟩) n cap)).run Tryd.prog w = .ok (.string ⟨((List.range n).map f).toArray⟩) w := by
  have := run_convert_bytes_back (P := Tryd.prog) w 105 9 5 ⟨g, 0, none⟩ cap ((List.range n).map f) Tryd.underlying105 Tryd.underlying5 Tryd.underlying9 (fun j hj => by
    have hadd : (⟨g, 0, none⟩ : Addr).add j = ⟨g, j, none⟩ := by unfold Addr.add; split <;> simp_all
    simp at hj
    obtain ⟨v, hv, hv'⟩ := h.cells j hj
    rw [hadd, hv, hv' hj]
    simp [bval])
  simpa using this

def stB (xs : List Int) (i : Nat) : UInt8 := UInt8.ofNat (48 + (xs.getD i 0).toNat)

set_option maxHeartbeats 1600000 in
theorem statesOf_any (o : Out) (a : Option Addr) (n c : Nat) (w : World) (hR : ArgR w o a n c) (hn4 : n ≤ 4096) (hb : ∀ k, k < o.table.length → 0 ≤ o.table.getD k 0 ∧ o.table.getD k 0 < 4) :
    Calls Tryd.prog 146 #[.slice a n c] w fun e w' => e = .returned (.string ⟨((List.range n).map (stB o.table)).toArray⟩) ∧ Below w.heap.size w w' := by
  have hlen := hR.len
  have HR := hide' hR
  have HB := hide' hb
  have HL := hide' hlen
  have hmk := run_make_row' (P := Tryd.prog) 105 5 (.int .u8 0) 1 Tryd.underlying105 info_u8 rfl .i64 .i64 n (by omega) (by omega)
  have S := hide' (FillB.start w n (stB o.table) (.int .u8 0) 5)
  clear hR hb hlen
  go_enter Tryd.func146, Tryd.ntmps146
  go_wp2
  go_loopw [11] (fun kv wr => ∃ k : Nat, kv = .int .i64 (k : Int) ∧ k ≤ n ∧ FillB w wr w.heap.size n k (stB o.table)) (fun kv _ => n - (intOf kv).toNat)
  case atStart => exact ⟨0, rfl, by omega, S.out⟩
  case round =>
    obtain ⟨k, rfl, hk, fk⟩ := hrel
    have FK := hide' fk
    clear hmk S
    by_cases d : (k : Int) < (n : Int)
    · have hkl : k < o.table.length := by have := HL.out; omega
      obtain ⟨g, off, rfl, hg, hc⟩ := (HR.out.below fk.below).cells k hkl
      obtain ⟨v, hv, -⟩ := fk.cells k (by omega)
      have hf := fk.fz k
      have hx := HB.out k hkl
      have hget : o.table.getD k 0 = o.table[k] := by simp [List.getD, hkl]
      have X := hide' (show bval (stB o.table k) = .int .u8 (48 + o.table[k]) by
        unfold stB
        rw [bval_dig _ (by omega), hget]
        rw [hget] at hx
        congr 1
        omega)
      rw [hget] at hx
      clear fk hget
      go_wp2
      exact ⟨⟨k + 1, by go_num, by omega, FK.out.step (by omega) X.out⟩, by simp [intOf]; omega⟩
    · have K := hide' (show k = n by omega)
      have ff := FK.out
      rw [K.out] at ff
      have hcv := ff.string (cap := n)
      clear fk ff
      go_wp2
      go_ret
      exact ⟨rfl, FK.out.below⟩
end Go.Proofs.YtljdidimoagnhaaDoor

