/-
  What the last text of this claim leans on, part 15: Oc3.
-/
import Derived.Test.YtdhbdkkchobinaaDoorJd14
namespace Go.Proofs.YtdhbdkkchobinaaDoor
open Go.RowKit
set_option linter.unusedVariables false

/-- Pairs of numbers in a block. -/
structure PC (w : World) (g n : Nat) (E : Nat → Nat × Nat) : Prop where
  lt : g < w.heap.size
  c0 : ∀ k, k < n → w.cell? ⟨g, k * 2, none⟩ = some (.int .i64 ((E k).1 : Int))
  c1 : ∀ k, k < n → w.cell? ⟨g, k * 2 + 1, none⟩ = some (.int .i64 ((E k).2 : Int))
  fz : ∀ k, w.frozen? ⟨g, k, none⟩ = false
theorem PC.drew {w : World} {g n : Nat} {E : Nat → Nat × Nat} (h : PC w g n E) : PC w.drew g n E := ⟨h.lt, h.c0, h.c1, h.fz⟩
theorem PC.ext {w : World} {g n : Nat} {E E' : Nat → Nat × Nat} (h : PC w g n E) (e : ∀ k, k < n → E k = E' k) : PC w g n E' := ⟨h.lt, fun k hk => by rw [← e k hk]; exact h.c0 k hk, fun k hk => by rw [← e k hk]; exact h.c1 k hk, h.fz⟩
theorem PC.set {w : World} {g n : Nat} {E : Nat → Nat × Nat} (h : PC w g n E) (i : Nat) (hi : i < n) (x : Nat × Nat) : PC ((w.setCell ⟨g, i * 2, none⟩ (.int .i64 (x.1 : Int))).setCell ⟨g, i * 2 + 1, none⟩ (.int .i64 (x.2 : Int))) g n (fun k => if k = i then x else E k) := by
  have o : ∀ (W : World) (a b : Nat) (u : Value), a ≠ b → (W.setCell ⟨g, a, none⟩ u).cell? ⟨g, b, none⟩ = W.cell? ⟨g, b, none⟩ := fun W a b u h => World.cell?_setCell_other _ ⟨g, a, none⟩ ⟨g, b, none⟩ _ (fun q => h (congrArg Addr.off q))
  refine ⟨by simpa using h.lt, fun k hk => ?_, fun k hk => ?_, fun k => by simp [World.frozen?_setCell]; exact h.fz k⟩
  · rw [o _ _ _ _ (by omega)]
    by_cases e : k = i
    · subst e
      simp only [if_true]
      exact World.cell?_setCell_same _ _ _ (h.c0 k hk)
    · rw [o _ _ _ _ (by omega), if_neg e]; exact h.c0 k hk
  · by_cases e : k = i
    · subst e
      simp only [if_true]
      exact World.cell?_setCell_same _ _ _ (by rw [o _ _ _ _ (by omega)]; exact h.c1 k hk)
    · rw [o _ _ _ _ (by omega), o _ _ _ _ (by omega), if_neg e]; exact h.c1 k hk
theorem rd_set2 {w w' : World} {g : Nat} (h : Rd g w w') (i j : Nat) (u v : Value) : Rd g w ((w'.setCell ⟨g, i, none⟩ u).setCell ⟨g, j, none⟩ v) :=
  ⟨h.os, h.tape, h.output, by simpa using h.size, fun k hk hg => by rw [heap_setCell_other _ _ _ _ _ hg, heap_setCell_other _ _ _ _ _ hg]; exact h.block k hk hg⟩
theorem rd_drew {w w' : World} {g : Nat} (h : Rd g w w') : Rd g w w'.drew := ⟨h.os, h.tape, h.output, h.size, h.block⟩
def ixR (n i k : Nat) : Nat := if k < i ∨ n ≤ k + i then n - 1 - k else k

set_option maxRecDepth 100000 in
set_option maxHeartbeats 3200000 in
theorem reverseP_any (g n c : Nat) (E : Nat → Nat × Nat) (w : World) (h0 : 0 < n) (hn : n ≤ 1000) (hP : PC w g n E) :
    Calls Tryd.prog 239 #[.slice (some ⟨g, 0, none⟩) n c] w fun e w' => e = .returned (.tuple #[]) ∧ PC w' g n (fun k => E (n - 1 - k)) ∧ Rd g w w' := by
  have HP := hide' (show PC w g n (fun k => E (ixR n 0 k)) from hP.ext (fun k hk => by unfold ixR; rw [if_neg (by omega)]))
  clear hP
  go_enter Tryd.func239, Tryd.ntmps239
  go_wp2
  go_loopw [2, 3] (fun iv jv wr => ∃ i : Nat, iv = .int .i64 (i : Int) ∧ jv = .int .i64 ((n : Int) - 1 - (i : Int)) ∧ 2 * i ≤ n + 1 ∧ Hid (PC wr g n (fun k => E (ixR n i k)) ∧ Rd g w wr)) (fun iv _ _ => n - (intOf iv).toNat)
  case atStart => exact ⟨0, rfl, by simp, by omega, hide' ⟨HP.out, Rd.refl _ _⟩⟩
  case round =>
    clear HP
    obtain ⟨i, rfl, rfl, hi, H1⟩ := hrel
    by_cases d : (i : Int) < (n : Int) - 1 - (i : Int)
    · obtain ⟨j, hj⟩ : ∃ j : Nat, (n : Int) - 1 - (i : Int) = (j : Int) := ⟨n - 1 - i, by omega⟩
      obtain ⟨x, hx⟩ : ∃ x, E (ixR n i i) = x := ⟨_, rfl⟩
      obtain ⟨y, hy⟩ : ∃ y, E (ixR n i j) = y := ⟨_, rfl⟩
      have a0 := H1.out.1.c0 i (by omega)
      have a1 := H1.out.1.c1 i (by omega)
      have b0 := H1.out.1.c0 j (by omega)
      have b1 := H1.out.1.c1 j (by omega)
      have f0 := H1.out.1.fz
      simp only [hx] at a0 a1
      simp only [hy] at b0 b1
      rw [hj] at d
      have e0 := f0 (i * 2)
      have e1 := f0 (i * 2 + 1)
      have e2 := f0 (j * 2)
      have e3 := f0 (j * 2 + 1)
      have JI := hide' (show j = n - 1 - i by omega)
      have IJ := hide' (show i < j by omega)
      have NX := hide' (show ∀ k, k < n → (if k = j then x else if k = i then y else E (ixR n i k)) = E (ixR n (i + 1) k) by
        intro k hk
        have h1 := JI.out
        have h2 := IJ.out
        by_cases q1 : k = j
        · rw [if_pos q1, ← hx]
          unfold ixR
          rw [if_neg (by omega), if_pos (by omega)]
          congr 1
          omega
        · rw [if_neg q1]
          by_cases q2 : k = i
          · rw [if_pos q2, ← hy]
            unfold ixR
            rw [if_neg (by omega), if_pos (by omega)]
            congr 1
            omega
          · rw [if_neg q2]
            unfold ixR
            by_cases q3 : k < i ∨ n ≤ k + i
            · rw [if_pos q3, if_pos (by omega)]
            · rw [if_neg q3, if_neg (by omega)])
      have PN := hide' (show PC (((((wr.setCell ⟨g, i * 2, none⟩ (.int .i64 (y.1 : Int))).setCell ⟨g, i * 2 + 1, none⟩ (.int .i64 (y.2 : Int))).setCell ⟨g, j * 2, none⟩ (.int .i64 (x.1 : Int))).setCell ⟨g, j * 2 + 1, none⟩ (.int .i64 (x.2 : Int))).drew) g n (fun k => E (ixR n (i + 1) k)) from
        (((H1.out.1.set i (by omega) y).set j (by omega) x).drew).ext NX.out)
      have RN := hide' (rd_drew (rd_set2 (rd_set2 H1.out.2 (i * 2) (i * 2 + 1) (.int .i64 (y.1 : Int)) (.int .i64 (y.2 : Int))) (j * 2) (j * 2 + 1) (.int .i64 (x.1 : Int)) (.int .i64 (x.2 : Int))))
      clear hx hy NX JI H1
      go_wp2
      go_region
      go_wp2
      exact ⟨⟨i + 1, by go_num, by go_num, by omega, hide' ⟨PN.out, RN.out⟩⟩, by simp [intOf]; omega⟩
    · have FI := hide' (show PC wr g n (fun k => E (n - 1 - k)) from H1.out.1.ext (fun k hk => by
        show E (ixR n i k) = _
        unfold ixR
        split
        · rfl
        · rw [show n - 1 - k = k by omega]))
      go_wp2
      go_end0
      exact ⟨rfl, FI.out, H1.out.2⟩
end Go.Proofs.YtdhbdkkchobinaaDoor

