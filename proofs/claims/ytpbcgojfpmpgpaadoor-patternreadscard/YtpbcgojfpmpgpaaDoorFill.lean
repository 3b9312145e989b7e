/-
  A new list that is filled place by place; the number of windows (entriesOf).
-/
import Derived.Test.YtpbcgojfpmpgpaaDoorRk
import Derived.Deep.OwnRows
namespace Go.Proofs.YtpbcgojfpmpgpaaDoor
open Go.RowKit

theorem hide {p : Prop} (h : p) : Hid p := h
theorem unhide {p : Prop} (h : Hid p) : p := h

/-- At block g a list of n numbers, the first k of which are f's. -/
structure Fill (g n k : Nat) (f : Nat → Int) (w : World) : Prop where
  lt : g < w.heap.size
  cells : ∀ j, j < n → ∃ v, w.cell? ⟨g, j, none⟩ = some v ∧ (j < k → v = .int .i64 (f j))
  fz : ∀ j, w.frozen? ⟨g, j, none⟩ = false

theorem Fill.start (w : World) (n : Nat) (f : Nat → Int) (z : Value) (t : TypeId) : Fill w.heap.size n 0 f (w.alloc (.cells (madeCells #[z] n) t)) := by
  refine ⟨by simp, fun j hj => ⟨(madeCells #[z] n)[j]'(by rw [size_madeCells]; exact hj), ?_, by omega⟩, fun j => by simp⟩
  rw [World.cell?_alloc_at _ _ _ _ rfl]
  exact Array.getElem?_eq_getElem (by rw [size_madeCells]; exact hj)
theorem Fill.step {g n k : Nat} {f : Nat → Int} {w : World} (h : Fill g n k f w) (hk : k < n) : Fill g n (k + 1) f (w.setCell ⟨g, k, none⟩ (.int .i64 (f k))) := by
  refine ⟨by rw [World.size_setCell]; exact h.lt, fun j hj => ?_, fun j => by rw [World.frozen?_setCell]; exact h.fz j⟩
  by_cases e : j = k
  · subst e
    obtain ⟨v, hv, -⟩ := h.cells j hj
    exact ⟨_, World.cell?_setCell_same (w := w) (a := ⟨g, j, none⟩) (v := _) (h := hv), fun _ => rfl⟩
  · obtain ⟨v, hv, hv'⟩ := h.cells j hj
    refine ⟨v, ?_, fun _ => hv' (by omega)⟩
    exact (World.cell?_setCell_other (w := w) (a := ⟨g, k, none⟩) (b := ⟨g, j, none⟩) (v := _) (h := fun q => e (congrArg Addr.off q).symm)).trans hv
theorem Fill.rd {b g n k : Nat} {f : Nat → Int} {w w' : World} (h : Fill g n k f w) (r : Rd b w w') (hb : g ≠ b) : Fill g n k f w' := by
  refine ⟨Nat.lt_of_lt_of_le h.lt r.size, fun j hj => ?_, fun j => ?_⟩
  · obtain ⟨v, hv, hv'⟩ := h.cells j hj
    exact ⟨v, by rw [r.cell g j h.lt hb]; exact hv, hv'⟩
  · rw [r.frozen g j h.lt hb]; exact h.fz j
theorem Fill.other {g n k : Nat} {f : Nat → Int} {w : World} (h : Fill g n k f w) {p : Addr} (hp : g ≠ p.block) (u : Value) : Fill g n k f (w.setCell p u) := by
  have e : (w.setCell p u).heap[g]? = w.heap[g]? := Below.heap_setCell _ _ _ _ hp
  refine ⟨by rw [World.size_setCell]; exact h.lt, fun j hj => ?_, fun j => ?_⟩
  · obtain ⟨v, hv, hv'⟩ := h.cells j hj
    exact ⟨v, (World.cell?_of_block (w := w) (a := ⟨g, j, none⟩) e).trans hv, hv'⟩
  · exact (World.frozen?_of_block (w := w) (a := ⟨g, j, none⟩) e).trans (h.fz j)
theorem Fill.tab {g n cap : Nat} {f : Nat → Int} {w : World} (h : Fill g n n f w) : Tab w (.slice (some ⟨g, 0, none⟩) n cap) ((List.range n).map f) := by
  refine Or.inr ⟨g, cap, by simp, h.lt, fun k hk => ?_⟩
  simp at hk
  obtain ⟨v, hv, hv'⟩ := h.cells k hk
  rw [hv, hv' hk]; simp
theorem Tab.other {w : World} {v : Value} {xs : List Int} (h : Tab w v xs) {p : Addr} (u : Value) (hp : ∀ g c, v = .slice (some ⟨g, 0, none⟩) xs.length c → g ≠ p.block) : Tab (w.setCell p u) v xs := by
  rcases h with h | ⟨g, cap, hv, hg, hc⟩
  · exact Or.inl h
  · have e : (w.setCell p u).heap[g]? = w.heap[g]? := Below.heap_setCell _ _ _ _ (hp g cap hv)
    exact Or.inr ⟨g, cap, hv, by rw [World.size_setCell]; exact hg, fun k hk => (World.cell?_of_block (w := w) (a := ⟨g, k, none⟩) e).trans (hc k hk)⟩

/-- How many windows: the product stops above 4096. -/
def entF (n : Nat) : Nat → Nat → Nat
  | 0, e => e
  | f + 1, e => if e ≤ 4096 then entF n f (e * (n * n)) else e
def entOf (n m : Nat) : Nat := entF n m n

theorem entOf_small (n m : Nat) (hn : 2 ≤ n) (hn' : n ≤ 4) (hm : m ≤ 2) : entOf n m = entries n m := by
  have h1 : n = 2 ∨ n = 3 ∨ n = 4 := by omega
  have h2 : m = 0 ∨ m = 1 ∨ m = 2 := by omega
  rcases h1 with rfl | rfl | rfl <;> rcases h2 with rfl | rfl | rfl <;> decide

theorem entF_stop {n e : Nat} (h : ¬ e ≤ 4096) : ∀ f, entF n f e = e
  | 0 => rfl
  | f + 1 => by simp [entF, h]

set_option maxHeartbeats 800000 in
theorem entries_any (n m : Nat) (N M : Int) (w : World) (hN : N = n) (hM : M = m) (hn : 2 ≤ n) (hn' : n ≤ 4) (hm : m ≤ 4611686018427387904) :
    Calls Tryd.prog 116 #[.int .i64 N, .int .i64 M] w fun e w' => e = .returned (.int .i64 ((entOf n m : Nat) : Int)) ∧ w' = w := by
  subst hN hM
  have h1 : n = 2 ∨ n = 3 ∨ n = 4 := by omega
  rcases h1 with rfl | rfl | rfl
  all_goals
    go_enter Tryd.func116, Tryd.ntmps116
    go_wp2
    go_loop [5, 6] (fun ev iv => ∃ k e : Nat, iv = .int .i64 (k : Int) ∧ ev = .int .i64 (e : Int) ∧ k ≤ m ∧ e ≤ 65536 ∧ entF _ (m - k) e = entOf _ m) (fun _ iv => m - (intOf iv).toNat)
    case atStart => exact ⟨0, _, rfl, rfl, by omega, by omega, rfl⟩
    case round =>
      obtain ⟨k, e, rfl, rfl, hk, he, hent⟩ := hrel
      have HE := hide hent
      clear hent
      by_cases hkm : (k : Int) < (m : Int)
      · by_cases hee : (e : Int) ≤ 4096
        · go_wp2
          have e1 := unhide HE
          rw [show m - k = (m - (k + 1)) + 1 by omega, entF, if_pos (by omega)] at e1
          refine ⟨⟨k + 1, _, by go_num, ?_, by omega, ?_, e1⟩, by simp [intOf]; omega⟩
          · go_num
          · omega
        · go_wp2
          go_ret
          have e1 := unhide HE
          rw [entF_stop (by omega)] at e1
          rw [← e1]
          exact ⟨rfl, rfl⟩
      · go_wp2
        go_ret
        have e1 := unhide HE
        rw [show m - k = 0 by omega, entF] at e1
        rw [← e1]
        exact ⟨rfl, rfl⟩
end Go.Proofs.YtpbcgojfpmpgpaaDoor
