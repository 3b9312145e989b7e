/-
  What several walks lean on: slices of the call's own, cells of a new block.
-/
import Derived.Test.YtpbcgojfpmpgpaaDoorRef2
import Derived.Deep.AppendLies
import Derived.Deep.OwnRows
import Derived.Deep.RegionHeld3
import Derived.Deep.RegionLaw
import Derived.Deep.RegionWith
import Derived.Laws.IdiomStrings
import Derived.Laws.MakeOwn
import Derived.Lib.BufferWrite
import Derived.Lib.Hide
import Derived.Lib.Walk
import Derived.WalkKit
import Derived.WalkSmall
namespace Go.Proofs.YtpbcgojfpmpgpaaDoor
open Go.RowKit
set_option linter.unusedVariables false

theorem info_int : (Tryd.prog.info? 3).map (fun i => (i.zero, i.size, i.bytes)) = some (some (.int .i64 0), 1, 8) := by kernel_rfl
theorem Tab.slice {w : World} {v : Value} {xs : List Int} (h : Tab w v xs) : ∃ a n c, v = .slice a n c := by
  rcases h with ⟨-, h⟩ | ⟨g, cap, h, -, -⟩
  · exact ⟨_, _, _, h⟩
  · exact ⟨_, _, _, h⟩
theorem ownsRow_block {w : World} {base : Nat} {e : TypeId} {v : Value} {n : Nat} {xs : List Value} (h : w.ownsRow base e 1 v n xs) : ∀ k, v.ownBlock = some k → base ≤ k := by
  intro k hk
  rcases h.2 with ⟨hv, -⟩ | ⟨g, cap, cur, hv, hg, -⟩
  · rw [hv] at hk; cases hk
  · rw [hv] at hk
    have : g = k := by simpa [Value.ownBlock] using hk
    omega
theorem ownsRow_slice {w : World} {base : Nat} {e : TypeId} {v : Value} {n : Nat} {xs : List Value} (h : w.ownsRow base e 1 v n xs) : ∃ a m c, v = .slice a m c := by
  rcases h.2 with ⟨hv, -⟩ | ⟨g, cap, cur, hv, -⟩
  · exact ⟨_, _, _, hv⟩
  · exact ⟨_, _, _, hv⟩
theorem ownsRow_tab {w : World} {base : Nat} {e : TypeId} {v : Value} {xs : List Int} (h : w.ownsRow base e 1 v xs.length (xs.map fun x => .int .i64 x)) : Tab w v xs := by
  rcases h.2 with ⟨hv, hn⟩ | ⟨g, cap, cur, hv, hg, hh, hc, hm, hs, ht⟩
  · exact Or.inl ⟨List.eq_nil_of_length_eq_zero hn, hv⟩
  · refine Or.inr ⟨g, cap, hv, ?_, fun k hk => ?_⟩
    · exact (Array.getElem?_eq_some_iff.1 hh).1
    · have h1 : (cur.toList.take (xs.length * 1))[k]? = some (.int .i64 xs[k]) := by
        rw [ht, List.getElem?_map, List.getElem?_eq_getElem hk]; rfl
      rw [List.getElem?_take] at h1
      simp only [World.cell?, hh]
      have : k < xs.length * 1 := by omega
      rw [if_pos this] at h1
      simpa using h1
theorem grownBy_drew {w w' : World} {r : Option Nat} (h : w.drew.grownBy w' r) : w.grownBy w' r := ⟨h.os, h.tape, h.output, h.size, h.block⟩
theorem num_size (s : ByteArray) (i : Nat) (h : i ≤ s.size) : (num s i).2 ≤ s.size := by
  have H : ∀ f i v, i + f = s.size → (numF s f i v).2 ≤ s.size := by
    intro f
    induction f with
    | zero => intro i v e; simp [numF]; omega
    | succ f ih =>
      intro i v e
      unfold numF
      split
      · exact ih _ _ (by omega)
      · simp; omega
  exact H _ _ _ (by omega)
theorem cell_all_new (w : World) (cs : Array Value) (u k : Nat) : (w.alloc (.cells cs u)).drew.cell? ⟨w.heap.size, k, none⟩ = cs[k]? := by
  have h : (w.alloc (.cells cs u)).heap[w.heap.size]? = some (.cells cs u) := by unfold World.alloc; simp
  show (w.alloc (.cells cs u)).cell? _ = _
  simp only [World.cell?, h]
  rfl
theorem cell_new_at (w : World) (cs : Array Value) (u k : Nat) : (w.alloc (.cells cs u)).cell? ⟨w.heap.size, k, none⟩ = cs[k]? := cell_all_new w cs u k
end Go.Proofs.YtpbcgojfpmpgpaaDoor
