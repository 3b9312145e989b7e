/-
  What the last text of this claim leans on, part 3: Fill, Ref2, Ow, PSpec, Pa1, Pa2, Pa3, Pa4, Pa5, Pa6, Al1, Wa1, Ci0, Sw6.
-/
import Derived.Test.YtpajdmhgonmgoaaDoorYs2
import Derived.Test.YtpajdmhgonmgoaaDoorYs1
import Derived.Deep.OwnRows
import Derived.Deep.AppendLies
import Derived.Deep.RegionHeld3
import Derived.Deep.RegionLaw
import Derived.Deep.RegionWith
import Derived.Laws.IdiomStrings
import Derived.Laws.MakeOwn
import Derived.Lib.BufferWrite
import Derived.Lib.Hide
import Derived.Lib.Walk
import Derived.WalkKit
import Derived.WalkSmall
namespace Go.Proofs.YtpajdmhgonmgoaaDoor
open Go.RowKit

/-- At block g a list of n numbers, the first k of which are f's. -/
structure Fill (g n k : Nat) (f : Nat → Int) (w : World) : Prop where
  lt : g < w.heap.size
  cells : ∀ j, j < n → ∃ v, w.cell? ⟨g, j, none⟩ = some v ∧ (j < k → v = .int .i64 (f j))
  fz : ∀ j, w.frozen? ⟨g, j, none⟩ = false

theorem Fill.start (w : World) (n : Nat) (f : Nat → Int) (z : Value) (t : TypeId) : Fill w.heap.size n 0 f (w.alloc (.cells (madeCells #[z] n) t)) := by
  refine ⟨by simp, fun j hj => ⟨(madeCells #[z] n)[j]'(by rw [size_madeCells]; exact hj), ?_, by omega⟩, fun j => by simp⟩
  rw [World.cell?_alloc_at _ _ _ _ rfl]
  exact Array.getElem?_eq_getElem (by rw [size_madeCells]; exact hj)
theorem Fill.step {g n k : Nat} {f : Nat → Int} {w : World} (h : Fill g n k f w) (hk : k < n) : Fill g n (k + 1) f (w.setCell ⟨g, k, none⟩ (.int .i64 (f k))) := by
  refine ⟨by rw [World.size_setCell]; exact h.lt, fun j hj => ?_, fun j => by rw [World.frozen?_setCell]; exact h.fz j⟩
  by_cases e : j = k
  · subst e
    obtain ⟨v, hv, -⟩ := h.cells j hj
    exact ⟨_, World.cell?_setCell_same (w := w) (a := ⟨g, j, none⟩) (v := _) (h := hv), fun _ => rfl⟩
  · obtain ⟨v, hv, hv'⟩ := h.cells j hj
    refine ⟨v, ?_, fun _ => hv' (by omega)⟩
    exact (World.cell?_setCell_other (w := w) (a := ⟨g, k, none⟩) (b := ⟨g, j, none⟩) (v := _) (h := fun q => e (congrArg Addr.off q).symm)).trans hv
theorem Fill.rd {b g n k : Nat} {f : Nat → Int} {w w' : World} (h : Fill g n k f w) (r : Rd b w w') (hb : g ≠ b) : Fill g n k f w' := by
  refine ⟨Nat.lt_of_lt_of_le h.lt r.size, fun j hj => ?_, fun j => ?_⟩
  · obtain ⟨v, hv, hv'⟩ := h.cells j hj
    exact ⟨v, by rw [r.cell g j h.lt hb]; exact hv, hv'⟩
  · rw [r.frozen g j h.lt hb]; exact h.fz j
end Go.Proofs.YtpajdmhgonmgoaaDoor

namespace Go.Proofs.YtpajdmhgonmgoaaDoor
open Go.RowKit
set_option linter.unusedVariables false

theorem Tab.parts {w : World} {v : Value} {xs : List Int} (h : Tab w v xs) :
    ∃ a c, v = .slice a xs.length c ∧ ∀ k (h : k < xs.length), ∃ g, a = some ⟨g, 0, none⟩ ∧ w.cell? ⟨g, k, none⟩ = some (.int .i64 xs[k]) := by
  rcases h with ⟨rfl, rfl⟩ | ⟨g, cap, rfl, hg, hc⟩
  · exact ⟨none, 0, rfl, fun k h => absurd h (by simp)⟩
  · exact ⟨_, cap, rfl, fun k h => ⟨g, rfl, hc k h⟩⟩

end Go.Proofs.YtpajdmhgonmgoaaDoor

namespace Go.Proofs.YtpajdmhgonmgoaaDoor
open Go.RowKit
set_option linter.unusedVariables false

theorem info_int : (Tryd.prog.info? 3).map (fun i => (i.zero, i.size, i.bytes)) = some (some (.int .i64 0), 1, 8) := by kernel_rfl
theorem Tab.slice {w : World} {v : Value} {xs : List Int} (h : Tab w v xs) : ∃ a n c, v = .slice a n c := by
  rcases h with ⟨-, h⟩ | ⟨g, cap, h, -, -⟩
  · exact ⟨_, _, _, h⟩
  · exact ⟨_, _, _, h⟩
end Go.Proofs.YtpajdmhgonmgoaaDoor

namespace Go.Proofs.YtpajdmhgonmgoaaDoor

/-- One tag, at j: on, done, or wrong. -/
abbrev Go1 : Type := (Nat × Nat × Nat × List Int) ⊕ (List Int ⊕ (Nat × Nat))
abbrev Go1.on (i x y : Nat) (xs : List Int) : Go1 := Sum.inl (i, x, y, xs)
abbrev Go1.done (xs : List Int) : Go1 := Sum.inr (Sum.inl xs)
end Go.Proofs.YtpajdmhgonmgoaaDoor

namespace Go.Proofs.YtpajdmhgonmgoaaDoor
open Go.RowKit
set_option linter.unusedVariables false

/-- What the reader holds, its text aside. -/
structure Rv where
  i : Nat
  fl : Int
  wd : Int
  hi : Int
  cs : Value
  rt : Int
  dn : Int
  bg : Int
  tm : Int

def Rv.val (r : Rv) (s : ByteArray) : Nat → Value
  | 0 => .string s
  | 1 => .int .i64 (r.i : Int)
  | 2 => .int .i64 r.fl
  | 3 => .int .i64 r.wd
  | 4 => .int .i64 r.hi
  | 5 => r.cs
  | 6 => .int .i64 r.rt
  | 7 => .int .i64 r.dn
  | 8 => .int .i64 r.bg
  | 9 => .int .i64 r.tm
  | _ => .bool false

structure RAt (b : Nat) (s : ByteArray) (r : Rv) (w : World) : Prop where
  cell : ∀ k, k < 10 → w.cell? ⟨b, k, none⟩ = some (r.val s k)
  fz : ∀ k, k < 10 → w.frozen? ⟨b, k, none⟩ = false

theorem RAt.lt {b : Nat} {s : ByteArray} {r : Rv} {w : World} (h : RAt b s r w) : b < w.heap.size := by
  rcases Nat.lt_or_ge b w.heap.size with k | k
  · exact k
  · have := h.cell 0 (by omega); simp [World.cell?, Array.getElem?_eq_none k] at this
theorem RAt.block {b : Nat} {s : ByteArray} {r : Rv} {w w' : World} (h : RAt b s r w) (e : w'.heap[b]? = w.heap[b]?) : RAt b s r w' :=
  ⟨fun k hk => (World.cell?_of_block (w := w) (a := ⟨b, k, none⟩) e).trans (h.cell k hk), fun k hk => (World.frozen?_of_block (w := w) (a := ⟨b, k, none⟩) e).trans (h.fz k hk)⟩
theorem RAt.alloc {b : Nat} {s : ByteArray} {r : Rv} {w : World} (h : RAt b s r w) (o : Obj) : RAt b s r (w.alloc o) := h.block (Below.heap_alloc _ _ _ h.lt)
theorem RAt.below {b : Nat} {s : ByteArray} {r : Rv} {w w' : World} (h : RAt b s r w) (hb : Below w.heap.size w w') : RAt b s r w' := h.block (hb.block b h.lt)
theorem RAt.set {b : Nat} {s : ByteArray} {r r' : Rv} {w : World} (h : RAt b s r w) (k : Nat) (u : Value) (hk : k < 10) (h1 : r'.val s k = u) (h2 : ∀ j, j < 10 → j ≠ k → r'.val s j = r.val s j) : RAt b s r' (w.setCell ⟨b, k, none⟩ u) := by
  refine ⟨fun j hj => ?_, fun j hj => by rw [World.frozen?_setCell]; exact h.fz j hj⟩
  by_cases e : j = k
  · subst e; rw [h1]; exact World.cell?_setCell_same (w := w) (a := ⟨b, j, none⟩) (v := _) (h := h.cell j hj)
  · rw [h2 j hj e]; exact (World.cell?_setCell_other (w := w) (a := ⟨b, k, none⟩) (b := ⟨b, j, none⟩) (v := _) (h := fun q => e (congrArg Addr.off q).symm)).trans (h.cell j hj)

/-- The ten cells, and that they may be written. -/
structure Ten (b : Nat) (s : ByteArray) (r : Rv) (w : World) : Prop where
  c0 : w.cell? ⟨b, 0, none⟩ = some (.string s)
  c1 : w.cell? ⟨b, 1, none⟩ = some (.int .i64 (r.i : Int))
  c2 : w.cell? ⟨b, 2, none⟩ = some (.int .i64 r.fl)
  c3 : w.cell? ⟨b, 3, none⟩ = some (.int .i64 r.wd)
  c4 : w.cell? ⟨b, 4, none⟩ = some (.int .i64 r.hi)
  c5 : w.cell? ⟨b, 5, none⟩ = some (r.cs)
  c6 : w.cell? ⟨b, 6, none⟩ = some (.int .i64 r.rt)
  c7 : w.cell? ⟨b, 7, none⟩ = some (.int .i64 r.dn)
  c8 : w.cell? ⟨b, 8, none⟩ = some (.int .i64 r.bg)
  c9 : w.cell? ⟨b, 9, none⟩ = some (.int .i64 r.tm)
  f1 : w.frozen? ⟨b, 1, none⟩ = false
  f2 : w.frozen? ⟨b, 2, none⟩ = false
  f3 : w.frozen? ⟨b, 3, none⟩ = false
  f4 : w.frozen? ⟨b, 4, none⟩ = false
  f5 : w.frozen? ⟨b, 5, none⟩ = false
  f6 : w.frozen? ⟨b, 6, none⟩ = false
  f7 : w.frozen? ⟨b, 7, none⟩ = false
  f8 : w.frozen? ⟨b, 8, none⟩ = false
  f9 : w.frozen? ⟨b, 9, none⟩ = false
theorem RAt.ten {b : Nat} {s : ByteArray} {r : Rv} {w : World} (h : RAt b s r w) : Ten b s r w :=
  ⟨h.cell 0 (by omega), h.cell 1 (by omega), h.cell 2 (by omega), h.cell 3 (by omega), h.cell 4 (by omega), h.cell 5 (by omega), h.cell 6 (by omega), h.cell 7 (by omega), h.cell 8 (by omega), h.cell 9 (by omega), h.fz 1 (by omega), h.fz 2 (by omega), h.fz 3 (by omega), h.fz 4 (by omega), h.fz 5 (by omega), h.fz 6 (by omega), h.fz 7 (by omega), h.fz 8 (by omega), h.fz 9 (by omega)⟩

/-- What a method of the reader leaves: the reader so, and nothing else turned. -/
def Left (b : Nat) (s : ByteArray) (r : Rv) (w w' : World) : Prop := RAt b s r w' ∧ Rd b w w'
end Go.Proofs.YtpajdmhgonmgoaaDoor

namespace Go.Proofs.YtpajdmhgonmgoaaDoor
open Go.RowKit
set_option linter.unusedVariables false

end Go.Proofs.YtpajdmhgonmgoaaDoor

namespace Go.Proofs.YtpajdmhgonmgoaaDoor
open Go.RowKit
set_option linter.unusedVariables false

theorem RAt.posOf {b : Nat} {s : ByteArray} {r : Rv} {w : World} (h : RAt b s r w) : posOf b w = r.i := by
  unfold Go.Proofs.YtpajdmhgonmgoaaDoor.posOf; rw [h.ten.c1]; simp

end Go.Proofs.YtpajdmhgonmgoaaDoor

namespace Go.Proofs.YtpajdmhgonmgoaaDoor
open Go.RowKit
set_option linter.unusedVariables false

end Go.Proofs.YtpajdmhgonmgoaaDoor

namespace Go.Proofs.YtpajdmhgonmgoaaDoor
open Go.RowKit
set_option linter.unusedVariables false

end Go.Proofs.YtpajdmhgonmgoaaDoor

namespace Go.Proofs.YtpajdmhgonmgoaaDoor
open Go.RowKit
set_option linter.unusedVariables false

/-- At block g these ints, writable. -/
structure Cel (w : World) (g : Nat) (xs : List Int) : Prop where
  lt : g < w.heap.size
  cells : ∀ k, k < xs.length → w.cell? ⟨g, k, none⟩ = some (.int .i64 (xs.getD k 0))
  fz : ∀ k, w.frozen? ⟨g, k, none⟩ = false
theorem Cel.block {w w' : World} {g : Nat} {xs : List Int} (h : Cel w g xs) (hs : w.heap.size ≤ w'.heap.size) (e : w'.heap[g]? = w.heap[g]?) : Cel w' g xs :=
  ⟨Nat.lt_of_lt_of_le h.lt hs, fun k hk => (World.cell?_of_block (w := w) (a := ⟨g, k, none⟩) e).trans (h.cells k hk), fun k => (World.frozen?_of_block (w := w) (a := ⟨g, k, none⟩) e).trans (h.fz k)⟩
theorem Cel.rd {w w' : World} {g b : Nat} {xs : List Int} (h : Cel w g xs) (hr : Rd b w w') (hb : g ≠ b) : Cel w' g xs := h.block hr.size (hr.block g h.lt hb)
theorem Cel.below {w w' : World} {g : Nat} {xs : List Int} (h : Cel w g xs) (hb : Below w.heap.size w w') : Cel w' g xs := h.block hb.size (hb.block g h.lt)
theorem Cel.set {w : World} {g : Nat} {xs : List Int} (h : Cel w g xs) (p : Nat) (x : Int) (hp : p < xs.length) : Cel (w.setCell ⟨g, p, none⟩ (.int .i64 x)) g (xs.set p x) := by
  refine ⟨by rw [World.size_setCell]; exact h.lt, fun k hk => ?_, fun k => by rw [World.frozen?_setCell]; exact h.fz k⟩
  rw [List.length_set] at hk
  by_cases e : k = p
  · subst e
    rw [show (xs.set k x).getD k 0 = x by simp [List.getD, hk]]
    exact World.cell?_setCell_same (w := w) (a := ⟨g, k, none⟩) (v := _) (h := h.cells k hk)
  · rw [show (xs.set p x).getD k 0 = xs.getD k 0 by simp [List.getD, Ne.symm e]]
    exact (World.cell?_setCell_other (w := w) (a := ⟨g, p, none⟩) (b := ⟨g, k, none⟩) (v := _) (h := fun q => e (congrArg Addr.off q).symm)).trans (h.cells k hk)

end Go.Proofs.YtpajdmhgonmgoaaDoor

namespace Go.Proofs.YtpajdmhgonmgoaaDoor
open Go.RowKit
set_option linter.unusedVariables false

end Go.Proofs.YtpajdmhgonmgoaaDoor

namespace Go.Proofs.YtpajdmhgonmgoaaDoor
open Go.RowKit
set_option linter.unusedVariables false

/-- A pattern that came in, as a value: its cells anywhere. -/
structure ArgP (w : World) (xs : List Int) (a : Option Addr) (n c : Nat) : Prop where
  len : n = xs.length
  max : n ≤ maxLen
  cells : ∀ k (h : k < xs.length), ∃ g off, a = some ⟨g, off, none⟩ ∧ g < w.heap.size ∧ w.cell? ⟨g, off + k, none⟩ = some (.int .i64 xs[k])
theorem ArgP.below {w w' : World} {xs : List Int} {a : Option Addr} {n c : Nat} (h : ArgP w xs a n c) (hb : Below w.heap.size w w') : ArgP w' xs a n c :=
  ⟨h.len, h.max, fun k hk => by
    obtain ⟨g, off, e, hg, hc⟩ := h.cells k hk
    exact ⟨g, off, e, Nat.lt_of_lt_of_le hg hb.size, (World.cell?_of_block (w := w) (a := ⟨g, off + k, none⟩) (hb.block g hg)).trans hc⟩⟩
theorem ArgP.alloc {w : World} {xs : List Int} {a : Option Addr} {n c : Nat} (h : ArgP w xs a n c) (x : Obj) : ArgP (w.alloc x) xs a n c :=
  h.below ((Below.refl _ _).alloc (Nat.le_refl _) _)

def errOf (f : Nat) : Value := if f = 0 then .nilIface else .iface 48 (.int .i64 (f : Int))

end Go.Proofs.YtpajdmhgonmgoaaDoor

namespace Go.Proofs.YtpajdmhgonmgoaaDoor
open Go.RowKit
set_option linter.unusedVariables false

end Go.Proofs.YtpajdmhgonmgoaaDoor

namespace Go.Proofs.YtpajdmhgonmgoaaDoor
open Go.RowKit
set_option linter.unusedVariables false
set_option linter.unusedSimpArgs false
/-- What is wrong with a graph. -/
def FaG (P : Int) (xs : List EgT) (f : Nat) : Prop :=
  ((P < 1 ∨ 10 < P) ∧ f = 1) ∨ ((1 ≤ P ∧ P ≤ 10) ∧ 40 < xs.length ∧ f = 4) ∨ ((1 ≤ P ∧ P ≤ 10) ∧ xs.length ≤ 40 ∧ (∃ j, j < xs.length ∧ badE P (xs.getD j egz)) ∧ f = 1) ∨
  ((1 ≤ P ∧ P ≤ 10) ∧ xs.length ≤ 40 ∧ (∀ j, j < xs.length → ¬ badE P (xs.getD j egz)) ∧ allR P.toNat xs ∧ f = 0) ∨ ((1 ≤ P ∧ P ≤ 10) ∧ xs.length ≤ 40 ∧ (∀ j, j < xs.length → ¬ badE P (xs.getD j egz)) ∧ ¬ allR P.toNat xs ∧ f = 3)
/-- A graph that is right. -/
structure OkG (P : Nat) (xs : List EgT) : Prop where
  p1 : 1 ≤ P
  p2 : P ≤ 10
  n4 : xs.length ≤ 40
  ok : ∀ j, j < xs.length → ¬ badE P (xs.getD j egz)
  all : allR P xs
theorem FaG.good {P : Int} {xs : List EgT} (h : FaG P xs 0) : ∃ Q : Nat, P = (Q : Int) ∧ OkG Q xs := by
  unfold FaG at h
  rcases h with h | h | h | h | h
  · omega
  · omega
  · omega
  · obtain ⟨Q, rfl⟩ := Int.eq_ofNat_of_zero_le (show 0 ≤ P by omega)
    exact ⟨Q, rfl, by omega, by omega, h.2.1, h.2.2.1, by simpa using h.2.2.2.1⟩
  · omega
theorem FaG.of {P : Nat} {xs : List EgT} (h : OkG P xs) : FaG P xs 0 := Or.inr (Or.inr (Or.inr (Or.inl ⟨⟨by have := h.p1; omega, by have := h.p2; omega⟩, h.n4, h.ok, by simpa using h.all, rfl⟩)))
theorem FaG.only {P : Int} {xs : List EgT} {f g : Nat} (h : FaG P xs f) (k : FaG P xs g) : f = g := by
  unfold FaG at h k
  rcases h with h | h | h | h | h <;> rcases k with k | k | k | k | k
  all_goals first | omega | skip
  · obtain ⟨j, h1, h2⟩ := h.2.2.1; exact absurd h2 (k.2.2.1 j h1)
  · obtain ⟨j, h1, h2⟩ := h.2.2.1; exact absurd h2 (k.2.2.1 j h1)
  · obtain ⟨j, h1, h2⟩ := k.2.2.1; exact absurd h2 (h.2.2.1 j h1)
  · exact absurd h.2.2.2.1 k.2.2.2.1
  · obtain ⟨j, h1, h2⟩ := k.2.2.1; exact absurd h2 (h.2.2.1 j h1)
  · exact absurd k.2.2.2.1 h.2.2.2.1
def CheckOut (w : World) (P : Int) (xs : List EgT) (e : Ending) (w' : World) : Prop := ∃ f, FaG P xs f ∧ e = .returned (errOf f) ∧ Below w.heap.size w w'
set_option maxRecDepth 100000 in
set_option maxHeartbeats 12800000 in
theorem Check_any (P : Int) (xs : List EgT) (ea : Option Addr) (n c : Nat) (w : World) (hE : ArgE w xs ea n c) :
    Calls Tryd.prog 6 #[.agg #[.int .i64 P, .slice ea n c]] w (CheckOut w P xs) := by
  obtain ⟨w1, hw1⟩ : ∃ w1, w.alloc (.cells #[.int .i64 P, .slice ea n c] 24) = w1 := ⟨_, rfl⟩
  have HW1 := hide' hw1
  have B1 := hide' (show Below w.heap.size w w1 by rw [← hw1]; exact (Below.refl _ _).alloc (Nat.le_refl _) _)
  have R1 := hide' (show w1.heap[w.heap.size]? = some (.cells #[.int .i64 P, .slice ea n c] 24 (0, 0)) by rw [← hw1]; exact heap_alloc_new _ _)
  have HE := hide' (fun (V : World) (h : Below w.heap.size w V) => hE.below h)
  have HL := hide' hE.len
  have nm := hE.max
  have y0 := cell_of_row w1 _ 0 _ _ _ R1.out
  have y1 := cell_of_row w1 _ 1 _ _ _ R1.out
  simp at y0 y1
  have RW := hide' (fun (V : World) (h : Below w1.heap.size w1 V) => (h.block _ (ltS_of_block R1.out)).trans R1.out)
  clear hw1 hE
  go_enter Tryd.func6, Tryd.ntmps6
  go_upto_region 1 with fail
  rw [HW1.out]
  by_cases q1 : P < 1
  · go_wp2
    go_ret
    exact ⟨1, Or.inl ⟨Or.inl q1, rfl⟩, rfl, B1.out⟩
  by_cases q2 : 10 < P
  · go_wp2
    go_ret
    exact ⟨1, Or.inl ⟨Or.inr q2, rfl⟩, rfl, B1.out⟩
  by_cases q3 : 40 < (n : Int)
  · go_wp2
    go_ret
    exact ⟨4, Or.inr (Or.inl ⟨by omega, by have := HL.out; omega, rfl⟩), rfl, B1.out⟩
  go_wp2
  go_loopw [22] (fun iv wr => ∃ i : Nat, iv = .int .i64 (i : Int) ∧ i ≤ n ∧ Hid (Below w1.heap.size w1 wr) ∧ Hid (∀ j, j < i → ¬ badE P (xs.getD j egz))) (fun iv _ => n - (intOf iv).toNat)
  case atStart => exact ⟨0, rfl, by omega, hide' (Below.refl _ _), hide' fun j h => by omega⟩
  case round =>
    obtain ⟨i, rfl, hi, BW, HA⟩ := hrel
    clear y0 y1
    by_cases d : (i : Int) < (n : Int)
    · have hl : i < xs.length := by have := HL.out; omega
      obtain ⟨g, off, rfl, hg, c0, c1, c2⟩ := (HE.out wr (B1.out.trans (BW.out.mono B1.out.size))).cells i hl
      obtain ⟨⟨p, q, t⟩, hx⟩ : ∃ x, xs[i] = x := ⟨_, rfl⟩
      rw [hx] at c0 c1 c2
      simp only at c0 c1 c2
      have EQ := hide' (show xs.getD i egz = ⟨p, q, t⟩ by rw [eg_at hl, hx])
      have BAD := hide' (show badE P ⟨p, q, t⟩ → ∀ V, Below w.heap.size w V → CheckOut w P xs (.returned (errOf 1)) V from fun h V hV => ⟨1, Or.inr (Or.inr (Or.inl ⟨by omega, by have := HL.out; omega, ⟨i, hl, by rw [EQ.out]; exact h⟩, rfl⟩)), rfl, hV⟩)
      obtain ⟨eb, heb⟩ : ∃ eb, wr.heap.size = eb := ⟨_, rfl⟩
      obtain ⟨w4, hw4⟩ : ∃ w4, wr.alloc (.cells #[.int .i64 p, .int .i64 q, .int .i64 t] 46) = w4 := ⟨_, rfl⟩
      have E4 := hide' (show w4.heap[eb]? = some (.cells #[.int .i64 p, .int .i64 q, .int .i64 t] 46 (0, 0)) by rw [← hw4, ← heb]; exact heap_alloc_new _ _)
      have B4 := hide' (show Below w1.heap.size w1 w4 by rw [← hw4]; exact BW.out.alloc BW.out.size _)
      have HEB := hide' heb
      have HW4 := hide' hw4
      have IP := hide' (fun x V => isPlaceS_any P x (some ⟨g, off, none⟩) n c V)
      clear hx heb hw4
      go_upto_region 8 with fail
      rw [HEB.out, HW4.out]
      clear c0 c1 c2
      have y0 := cell_of_row w4 eb 0 _ _ _ E4.out
      have z0 := cell_of_row w4 _ 0 _ _ _ (RW.out w4 B4.out)
      have z1 := cell_of_row w4 _ 1 _ _ _ (RW.out w4 B4.out)
      simp at y0 z0 z1
      by_cases k1 : 0 ≤ p ∧ p < P
      · go_wp2_with fail
        refine (IP.out p _).mono ?_
        rw [inB_yes k1.1 k1.2]
        rintro e w5 ⟨rfl, b5⟩
        have B5 := hide' (B4.out.trans (b5.mono B4.out.size))
        have E5 := hide' ((b5.block _ (ltS_of_block E4.out)).trans E4.out)
        clear y0 z0 z1 b5
        have y1 := cell_of_row w5 eb 1 _ _ _ E5.out
        have z0 := cell_of_row w5 _ 0 _ _ _ (RW.out w5 B5.out)
        have z1 := cell_of_row w5 _ 1 _ _ _ (RW.out w5 B5.out)
        simp at y1 z0 z1
        by_cases k2 : 0 ≤ q ∧ q < P
        · go_wp2_with fail
          refine (IP.out q _).mono ?_
          rw [inB_yes k2.1 k2.2]
          rintro e w6 ⟨rfl, b6⟩
          have B6 := hide' (B5.out.trans (b6.mono B5.out.size))
          have E6 := hide' ((b6.block _ (ltS_of_block E5.out)).trans E5.out)
          have F6 := hide' (B1.out.trans (B6.out.mono B1.out.size))
          clear y1 z0 z1 b6
          have y0 := cell_of_row w6 eb 0 _ _ _ E6.out
          have y1 := cell_of_row w6 eb 1 _ _ _ E6.out
          have y2 := cell_of_row w6 eb 2 _ _ _ E6.out
          simp at y0 y1 y2
          by_cases k3 : p = q
          · have X := hide' (BAD.out (by unfold badE; simp only; omega) _ F6.out)
            have e3 : (p == q) = true := by simpa using k3
            clear k3 k1 k2
            go_wp2
            go_ret
            exact X.out
          · have e3 : (p == q) = false := by simpa using k3
            by_cases k4 : t < 1
            · have X := hide' (BAD.out (by unfold badE; simp only; omega) _ F6.out)
              clear k3 k1 k2
              go_wp2
              go_ret
              exact X.out
            · by_cases k5 : 100 < t
              · have X := hide' (BAD.out (by unfold badE; simp only; omega) _ F6.out)
                clear k3 k1 k2
                go_wp2
                go_ret
                exact X.out
              · have NB := hide' (show ∀ j, j < i + 1 → ¬ badE P (xs.getD j egz) from fun j h => by
                  by_cases e : j = i
                  · rw [e, EQ.out]; unfold badE; simp only; omega
                  · exact HA.out j (by omega))
                clear k3 k1 k2
                go_wp2
                exact ⟨⟨i + 1, by go_num, by omega, B6, NB⟩, by simp [intOf]; omega⟩
        · have X := hide' (BAD.out (show badE P ⟨p, q, t⟩ by unfold badE; simp only; omega))
          go_wp2_with fail
          refine (IP.out q _).mono ?_
          rw [inB_no k2]
          rintro e w6 ⟨rfl, b6⟩
          have F6 := hide' (B1.out.trans ((B5.out.trans (b6.mono B5.out.size)).mono B1.out.size))
          clear k1 k2 b6
          go_wp2
          go_ret
          exact X.out _ F6.out
      · have X := hide' (BAD.out (show badE P ⟨p, q, t⟩ by unfold badE; simp only; omega))
        go_wp2_with fail
        refine (IP.out p _).mono ?_
        rw [inB_no k1]
        rintro e w5 ⟨rfl, b5⟩
        have F5 := hide' (B1.out.trans ((B4.out.trans (b5.mono B4.out.size)).mono B1.out.size))
        clear k1 b5
        go_wp2
        go_ret
        exact X.out _ F5.out
    · obtain rfl : i = n := by omega
      obtain ⟨Q, rfl⟩ := Int.eq_ofNat_of_zero_le (show 0 ≤ P by omega)
      have z0 := cell_of_row wr _ 0 _ _ _ (RW.out wr BW.out)
      have z1 := cell_of_row wr _ 1 _ _ _ (RW.out wr BW.out)
      simp at z0 z1
      have OK := hide' (fun j (hj : j < xs.length) => HA.out j (by have := HL.out; omega))
      have CO := hide' (connected_any Q xs ea i c wr (HE.out wr (B1.out.trans (BW.out.mono B1.out.size))) (by omega) (by omega) (by omega) OK.out)
      have B5 := hide' (B1.out.trans (BW.out.mono B1.out.size))
      have RA := hide' (show (1 ≤ (Q : Int) ∧ (Q : Int) ≤ 10) ∧ xs.length ≤ 40 from ⟨by omega, by have := HL.out; omega⟩)
      go_wp2_with fail
      refine CO.out.mono ?_
      rintro e w6 ⟨⟨z, rfl, hz⟩, b6⟩
      have F6 := hide' (B5.out.trans (b6.mono B5.out.size))
      clear b6
      cases z with
      | true =>
        have Z := hide' (hz.1 rfl)
        clear hz
        go_wp2
        go_ret
        exact ⟨0, Or.inr (Or.inr (Or.inr (Or.inl ⟨RA.out.1, RA.out.2, OK.out, by simpa using Z.out, rfl⟩))), rfl, F6.out⟩
      | false =>
        have Z := hide' (show ¬ allR Q xs from fun h => by have := hz.2 h; cases this)
        clear hz
        go_wp2
        go_ret
        exact ⟨3, Or.inr (Or.inr (Or.inr (Or.inr ⟨RA.out.1, RA.out.2, OK.out, by simpa using Z.out, rfl⟩))), rfl, F6.out⟩
end Go.Proofs.YtpajdmhgonmgoaaDoor

