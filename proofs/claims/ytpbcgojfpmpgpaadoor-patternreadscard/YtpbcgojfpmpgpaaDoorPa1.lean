/-
  The reader of package pattern in memory: ten cells; what a store into one leaves of the others.
-/
import Derived.Test.YtpbcgojfpmpgpaaDoorRd
import Derived.Test.YtpbcgojfpmpgpaaDoorPSpec
import Derived.Test.YtpbcgojfpmpgpaaDoorRef2
namespace Go.Proofs.YtpbcgojfpmpgpaaDoor
open Go.RowKit
set_option linter.unusedVariables false

/-- What the reader holds, its text aside. -/
structure Rv where
  i : Nat
  fl : Int
  wd : Int
  hi : Int
  cs : Value
  rt : Int
  dn : Int
  bg : Int
  tm : Int

def Rv.val (r : Rv) (s : ByteArray) : Nat → Value
  | 0 => .string s
  | 1 => .int .i64 (r.i : Int)
  | 2 => .int .i64 r.fl
  | 3 => .int .i64 r.wd
  | 4 => .int .i64 r.hi
  | 5 => r.cs
  | 6 => .int .i64 r.rt
  | 7 => .int .i64 r.dn
  | 8 => .int .i64 r.bg
  | 9 => .int .i64 r.tm
  | _ => .bool false

structure RAt (b : Nat) (s : ByteArray) (r : Rv) (w : World) : Prop where
  cell : ∀ k, k < 10 → w.cell? ⟨b, k, none⟩ = some (r.val s k)
  fz : ∀ k, k < 10 → w.frozen? ⟨b, k, none⟩ = false

theorem RAt.lt {b : Nat} {s : ByteArray} {r : Rv} {w : World} (h : RAt b s r w) : b < w.heap.size := by
  rcases Nat.lt_or_ge b w.heap.size with k | k
  · exact k
  · have := h.cell 0 (by omega); simp [World.cell?, Array.getElem?_eq_none k] at this
theorem RAt.block {b : Nat} {s : ByteArray} {r : Rv} {w w' : World} (h : RAt b s r w) (e : w'.heap[b]? = w.heap[b]?) : RAt b s r w' :=
  ⟨fun k hk => (World.cell?_of_block (w := w) (a := ⟨b, k, none⟩) e).trans (h.cell k hk), fun k hk => (World.frozen?_of_block (w := w) (a := ⟨b, k, none⟩) e).trans (h.fz k hk)⟩
theorem RAt.drewN {b : Nat} {s : ByteArray} {r : Rv} {w : World} (h : RAt b s r w) (n : Nat) : RAt b s r (w.drewN n) := h.block rfl
theorem RAt.alloc {b : Nat} {s : ByteArray} {r : Rv} {w : World} (h : RAt b s r w) (o : Obj) : RAt b s r (w.alloc o) := h.block (Below.heap_alloc _ _ _ h.lt)
theorem RAt.setOther {b : Nat} {s : ByteArray} {r : Rv} {w : World} (h : RAt b s r w) {p : Addr} (hp : b ≠ p.block) (u : Value) : RAt b s r (w.setCell p u) := h.block (Below.heap_setCell _ _ _ _ hp)
theorem RAt.below {b : Nat} {s : ByteArray} {r : Rv} {w w' : World} (h : RAt b s r w) (hb : Below w.heap.size w w') : RAt b s r w' := h.block (hb.block b h.lt)
theorem RAt.set {b : Nat} {s : ByteArray} {r r' : Rv} {w : World} (h : RAt b s r w) (k : Nat) (u : Value) (hk : k < 10) (h1 : r'.val s k = u) (h2 : ∀ j, j < 10 → j ≠ k → r'.val s j = r.val s j) : RAt b s r' (w.setCell ⟨b, k, none⟩ u) := by
  refine ⟨fun j hj => ?_, fun j hj => by rw [World.frozen?_setCell]; exact h.fz j hj⟩
  by_cases e : j = k
  · subst e; rw [h1]; exact World.cell?_setCell_same (w := w) (a := ⟨b, j, none⟩) (v := _) (h := h.cell j hj)
  · rw [h2 j hj e]; exact (World.cell?_setCell_other (w := w) (a := ⟨b, k, none⟩) (b := ⟨b, j, none⟩) (v := _) (h := fun q => e (congrArg Addr.off q).symm)).trans (h.cell j hj)

theorem RAt.set_i {b : Nat} {s : ByteArray} {r : Rv} {w : World} (h : RAt b s r w) (x : Nat) : RAt b s { r with i := x } (w.setCell ⟨b, 1, none⟩ (.int .i64 (x : Int))) :=
  h.set 1 _ (by omega) rfl fun j hj hn => by
    match j, hj, hn with
    | 0, _, hn => rfl
    | 1, _, hn => exact absurd rfl hn
    | 2, _, hn => rfl
    | 3, _, hn => rfl
    | 4, _, hn => rfl
    | 5, _, hn => rfl
    | 6, _, hn => rfl
    | 7, _, hn => rfl
    | 8, _, hn => rfl
    | 9, _, hn => rfl
theorem RAt.set_fl {b : Nat} {s : ByteArray} {r : Rv} {w : World} (h : RAt b s r w) (x : Int) : RAt b s { r with fl := x } (w.setCell ⟨b, 2, none⟩ (.int .i64 x)) :=
  h.set 2 _ (by omega) rfl fun j hj hn => by
    match j, hj, hn with
    | 0, _, hn => rfl
    | 1, _, hn => rfl
    | 2, _, hn => exact absurd rfl hn
    | 3, _, hn => rfl
    | 4, _, hn => rfl
    | 5, _, hn => rfl
    | 6, _, hn => rfl
    | 7, _, hn => rfl
    | 8, _, hn => rfl
    | 9, _, hn => rfl
theorem RAt.set_wd {b : Nat} {s : ByteArray} {r : Rv} {w : World} (h : RAt b s r w) (x : Int) : RAt b s { r with wd := x } (w.setCell ⟨b, 3, none⟩ (.int .i64 x)) :=
  h.set 3 _ (by omega) rfl fun j hj hn => by
    match j, hj, hn with
    | 0, _, hn => rfl
    | 1, _, hn => rfl
    | 2, _, hn => rfl
    | 3, _, hn => exact absurd rfl hn
    | 4, _, hn => rfl
    | 5, _, hn => rfl
    | 6, _, hn => rfl
    | 7, _, hn => rfl
    | 8, _, hn => rfl
    | 9, _, hn => rfl
theorem RAt.set_hi {b : Nat} {s : ByteArray} {r : Rv} {w : World} (h : RAt b s r w) (x : Int) : RAt b s { r with hi := x } (w.setCell ⟨b, 4, none⟩ (.int .i64 x)) :=
  h.set 4 _ (by omega) rfl fun j hj hn => by
    match j, hj, hn with
    | 0, _, hn => rfl
    | 1, _, hn => rfl
    | 2, _, hn => rfl
    | 3, _, hn => rfl
    | 4, _, hn => exact absurd rfl hn
    | 5, _, hn => rfl
    | 6, _, hn => rfl
    | 7, _, hn => rfl
    | 8, _, hn => rfl
    | 9, _, hn => rfl
theorem RAt.set_cs {b : Nat} {s : ByteArray} {r : Rv} {w : World} (h : RAt b s r w) (x : Value) : RAt b s { r with cs := x } (w.setCell ⟨b, 5, none⟩ x) :=
  h.set 5 _ (by omega) rfl fun j hj hn => by
    match j, hj, hn with
    | 0, _, hn => rfl
    | 1, _, hn => rfl
    | 2, _, hn => rfl
    | 3, _, hn => rfl
    | 4, _, hn => rfl
    | 5, _, hn => exact absurd rfl hn
    | 6, _, hn => rfl
    | 7, _, hn => rfl
    | 8, _, hn => rfl
    | 9, _, hn => rfl
theorem RAt.set_rt {b : Nat} {s : ByteArray} {r : Rv} {w : World} (h : RAt b s r w) (x : Int) : RAt b s { r with rt := x } (w.setCell ⟨b, 6, none⟩ (.int .i64 x)) :=
  h.set 6 _ (by omega) rfl fun j hj hn => by
    match j, hj, hn with
    | 0, _, hn => rfl
    | 1, _, hn => rfl
    | 2, _, hn => rfl
    | 3, _, hn => rfl
    | 4, _, hn => rfl
    | 5, _, hn => rfl
    | 6, _, hn => exact absurd rfl hn
    | 7, _, hn => rfl
    | 8, _, hn => rfl
    | 9, _, hn => rfl
theorem RAt.set_dn {b : Nat} {s : ByteArray} {r : Rv} {w : World} (h : RAt b s r w) (x : Int) : RAt b s { r with dn := x } (w.setCell ⟨b, 7, none⟩ (.int .i64 x)) :=
  h.set 7 _ (by omega) rfl fun j hj hn => by
    match j, hj, hn with
    | 0, _, hn => rfl
    | 1, _, hn => rfl
    | 2, _, hn => rfl
    | 3, _, hn => rfl
    | 4, _, hn => rfl
    | 5, _, hn => rfl
    | 6, _, hn => rfl
    | 7, _, hn => exact absurd rfl hn
    | 8, _, hn => rfl
    | 9, _, hn => rfl
theorem RAt.set_bg {b : Nat} {s : ByteArray} {r : Rv} {w : World} (h : RAt b s r w) (x : Int) : RAt b s { r with bg := x } (w.setCell ⟨b, 8, none⟩ (.int .i64 x)) :=
  h.set 8 _ (by omega) rfl fun j hj hn => by
    match j, hj, hn with
    | 0, _, hn => rfl
    | 1, _, hn => rfl
    | 2, _, hn => rfl
    | 3, _, hn => rfl
    | 4, _, hn => rfl
    | 5, _, hn => rfl
    | 6, _, hn => rfl
    | 7, _, hn => rfl
    | 8, _, hn => exact absurd rfl hn
    | 9, _, hn => rfl
theorem RAt.set_tm {b : Nat} {s : ByteArray} {r : Rv} {w : World} (h : RAt b s r w) (x : Int) : RAt b s { r with tm := x } (w.setCell ⟨b, 9, none⟩ (.int .i64 x)) :=
  h.set 9 _ (by omega) rfl fun j hj hn => by
    match j, hj, hn with
    | 0, _, hn => rfl
    | 1, _, hn => rfl
    | 2, _, hn => rfl
    | 3, _, hn => rfl
    | 4, _, hn => rfl
    | 5, _, hn => rfl
    | 6, _, hn => rfl
    | 7, _, hn => rfl
    | 8, _, hn => rfl
    | 9, _, hn => exact absurd rfl hn

/-- The ten cells, and that they may be written. -/
structure Ten (b : Nat) (s : ByteArray) (r : Rv) (w : World) : Prop where
  c0 : w.cell? ⟨b, 0, none⟩ = some (.string s)
  c1 : w.cell? ⟨b, 1, none⟩ = some (.int .i64 (r.i : Int))
  c2 : w.cell? ⟨b, 2, none⟩ = some (.int .i64 r.fl)
  c3 : w.cell? ⟨b, 3, none⟩ = some (.int .i64 r.wd)
  c4 : w.cell? ⟨b, 4, none⟩ = some (.int .i64 r.hi)
  c5 : w.cell? ⟨b, 5, none⟩ = some (r.cs)
  c6 : w.cell? ⟨b, 6, none⟩ = some (.int .i64 r.rt)
  c7 : w.cell? ⟨b, 7, none⟩ = some (.int .i64 r.dn)
  c8 : w.cell? ⟨b, 8, none⟩ = some (.int .i64 r.bg)
  c9 : w.cell? ⟨b, 9, none⟩ = some (.int .i64 r.tm)
  f1 : w.frozen? ⟨b, 1, none⟩ = false
  f2 : w.frozen? ⟨b, 2, none⟩ = false
  f3 : w.frozen? ⟨b, 3, none⟩ = false
  f4 : w.frozen? ⟨b, 4, none⟩ = false
  f5 : w.frozen? ⟨b, 5, none⟩ = false
  f6 : w.frozen? ⟨b, 6, none⟩ = false
  f7 : w.frozen? ⟨b, 7, none⟩ = false
  f8 : w.frozen? ⟨b, 8, none⟩ = false
  f9 : w.frozen? ⟨b, 9, none⟩ = false
theorem RAt.ten {b : Nat} {s : ByteArray} {r : Rv} {w : World} (h : RAt b s r w) : Ten b s r w :=
  ⟨h.cell 0 (by omega), h.cell 1 (by omega), h.cell 2 (by omega), h.cell 3 (by omega), h.cell 4 (by omega), h.cell 5 (by omega), h.cell 6 (by omega), h.cell 7 (by omega), h.cell 8 (by omega), h.cell 9 (by omega), h.fz 1 (by omega), h.fz 2 (by omega), h.fz 3 (by omega), h.fz 4 (by omega), h.fz 5 (by omega), h.fz 6 (by omega), h.fz 7 (by omega), h.fz 8 (by omega), h.fz 9 (by omega)⟩

/-- What a method of the reader leaves: the reader so, and nothing else turned. -/
def Left (b : Nat) (s : ByteArray) (r : Rv) (w w' : World) : Prop := RAt b s r w' ∧ Rd b w w'
end Go.Proofs.YtpbcgojfpmpgpaaDoor
