/-
  pattern.ParseRuns.
-/
import Derived.Test.YtpbcgojfpmpgpaaDoorPa8
import Derived.Test.YtpbcgojfpmpgpaaDoorJumps
import Derived.WalkMore
namespace Go.Proofs.YtpbcgojfpmpgpaaDoor
open Go.RowKit
set_option linter.unusedVariables false

/-- The frame at a jump: the text, where the result and the reader lie. -/
def RunFrame (s : ByteArray) (R b : Nat) (a' : Act) : Prop := ∃ u6 u7 u8 u9 u10 u11 u12 u13 u14 u15 u16 u17 u18 u19 u20 u21 u22 u23 u24 u25 u26 u27 u28 u29 u30 u31 u32 u33 u34 u35 u36 u37 u38 u39 u40 u41 u42 u43 u44 u45 u46 u47 u48 u49 : Value, a' = { tmps := #[.string s, undef, .pointer (some ⟨R, 0, none⟩), .int .i64 0, .nilIface, .pointer (some ⟨b, 0, none⟩), u6, u7, u8, u9, u10, u11, u12, u13, u14, u15, u16, u17, u18, u19, u20, u21, u22, u23, u24, u25, u26, u27, u28, u29, u30, u31, u32, u33, u34, u35, u36, u37, u38, u39, u40, u41, u42, u43, u44, u45, u46, u47, u48, u49], defers := [] }

/-- The result's block. -/
structure ResB (R : Nat) (w : World) : Prop where
  c0 : w.cell? ⟨R, 0, none⟩ = some (.int .i64 0)
  c1 : w.cell? ⟨R, 1, none⟩ = some (.int .i64 0)
  c2 : w.cell? ⟨R, 2, none⟩ = some (.slice none 0 0)
  f0 : w.frozen? ⟨R, 0, none⟩ = false
  f1 : w.frozen? ⟨R, 1, none⟩ = false
  f2 : w.frozen? ⟨R, 2, none⟩ = false
theorem ResB.block {R : Nat} {w w' : World} (h : ResB R w) (e : w'.heap[R]? = w.heap[R]?) : ResB R w' :=
  ⟨(World.cell?_of_block (w := w) (a := ⟨R, 0, none⟩) e).trans h.c0, (World.cell?_of_block (w := w) (a := ⟨R, 1, none⟩) e).trans h.c1, (World.cell?_of_block (w := w) (a := ⟨R, 2, none⟩) e).trans h.c2,
   (World.frozen?_of_block (w := w) (a := ⟨R, 0, none⟩) e).trans h.f0, (World.frozen?_of_block (w := w) (a := ⟨R, 1, none⟩) e).trans h.f1, (World.frozen?_of_block (w := w) (a := ⟨R, 2, none⟩) e).trans h.f2⟩
def resW (w : World) : World := w.alloc (.cells #[.int .i64 0, .int .i64 0, .slice none 0 0] 51)
theorem resW_size (w : World) : (resW w).heap.size = w.heap.size + 1 := by simp [resW]
theorem resW_res (w : World) : ResB w.heap.size (resW w) := by
  unfold resW
  exact ⟨cell_new_at _ _ _ _, cell_new_at _ _ _ _, cell_new_at _ _ _ _, by simp, by simp, by simp⟩
theorem ResB.below {w w' : World} {R : Nat} (h : ResB R w) (hR : R < w.heap.size) (hb : Below (R + 1) w w') : ResB R w' := h.block (hb.block R (by omega))

def fin2 (W H : Nat) : List Int ⊕ (Nat × Nat) → (Nat × Nat × List Int) ⊕ (Nat × Nat)
  | .inl xs => .inl (W, H, xs)
  | .inr e => .inr e
def fin3 (s : ByteArray) (W H i : Nat) (xs : List Int) : (Nat × Nat × List Int) ⊕ (Nat × Nat) :=
  if sk s i = s.size then .inl (W, H, xs) else .inr (sk s i, 2)

structure JWrong (s : ByteArray) (w0 w' : World) : Prop where
  at_ : ∃ r f : Nat, ∃ v : Rv, RAt (w0.heap.size + 1) s v w' ∧ v.i = r ∧ v.fl = (f : Int) ∧ runsS s = .inr (r, f)
  below : Below (w0.heap.size + 1) (resW w0) w'
structure JCells (s : ByteArray) (w0 w' : World) (v : Rv) (W H g : Nat) (xs : List Int) : Prop where
  rat : RAt (w0.heap.size + 1) s v w'
  wd : v.wd = (W : Int)
  hi : v.hi = (H : Int)
  cs : v.cs = .slice (some ⟨g, 0, none⟩) (W * H) (W * H)
  cel : Cel w' g xs
  len : xs.length = W * H
  gb : w0.heap.size + 1 < g
  lw : W ≤ 100
  lh : H ≤ 100
  li : v.i ≤ s.size
  below : Below (w0.heap.size + 1) (resW w0) w'
def JRun (s : ByteArray) (w0 w' : World) : Prop := ∃ (v : Rv) (W H g x y : Nat) (xs : List Int), JCells s w0 w' v W H g xs ∧ v.rt = (x : Int) ∧ v.dn = (y : Int) ∧ x ≤ W ∧ y ≤ H ∧ fin2 W H (tagsF s W H (s.size + 1 - v.i) v.i x y xs) = runsS s
def JRest (s : ByteArray) (w0 w' : World) : Prop := ∃ (v : Rv) (W H g : Nat) (xs : List Int), JCells s w0 w' v W H g xs ∧ fin3 s W H v.i xs = runsS s

def JAll (s : ByteArray) (w0 : World) (l : Nat) (a' : Act) (w' : World) : Prop :=
  RunFrame s w0.heap.size (w0.heap.size + 1) a' ∧ ((l = 0 ∧ JWrong s w0 w') ∨ (l = 1 ∧ JRun s w0 w') ∨ (l = 2 ∧ JRest s w0 w'))
def mAll (s : ByteArray) (w0 : World) (l : Nat) (_ : Act) (w' : World) : Nat := match l with | 0 => 0 | 2 => 1 | _ => 2 + (s.size - posOf (w0.heap.size + 1) w')

theorem JCells.rd {s : ByteArray} {w0 w' w'' : World} {v v' : Rv} {W H g : Nat} {xs : List Int} (h : JCells s w0 w' v W H g xs) (ha : RAt (w0.heap.size + 1) s v' w'') (hr : Rd (w0.heap.size + 1) w' w'') (h1 : v'.wd = v.wd) (h2 : v'.hi = v.hi) (h3 : v'.cs = v.cs) (h4 : v'.i ≤ s.size) : JCells s w0 w'' v' W H g xs :=
  ⟨ha, h1.trans h.wd, h2.trans h.hi, h3.trans h.cs, h.cel.rd hr (by have := h.gb; omega), h.len, h.gb, h.lw, h.lh, h4, h.below.trans (hr.below (Nat.le_refl _) (by have := h.below.size; rw [resW_size] at this; omega))⟩

def RunsPost (s : ByteArray) (w : World) (e : Ending) (w' : World) : Prop :=
  Below w.heap.size w w' ∧
  ((∃ W H xs g, runsS s = .inl (W, H, xs) ∧ e = .returned (.tuple #[.agg #[.int .i64 (W : Int), .int .i64 (H : Int), .slice (some ⟨g, 0, none⟩) (W * H) (W * H)], .int .i64 0, .nilIface]) ∧ Cel w' g xs ∧ xs.length = W * H ∧ W ≤ 100 ∧ H ≤ 100) ∨
   (∃ a f : Nat, runsS s = .inr (a, f) ∧ e = .returned (.tuple #[.agg #[.int .i64 0, .int .i64 0, .slice none 0 0], .int .i64 (a : Int), .iface 72 (.int .i64 (f : Int))])))

end Go.Proofs.YtpbcgojfpmpgpaaDoor
