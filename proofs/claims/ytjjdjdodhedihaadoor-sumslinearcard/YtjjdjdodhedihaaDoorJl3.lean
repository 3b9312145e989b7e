/-
  What the last text of this claim leans on, part 3: Li1, Li2, Li3, Li4, Li7, Rk2, Rk3, Clone, Rk4.
-/
import Derived.Test.YtjjdjdodhedihaaDoorJl1
import Derived.Test.YtjjdjdodhedihaaDoorJl2
import Derived.Test.YtjjdjdodhedihaaDoorProg
import Derived.Laws.CopyOwn
import Derived.Laws.IdiomCopy
import Derived.Lib.Strings
import Derived.Lib.Walk
import Derived.Lib.BufferWrite
import Derived.Lib.UnsafeStr
import Derived.Lib.Hide
import Derived.Laws.MakeOwn
import Derived.WalkKit
import Derived.Deep.RegionWith
namespace Go.Proofs.YtjjdjdodhedihaaDoor
open Go.RowKit
set_option linter.unusedVariables false

/-- A rule of a line that Check takes. -/
structure LineOk (S R : Nat) (T : List Int) : Prop where
  s2 : 2 ≤ S
  s4 : S ≤ 4
  r10 : R ≤ 10
  len : T.length = S ^ (2 * R + 1)
  max : T.length ≤ 4096
  ok : cellsOk S T
theorem LineOk.lenI {S R : Nat} {T : List Int} (h : LineOk S R T) : (T.length : Int) = (S : Int) ^ (2 * R + 1) := by rw [h.len]; simp
/-- Such a rule in a box. -/
structure RB (p S R : Nat) (v : Value) (w : World) : Prop where
  c0 : w.cell? ⟨p, 0, none⟩ = some (.int .i64 2)
  c1 : w.cell? ⟨p, 1, none⟩ = some (.int .i64 0)
  c2 : w.cell? ⟨p, 2, none⟩ = some (.int .i64 0)
  c3 : w.cell? ⟨p, 3, none⟩ = some (.int .i64 (S : Int))
  c4 : w.cell? ⟨p, 4, none⟩ = some (.int .i64 (R : Int))
  c5 : w.cell? ⟨p, 5, none⟩ = some v
  c6 : w.cell? ⟨p, 6, none⟩ = some (.string ⟨#[]⟩)
theorem RB.lt {p S R : Nat} {v : Value} {w : World} (h : RB p S R v w) : p < w.heap.size := by
  rcases Nat.lt_or_ge p w.heap.size with k | k
  · exact k
  · have := h.c0; simp [World.cell?, Array.getElem?_eq_none k] at this
theorem RB.block {p S R : Nat} {v : Value} {w w' : World} (h : RB p S R v w) (e : w'.heap[p]? = w.heap[p]?) : RB p S R v w' :=
  ⟨(World.cell?_of_block (w := w) (a := ⟨p, 0, none⟩) e).trans h.c0, (World.cell?_of_block (w := w) (a := ⟨p, 1, none⟩) e).trans h.c1, (World.cell?_of_block (w := w) (a := ⟨p, 2, none⟩) e).trans h.c2, (World.cell?_of_block (w := w) (a := ⟨p, 3, none⟩) e).trans h.c3, (World.cell?_of_block (w := w) (a := ⟨p, 4, none⟩) e).trans h.c4, (World.cell?_of_block (w := w) (a := ⟨p, 5, none⟩) e).trans h.c5, (World.cell?_of_block (w := w) (a := ⟨p, 6, none⟩) e).trans h.c6⟩
theorem RB.next {p S R : Nat} {v : Value} {w w' : World} (h : RB p S R v w) (hb : Below w.heap.size w w') : RB p S R v w' := h.block (hb.block p h.lt)
theorem RB.rd {p S R b : Nat} {v : Value} {w w' : World} (h : RB p S R v w) (hb : Rd b w w') (hp : p ≠ b) : RB p S R v w' := h.block (hb.block p h.lt hp)
theorem RB.alloc {p S R : Nat} {v : Value} {w : World} (h : RB p S R v w) (o : Obj) : RB p S R v (w.alloc o) := h.block (Below.heap_alloc _ _ _ h.lt)
theorem RB.new (w : World) (S R : Nat) (v : Value) (t : TypeId) : RB w.heap.size S R v (w.alloc (.cells #[.int .i64 2, .int .i64 0, .int .i64 0, .int .i64 (S : Int), .int .i64 (R : Int), v, .string ⟨#[]⟩] t)) :=
  ⟨by rw [World.cell?_alloc_at _ _ _ _ rfl]; rfl, by rw [World.cell?_alloc_at _ _ _ _ rfl]; rfl, by rw [World.cell?_alloc_at _ _ _ _ rfl]; rfl, by rw [World.cell?_alloc_at _ _ _ _ rfl]; rfl, by rw [World.cell?_alloc_at _ _ _ _ rfl]; rfl, by rw [World.cell?_alloc_at _ _ _ _ rfl]; rfl, by rw [World.cell?_alloc_at _ _ _ _ rfl]; rfl⟩

/-- A list whose block is another one stays. -/
theorem ArgP.rd {w w' : World} {xs : List Int} {a : Option Addr} {n c b : Nat} (h : ArgP w xs a n c) (hr : Rd b w w') (hb : ∀ g off, a = some ⟨g, off, none⟩ → g ≠ b) : ArgP w' xs a n c :=
  ⟨h.len, h.max, fun k hk => by
    obtain ⟨g, off, e, hg, hc⟩ := h.cells k hk
    exact ⟨g, off, e, Nat.lt_of_lt_of_le hg hr.size, (World.cell?_of_block (w := w) (a := ⟨g, off + k, none⟩) (hr.block g hg (hb g off e))).trans hc⟩⟩
theorem ArgP.at {w : World} {xs : List Int} {a : Option Addr} {n c : Nat} (h : ArgP w xs a n c) {k : Nat} (hk : k < n) : ∃ g off, a = some ⟨g, off, none⟩ ∧ w.cell? ⟨g, off + k, none⟩ = some (.int .i64 (xs.getD k 0)) := by
  have hl := h.len
  obtain ⟨g, off, e, hg, hc⟩ := h.cells k (by omega)
  exact ⟨g, off, e, by rw [hc]; simp [List.getD, show k < xs.length by omega]⟩

theorem Cel.argP {w : World} {g n c : Nat} {xs : List Int} (h : Cel w g xs) (hn : xs.length = n) (hm : n ≤ maxLen) : ArgP w xs (some ⟨g, 0, none⟩) n c := by
  subst hn
  exact ⟨rfl, hm, fun k hk => ⟨g, 0, rfl, h.lt, by rw [Nat.zero_add, h.cells k hk]; simp [List.getD, hk]⟩⟩
end Go.Proofs.YtjjdjdodhedihaaDoor

namespace Go.Proofs.YtjjdjdodhedihaaDoor
open Go.RowKit
set_option linter.unusedVariables false

theorem Rd.setCells {b : Nat} : ∀ (cs : List Value) (off : Nat) {a w : World}, Rd b a w → Rd b a (w.setCells b off cs)
  | [], _, _, _, h => h
  | c :: cs, off, _, _, h => Rd.setCells cs (off + 1) (h.set off c)

end Go.Proofs.YtjjdjdodhedihaaDoor

namespace Go.Proofs.YtjjdjdodhedihaaDoor
open Go.RowKit
set_option linter.unusedVariables false

/-- Only two blocks have turned, and new ones were made. -/
structure Rd2 (a b : Nat) (w w' : World) : Prop where
  os : w'.os = w.os
  tape : w'.tape = w.tape
  output : w'.output = w.output
  size : w.heap.size ≤ w'.heap.size
  block : ∀ k, k < w.heap.size → k ≠ a → k ≠ b → w'.heap[k]? = w.heap[k]?
theorem Rd2.refl (a b : Nat) (w : World) : Rd2 a b w w := ⟨rfl, rfl, rfl, Nat.le_refl _, fun _ _ _ _ => rfl⟩
theorem Rd2.trans {a b : Nat} {u v w : World} (h : Rd2 a b u v) (k : Rd2 a b v w) : Rd2 a b u w :=
  ⟨k.os.trans h.os, k.tape.trans h.tape, k.output.trans h.output, Nat.le_trans h.size k.size, fun i hi h1 h2 => (k.block i (Nat.lt_of_lt_of_le hi h.size) h1 h2).trans (h.block i hi h1 h2)⟩
theorem Rd2.left {a b : Nat} {w w' : World} (h : Rd a w w') : Rd2 a b w w' := ⟨h.os, h.tape, h.output, h.size, fun k hk h1 _ => h.block k hk h1⟩
theorem Rd2.right {a b : Nat} {w w' : World} (h : Rd b w w') : Rd2 a b w w' := ⟨h.os, h.tape, h.output, h.size, fun k hk _ h2 => h.block k hk h2⟩
theorem Rd2.below {a b B : Nat} {w w' : World} (h : Rd2 a b w w') (ha : B ≤ a) (hb : B ≤ b) (hs : B ≤ w.heap.size) : Below B w w' :=
  ⟨h.os, h.tape, h.output, h.size, fun k hk => h.block k (by omega) (by omega) (by omega)⟩
/-- What stepper has made: the rule's box, the wide word's box and block. -/
structure ST (w : World) (pr pw gw S R N : Nat) (T : List Int) (ta : Option Addr) (tn tc : Nat) (ws : List Int) : Prop where
  rb : RB pr S R (.slice ta tn tc) w
  wb : w.cell? ⟨pw, 0, none⟩ = some (.slice (some ⟨gw, 0, none⟩) N N)
  wl : pw < w.heap.size
  cw : Cel w gw ws
  wn : ws.length = N
  ap : ArgP w T ta tn tc
  ne1 : pr ≠ gw
  ne2 : pw ≠ gw
  ne3 : ∀ g off, ta = some ⟨g, off, none⟩ → g ≠ gw

end Go.Proofs.YtjjdjdodhedihaaDoor

namespace Go.Proofs.YtjjdjdodhedihaaDoor
open Go.RowKit
set_option linter.unusedVariables false

theorem Cel.made (w : World) (N : Nat) (t : TypeId) : Cel (w.alloc (.cells (madeCells #[.int .i64 0] N) t)) w.heap.size (List.replicate N 0) := by
  refine ⟨by simp, fun k hk => ?_, fun k => by simp⟩
  rw [World.cell?_alloc_at _ _ _ _ (by simp)]
  rw [List.length_replicate] at hk
  rw [show (List.replicate N (0 : Int)).getD k 0 = 0 by simp [List.getD, hk]]
  rw [← Array.getElem?_toList, toList_madeCells_one]
  simp [hk]

end Go.Proofs.YtjjdjdodhedihaaDoor

namespace Go.Proofs.YtjjdjdodhedihaaDoor
open Go.RowKit
set_option linter.unusedVariables false

theorem ArgP.blk {w : World} {xs : List Int} {a : Option Addr} {n c : Nat} (h : ArgP w xs a n c) (hn : 0 < n) : ∀ g off, a = some ⟨g, off, none⟩ → g < w.heap.size := fun g off e => by
  obtain ⟨g', off', e', hg, -⟩ := h.cells 0 (by rw [← h.len]; exact hn)
  rw [e'] at e
  injection e with e
  injection e with e1
  omega
theorem LineOk.pos {S R : Nat} {T : List Int} (h : LineOk S R T) : 0 < T.length := by
  rw [h.len]
  exact Nat.pow_pos (by have := h.s2; omega)
end Go.Proofs.YtjjdjdodhedihaaDoor

namespace Go.Proofs.YtjjdjdodhedihaaDoor
open Go.RowKit

end Go.Proofs.YtjjdjdodhedihaaDoor

namespace Go.Proofs.YtjjdjdodhedihaaDoor
open Go.RowKit
set_option linter.unusedVariables false

end Go.Proofs.YtjjdjdodhedihaaDoor

namespace Go.Proofs.YtjjdjdodhedihaaDoor
open Go.RowKit

end Go.Proofs.YtjjdjdodhedihaaDoor

namespace Go.Proofs.YtjjdjdodhedihaaDoor
open Go.RowKit
set_option linter.unusedVariables false

theorem isTurn_any (c : Int) (w : World) :
    Calls Tryd.prog 138 #[.int .u8 c] w fun e w' => e = .returned (.bool (c == 76 || c == 82)) ∧ w' = w := by
  cases h1 : (c == 76)
  · cases h2 : (c == 82)
    · go_enter Tryd.func138, Tryd.ntmps138
      go_wp2
      go_ret
      exact ⟨rfl, rfl⟩
    · go_enter Tryd.func138, Tryd.ntmps138
      go_wp2
      go_ret
      exact ⟨rfl, rfl⟩
  · go_enter Tryd.func138, Tryd.ntmps138
    go_wp2
    go_ret
    exact ⟨rfl, rfl⟩

theorem isTurn_yes (c : Int) (w : World) (h : c = 76 ∨ c = 82) :
    Calls Tryd.prog 138 #[.int .u8 c] w fun e w' => e = .returned (.bool true) ∧ w' = w := by
  refine (isTurn_any c w).mono fun e w' ⟨he, hw⟩ => ⟨?_, hw⟩
  rw [he, show (c == 76 || c == 82) = true by simp; omega]
theorem isTurn_no (c : Int) (w : World) (h : ¬ (c = 76 ∨ c = 82)) :
    Calls Tryd.prog 138 #[.int .u8 c] w fun e w' => e = .returned (.bool false) ∧ w' = w := by
  refine (isTurn_any c w).mono fun e w' ⟨he, hw⟩ => ⟨?_, hw⟩
  rw [he, show (c == 76 || c == 82) = false by simp; omega]

theorem At.below {b : Nat} {s : ByteArray} {i : Nat} {w w' : World} (h : At b s i w) (hb : Below w.heap.size w w') : At b s i w' := by
  have e := hb.block b h.lt
  exact ⟨(World.cell?_of_block (w := w) (a := ⟨b, 0, none⟩) e).trans h.txt, (World.cell?_of_block (w := w) (a := ⟨b, 1, none⟩) e).trans h.pos,
    (World.frozen?_of_block (w := w) (a := ⟨b, 0, none⟩) e).trans h.fz0, (World.frozen?_of_block (w := w) (a := ⟨b, 1, none⟩) e).trans h.fz1⟩
theorem At.drew {b : Nat} {s : ByteArray} {i : Nat} {w : World} (h : At b s i w) : At b s i w.drew := ⟨h.txt, h.pos, h.fz0, h.fz1⟩
end Go.Proofs.YtjjdjdodhedihaaDoor

