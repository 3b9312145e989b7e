/-
  What the last text of this claim leans on, part 3: PSpec, Pa1, Pa2, Pa3, Pa4, Pa5, Pa6, Al1, Wa1, In1, Li1, Li2, Li3, Li4, Li7, Rk2, Rk3, Clone.
-/
import Derived.Test.YtdhbdkkchobinaaDoorJd1
import Derived.Test.YtdhbdkkchobinaaDoorJd2
import Derived.Test.YtdhbdkkchobinaaDoorProg
import Derived.Laws.CopyOwn
import Derived.Laws.IdiomCopy
import Derived.Lib.Strings
import Derived.Lib.Walk
import Derived.Lib.BufferWrite
import Derived.Lib.UnsafeStr
import Derived.Lib.Hide
import Derived.Laws.MakeOwn
import Derived.WalkKit
namespace Go.Proofs.YtdhbdkkchobinaaDoor

def blankAt (s : ByteArray) (i : Nat) : Bool := decide (i < s.size) && (decide (bt s i = 32) || decide (bt s i = 10))
/-- Behind the blanks and bytes 10 from i on. -/
def skF (s : ByteArray) : Nat → Nat → Nat
  | 0, i => i
  | f + 1, i => if blankAt s i then skF s f (i + 1) else i
def sk (s : ByteArray) (i : Nat) : Nat := skF s (s.size - i) i

/-- One tag, at j: on, done, or wrong. -/
abbrev Go1 : Type := (Nat × Nat × Nat × List Int) ⊕ (List Int ⊕ (Nat × Nat))
abbrev Go1.on (i x y : Nat) (xs : List Int) : Go1 := Sum.inl (i, x, y, xs)
abbrev Go1.done (xs : List Int) : Go1 := Sum.inr (Sum.inl xs)
end Go.Proofs.YtdhbdkkchobinaaDoor

namespace Go.Proofs.YtdhbdkkchobinaaDoor
open Go.RowKit
set_option linter.unusedVariables false

/-- What the reader holds, its text aside. -/
structure Rv where
  i : Nat
  fl : Int
  wd : Int
  hi : Int
  cs : Value
  rt : Int
  dn : Int
  bg : Int
  tm : Int

def Rv.val (r : Rv) (s : ByteArray) : Nat → Value
  | 0 => .string s
  | 1 => .int .i64 (r.i : Int)
  | 2 => .int .i64 r.fl
  | 3 => .int .i64 r.wd
  | 4 => .int .i64 r.hi
  | 5 => r.cs
  | 6 => .int .i64 r.rt
  | 7 => .int .i64 r.dn
  | 8 => .int .i64 r.bg
  | 9 => .int .i64 r.tm
  | _ => .bool false

structure RAt (b : Nat) (s : ByteArray) (r : Rv) (w : World) : Prop where
  cell : ∀ k, k < 10 → w.cell? ⟨b, k, none⟩ = some (r.val s k)
  fz : ∀ k, k < 10 → w.frozen? ⟨b, k, none⟩ = false

theorem RAt.lt {b : Nat} {s : ByteArray} {r : Rv} {w : World} (h : RAt b s r w) : b < w.heap.size := by
  rcases Nat.lt_or_ge b w.heap.size with k | k
  · exact k
  · have := h.cell 0 (by omega); simp [World.cell?, Array.getElem?_eq_none k] at this
theorem RAt.block {b : Nat} {s : ByteArray} {r : Rv} {w w' : World} (h : RAt b s r w) (e : w'.heap[b]? = w.heap[b]?) : RAt b s r w' :=
  ⟨fun k hk => (World.cell?_of_block (w := w) (a := ⟨b, k, none⟩) e).trans (h.cell k hk), fun k hk => (World.frozen?_of_block (w := w) (a := ⟨b, k, none⟩) e).trans (h.fz k hk)⟩
theorem RAt.drewN {b : Nat} {s : ByteArray} {r : Rv} {w : World} (h : RAt b s r w) (n : Nat) : RAt b s r (w.drewN n) := h.block rfl
theorem RAt.alloc {b : Nat} {s : ByteArray} {r : Rv} {w : World} (h : RAt b s r w) (o : Obj) : RAt b s r (w.alloc o) := h.block (Below.heap_alloc _ _ _ h.lt)
theorem RAt.setOther {b : Nat} {s : ByteArray} {r : Rv} {w : World} (h : RAt b s r w) {p : Addr} (hp : b ≠ p.block) (u : Value) : RAt b s r (w.setCell p u) := h.block (Below.heap_setCell _ _ _ _ hp)
theorem RAt.below {b : Nat} {s : ByteArray} {r : Rv} {w w' : World} (h : RAt b s r w) (hb : Below w.heap.size w w') : RAt b s r w' := h.block (hb.block b h.lt)
theorem RAt.set {b : Nat} {s : ByteArray} {r r' : Rv} {w : World} (h : RAt b s r w) (k : Nat) (u : Value) (hk : k < 10) (h1 : r'.val s k = u) (h2 : ∀ j, j < 10 → j ≠ k → r'.val s j = r.val s j) : RAt b s r' (w.setCell ⟨b, k, none⟩ u) := by
  refine ⟨fun j hj => ?_, fun j hj => by rw [World.frozen?_setCell]; exact h.fz j hj⟩
  by_cases e : j = k
  · subst e; rw [h1]; exact World.cell?_setCell_same (w := w) (a := ⟨b, j, none⟩) (v := _) (h := h.cell j hj)
  · rw [h2 j hj e]; exact (World.cell?_setCell_other (w := w) (a := ⟨b, k, none⟩) (b := ⟨b, j, none⟩) (v := _) (h := fun q => e (congrArg Addr.off q).symm)).trans (h.cell j hj)

/-- What a method of the reader leaves: the reader so, and nothing else turned. -/
def Left (b : Nat) (s : ByteArray) (r : Rv) (w w' : World) : Prop := RAt b s r w' ∧ Rd b w w'
end Go.Proofs.YtdhbdkkchobinaaDoor

namespace Go.Proofs.YtdhbdkkchobinaaDoor
open Go.RowKit
set_option linter.unusedVariables false

end Go.Proofs.YtdhbdkkchobinaaDoor

namespace Go.Proofs.YtdhbdkkchobinaaDoor
open Go.RowKit
set_option linter.unusedVariables false

end Go.Proofs.YtdhbdkkchobinaaDoor

namespace Go.Proofs.YtdhbdkkchobinaaDoor
open Go.RowKit
set_option linter.unusedVariables false

end Go.Proofs.YtdhbdkkchobinaaDoor

namespace Go.Proofs.YtdhbdkkchobinaaDoor
open Go.RowKit
set_option linter.unusedVariables false

end Go.Proofs.YtdhbdkkchobinaaDoor

namespace Go.Proofs.YtdhbdkkchobinaaDoor
open Go.RowKit
set_option linter.unusedVariables false

/-- At block g these ints, writable. -/
structure Cel (w : World) (g : Nat) (xs : List Int) : Prop where
  lt : g < w.heap.size
  cells : ∀ k, k < xs.length → w.cell? ⟨g, k, none⟩ = some (.int .i64 (xs.getD k 0))
  fz : ∀ k, w.frozen? ⟨g, k, none⟩ = false
theorem Cel.block {w w' : World} {g : Nat} {xs : List Int} (h : Cel w g xs) (hs : w.heap.size ≤ w'.heap.size) (e : w'.heap[g]? = w.heap[g]?) : Cel w' g xs :=
  ⟨Nat.lt_of_lt_of_le h.lt hs, fun k hk => (World.cell?_of_block (w := w) (a := ⟨g, k, none⟩) e).trans (h.cells k hk), fun k => (World.frozen?_of_block (w := w) (a := ⟨g, k, none⟩) e).trans (h.fz k)⟩
theorem Cel.below {w w' : World} {g : Nat} {xs : List Int} (h : Cel w g xs) (hb : Below w.heap.size w w') : Cel w' g xs := h.block hb.size (hb.block g h.lt)
theorem Cel.set {w : World} {g : Nat} {xs : List Int} (h : Cel w g xs) (p : Nat) (x : Int) (hp : p < xs.length) : Cel (w.setCell ⟨g, p, none⟩ (.int .i64 x)) g (xs.set p x) := by
  refine ⟨by rw [World.size_setCell]; exact h.lt, fun k hk => ?_, fun k => by rw [World.frozen?_setCell]; exact h.fz k⟩
  rw [List.length_set] at hk
  by_cases e : k = p
  · subst e
    rw [show (xs.set k x).getD k 0 = x by simp [List.getD, hk]]
    exact World.cell?_setCell_same (w := w) (a := ⟨g, k, none⟩) (v := _) (h := h.cells k hk)
  · rw [show (xs.set p x).getD k 0 = xs.getD k 0 by simp [List.getD, Ne.symm e]]
    exact (World.cell?_setCell_other (w := w) (a := ⟨g, p, none⟩) (b := ⟨g, k, none⟩) (v := _) (h := fun q => e (congrArg Addr.off q).symm)).trans (h.cells k hk)

end Go.Proofs.YtdhbdkkchobinaaDoor

namespace Go.Proofs.YtdhbdkkchobinaaDoor
open Go.RowKit
set_option linter.unusedVariables false

theorem Cel.tab {w : World} {g n : Nat} {xs : List Int} (h : Cel w g xs) (hn : xs.length = n) : Tab w (.slice (some ⟨g, 0, none⟩) n n) xs := by
  subst hn
  exact Or.inr ⟨g, xs.length, rfl, h.lt, fun k hk => by rw [h.cells k hk]; simp [List.getD, hk]⟩

end Go.Proofs.YtdhbdkkchobinaaDoor

namespace Go.Proofs.YtdhbdkkchobinaaDoor
open Go.RowKit
set_option linter.unusedVariables false

/-- A pattern that came in, as a value: its cells anywhere. -/
structure ArgP (w : World) (xs : List Int) (a : Option Addr) (n c : Nat) : Prop where
  len : n = xs.length
  max : n ≤ maxLen
  cells : ∀ k (h : k < xs.length), ∃ g off, a = some ⟨g, off, none⟩ ∧ g < w.heap.size ∧ w.cell? ⟨g, off + k, none⟩ = some (.int .i64 xs[k])
theorem ArgP.below {w w' : World} {xs : List Int} {a : Option Addr} {n c : Nat} (h : ArgP w xs a n c) (hb : Below w.heap.size w w') : ArgP w' xs a n c :=
  ⟨h.len, h.max, fun k hk => by
    obtain ⟨g, off, e, hg, hc⟩ := h.cells k hk
    exact ⟨g, off, e, Nat.lt_of_lt_of_le hg hb.size, (World.cell?_of_block (w := w) (a := ⟨g, off + k, none⟩) (hb.block g hg)).trans hc⟩⟩
theorem ArgP.alloc {w : World} {xs : List Int} {a : Option Addr} {n c : Nat} (h : ArgP w xs a n c) (x : Obj) : ArgP (w.alloc x) xs a n c :=
  h.below ((Below.refl _ _).alloc (Nat.le_refl _) _)

def errOf (f : Nat) : Value := if f = 0 then .nilIface else .iface 103 (.int .i64 (f : Int))

end Go.Proofs.YtdhbdkkchobinaaDoor

namespace Go.Proofs.YtdhbdkkchobinaaDoor
open Go.RowKit
set_option linter.unusedVariables false

theorem list_ne_len {xs ys : List Int} (h : xs.length ≠ ys.length) : decide (xs = ys) = false := by
  simp; intro e; exact h (by rw [e])
theorem list_ne_at {xs ys : List Int} {k : Nat} (hx : k < xs.length) (hy : k < ys.length) (h : xs[k] ≠ ys[k]) : decide (xs = ys) = false := by
  simp; intro e; subst e; exact h rfl

set_option maxHeartbeats 1600000 in
theorem Ints_any (xs ys : List Int) (a b : Option Addr) (n c m d : Nat) (w : World) (hA : ArgP w xs a n c) (hB : ArgP w ys b m d) :
    Calls Tryd.prog 30 #[.slice a n c, .slice b m d] w fun e w' => e = .returned (.bool (decide (xs = ys))) ∧ ∃ q, w' = w.drewN q := by
  have HA := hide' hA
  have HB := hide' hB
  have hlx := hA.len
  have hly := hB.len
  have hma := hA.max
  have hmb := hB.max
  have LX := hide' hlx
  have LY := hide' hly
  unfold maxLen at hma hmb
  by_cases hnm : n = m
  · subst hnm
    clear hA hB hlx hly
    have EQ := hide' (fun (h : ∀ j (h1 : j < xs.length) (h2 : j < ys.length), xs[j] = ys[j]) => show decide (xs = ys) = true by
      simp; exact List.ext_getElem (by rw [← LX.out, ← LY.out]) fun j h1 h2 => h j h1 h2)
    go_enter Tryd.func30, Tryd.ntmps30
    go_wp2
    go_loopw [5] (fun iv wr => ∃ k q : Nat, iv = .int .i64 (k : Int) ∧ k ≤ n ∧ wr = w.drewN q ∧ Hid (∀ j (h1 : j < xs.length) (h2 : j < ys.length), j < k → xs[j] = ys[j])) (fun iv _ => n - (intOf iv).toNat)
    case atStart => exact ⟨0, 0, rfl, by omega, rfl, fun j h1 h2 h => by omega⟩
    case round =>
      obtain ⟨k, q, rfl, hk, rfl, HK⟩ := hrel
      by_cases hkn : (k : Int) < (n : Int)
      · have l1 : k < xs.length := by have := LX.out; omega
        have l2 : k < ys.length := by have := LY.out; omega
        obtain ⟨ga, oa, rfl, -, c1⟩ := HA.out.cells k l1
        obtain ⟨gb, ob, rfl, -, c2⟩ := HB.out.cells k l2
        obtain ⟨x, hx⟩ : ∃ x, xs[k] = x := ⟨_, rfl⟩
        obtain ⟨y, hy⟩ : ∃ y, ys[k] = y := ⟨_, rfl⟩
        rw [hx] at c1
        rw [hy] at c2
        have HX := hide' hx
        have HY := hide' hy
        clear hx hy
        by_cases e : x = y
        · subst e
          have m1 : (x != x) = false := by simp
          go_wp2
          go_quiet (fail)
          go_wp2
          refine ⟨⟨k + 1, q + nq, by go_num, by omega, rfl, fun j h1 h2 h => ?_⟩, by simp [intOf]; omega⟩
          by_cases ej : j = k
          · subst ej; rw [HX.out, HY.out]
          · exact HK.out j h1 h2 (by omega)
        · have m1 : (x != y) = true := by simp [e]
          have F := hide' (list_ne_at l1 l2 (by rw [HX.out, HY.out]; exact e))
          clear e
          go_wp2
          go_quiet (fail)
          go_wp2
          go_ret
          exact ⟨by rw [F.out]; rfl, q + nq, by simp [World.drewN, Nat.add_assoc]⟩
      · have F := hide' (EQ.out fun j h1 h2 => HK.out j h1 h2 (by have := LX.out; omega))
        go_wp2
        go_ret
        exact ⟨by rw [F.out]; rfl, q, rfl⟩
  · have m1 : ((n : Int) != (m : Int)) = true := by simp; omega
    have F := hide' (list_ne_len (xs := xs) (ys := ys) (by rw [← hlx, ← hly]; exact hnm))
    clear hA hB hlx hly hnm
    go_enter Tryd.func30, Tryd.ntmps30
    go_wp2
    go_ret
    exact ⟨by rw [F.out]; rfl, 0, rfl⟩

end Go.Proofs.YtdhbdkkchobinaaDoor

namespace Go.Proofs.YtdhbdkkchobinaaDoor
open Go.RowKit
set_option linter.unusedVariables false

/-- A rule of a line that Check takes. -/
structure LineOk (S R : Nat) (T : List Int) : Prop where
  s2 : 2 ≤ S
  s4 : S ≤ 4
  r10 : R ≤ 10
  len : T.length = S ^ (2 * R + 1)
  max : T.length ≤ 4096
  ok : cellsOk S T
theorem LineOk.lenI {S R : Nat} {T : List Int} (h : LineOk S R T) : (T.length : Int) = (S : Int) ^ (2 * R + 1) := by rw [h.len]; simp
/-- Such a rule in a box. -/
structure RB (p S R : Nat) (v : Value) (w : World) : Prop where
  c0 : w.cell? ⟨p, 0, none⟩ = some (.int .i64 2)
  c1 : w.cell? ⟨p, 1, none⟩ = some (.int .i64 0)
  c2 : w.cell? ⟨p, 2, none⟩ = some (.int .i64 0)
  c3 : w.cell? ⟨p, 3, none⟩ = some (.int .i64 (S : Int))
  c4 : w.cell? ⟨p, 4, none⟩ = some (.int .i64 (R : Int))
  c5 : w.cell? ⟨p, 5, none⟩ = some v
  c6 : w.cell? ⟨p, 6, none⟩ = some (.string ⟨#[]⟩)
theorem RB.lt {p S R : Nat} {v : Value} {w : World} (h : RB p S R v w) : p < w.heap.size := by
  rcases Nat.lt_or_ge p w.heap.size with k | k
  · exact k
  · have := h.c0; simp [World.cell?, Array.getElem?_eq_none k] at this
theorem RB.block {p S R : Nat} {v : Value} {w w' : World} (h : RB p S R v w) (e : w'.heap[p]? = w.heap[p]?) : RB p S R v w' :=
  ⟨(World.cell?_of_block (w := w) (a := ⟨p, 0, none⟩) e).trans h.c0, (World.cell?_of_block (w := w) (a := ⟨p, 1, none⟩) e).trans h.c1, (World.cell?_of_block (w := w) (a := ⟨p, 2, none⟩) e).trans h.c2, (World.cell?_of_block (w := w) (a := ⟨p, 3, none⟩) e).trans h.c3, (World.cell?_of_block (w := w) (a := ⟨p, 4, none⟩) e).trans h.c4, (World.cell?_of_block (w := w) (a := ⟨p, 5, none⟩) e).trans h.c5, (World.cell?_of_block (w := w) (a := ⟨p, 6, none⟩) e).trans h.c6⟩
theorem RB.next {p S R : Nat} {v : Value} {w w' : World} (h : RB p S R v w) (hb : Below w.heap.size w w') : RB p S R v w' := h.block (hb.block p h.lt)
theorem RB.alloc {p S R : Nat} {v : Value} {w : World} (h : RB p S R v w) (o : Obj) : RB p S R v (w.alloc o) := h.block (Below.heap_alloc _ _ _ h.lt)
theorem RB.new (w : World) (S R : Nat) (v : Value) (t : TypeId) : RB w.heap.size S R v (w.alloc (.cells #[.int .i64 2, .int .i64 0, .int .i64 0, .int .i64 (S : Int), .int .i64 (R : Int), v, .string ⟨#[]⟩] t)) :=
  ⟨by rw [World.cell?_alloc_at _ _ _ _ rfl]; rfl, by rw [World.cell?_alloc_at _ _ _ _ rfl]; rfl, by rw [World.cell?_alloc_at _ _ _ _ rfl]; rfl, by rw [World.cell?_alloc_at _ _ _ _ rfl]; rfl, by rw [World.cell?_alloc_at _ _ _ _ rfl]; rfl, by rw [World.cell?_alloc_at _ _ _ _ rfl]; rfl, by rw [World.cell?_alloc_at _ _ _ _ rfl]; rfl⟩

theorem ArgP.at {w : World} {xs : List Int} {a : Option Addr} {n c : Nat} (h : ArgP w xs a n c) {k : Nat} (hk : k < n) : ∃ g off, a = some ⟨g, off, none⟩ ∧ w.cell? ⟨g, off + k, none⟩ = some (.int .i64 (xs.getD k 0)) := by
  have hl := h.len
  obtain ⟨g, off, e, hg, hc⟩ := h.cells k (by omega)
  exact ⟨g, off, e, by rw [hc]; simp [List.getD, show k < xs.length by omega]⟩

theorem Cel.argP {w : World} {g n c : Nat} {xs : List Int} (h : Cel w g xs) (hn : xs.length = n) (hm : n ≤ maxLen) : ArgP w xs (some ⟨g, 0, none⟩) n c := by
  subst hn
  exact ⟨rfl, hm, fun k hk => ⟨g, 0, rfl, h.lt, by rw [Nat.zero_add, h.cells k hk]; simp [List.getD, hk]⟩⟩
theorem pow_le_tab {S R : Nat} {T : List Int} (h : LineOk S R T) {m : Nat} (hm : m ≤ 2 * R + 1) : ((S : Int) ^ m) ≤ 4096 := by
  have h1 : S ^ m ≤ S ^ (2 * R + 1) := Nat.pow_le_pow_right (by have := h.s2; omega) hm
  have h2 := h.len
  have h3 := h.max
  have : ((S ^ m : Nat) : Int) ≤ 4096 := by omega
  simpa using this
end Go.Proofs.YtdhbdkkchobinaaDoor

namespace Go.Proofs.YtdhbdkkchobinaaDoor
open Go.RowKit
set_option linter.unusedVariables false

end Go.Proofs.YtdhbdkkchobinaaDoor

namespace Go.Proofs.YtdhbdkkchobinaaDoor
open Go.RowKit
set_option linter.unusedVariables false

/-- Only two blocks have turned, and new ones were made. -/
structure Rd2 (a b : Nat) (w w' : World) : Prop where
  os : w'.os = w.os
  tape : w'.tape = w.tape
  output : w'.output = w.output
  size : w.heap.size ≤ w'.heap.size
  block : ∀ k, k < w.heap.size → k ≠ a → k ≠ b → w'.heap[k]? = w.heap[k]?
theorem Rd2.refl (a b : Nat) (w : World) : Rd2 a b w w := ⟨rfl, rfl, rfl, Nat.le_refl _, fun _ _ _ _ => rfl⟩
theorem Rd2.trans {a b : Nat} {u v w : World} (h : Rd2 a b u v) (k : Rd2 a b v w) : Rd2 a b u w :=
  ⟨k.os.trans h.os, k.tape.trans h.tape, k.output.trans h.output, Nat.le_trans h.size k.size, fun i hi h1 h2 => (k.block i (Nat.lt_of_lt_of_le hi h.size) h1 h2).trans (h.block i hi h1 h2)⟩
theorem Rd2.left {a b : Nat} {w w' : World} (h : Rd a w w') : Rd2 a b w w' := ⟨h.os, h.tape, h.output, h.size, fun k hk h1 _ => h.block k hk h1⟩
theorem Rd2.right {a b : Nat} {w w' : World} (h : Rd b w w') : Rd2 a b w w' := ⟨h.os, h.tape, h.output, h.size, fun k hk _ h2 => h.block k hk h2⟩
theorem Rd2.below {a b B : Nat} {w w' : World} (h : Rd2 a b w w') (ha : B ≤ a) (hb : B ≤ b) (hs : B ≤ w.heap.size) : Below B w w' :=
  ⟨h.os, h.tape, h.output, h.size, fun k hk => h.block k (by omega) (by omega) (by omega)⟩
/-- What stepper has made: the rule's box, the wide word's box and block. -/
structure ST (w : World) (pr pw gw S R N : Nat) (T : List Int) (ta : Option Addr) (tn tc : Nat) (ws : List Int) : Prop where
  rb : RB pr S R (.slice ta tn tc) w
  wb : w.cell? ⟨pw, 0, none⟩ = some (.slice (some ⟨gw, 0, none⟩) N N)
  wl : pw < w.heap.size
  cw : Cel w gw ws
  wn : ws.length = N
  ap : ArgP w T ta tn tc
  ne1 : pr ≠ gw
  ne2 : pw ≠ gw
  ne3 : ∀ g off, ta = some ⟨g, off, none⟩ → g ≠ gw

end Go.Proofs.YtdhbdkkchobinaaDoor

namespace Go.Proofs.YtdhbdkkchobinaaDoor
open Go.RowKit
set_option linter.unusedVariables false

theorem Cel.made (w : World) (N : Nat) (t : TypeId) : Cel (w.alloc (.cells (madeCells #[.int .i64 0] N) t)) w.heap.size (List.replicate N 0) := by
  refine ⟨by simp, fun k hk => ?_, fun k => by simp⟩
  rw [World.cell?_alloc_at _ _ _ _ (by simp)]
  rw [List.length_replicate] at hk
  rw [show (List.replicate N (0 : Int)).getD k 0 = 0 by simp [List.getD, hk]]
  rw [← Array.getElem?_toList, toList_madeCells_one]
  simp [hk]

end Go.Proofs.YtdhbdkkchobinaaDoor

namespace Go.Proofs.YtdhbdkkchobinaaDoor
open Go.RowKit
set_option linter.unusedVariables false

theorem ArgP.blk {w : World} {xs : List Int} {a : Option Addr} {n c : Nat} (h : ArgP w xs a n c) (hn : 0 < n) : ∀ g off, a = some ⟨g, off, none⟩ → g < w.heap.size := fun g off e => by
  obtain ⟨g', off', e', hg, -⟩ := h.cells 0 (by rw [← h.len]; exact hn)
  rw [e'] at e
  injection e with e
  injection e with e1
  omega
theorem LineOk.pos {S R : Nat} {T : List Int} (h : LineOk S R T) : 0 < T.length := by
  rw [h.len]
  exact Nat.pow_pos (by have := h.s2; omega)
end Go.Proofs.YtdhbdkkchobinaaDoor

namespace Go.Proofs.YtdhbdkkchobinaaDoor
open Go.RowKit

end Go.Proofs.YtdhbdkkchobinaaDoor

namespace Go.Proofs.YtdhbdkkchobinaaDoor
open Go.RowKit
set_option linter.unusedVariables false

end Go.Proofs.YtdhbdkkchobinaaDoor

namespace Go.Proofs.YtdhbdkkchobinaaDoor
open Go.RowKit

end Go.Proofs.YtdhbdkkchobinaaDoor

