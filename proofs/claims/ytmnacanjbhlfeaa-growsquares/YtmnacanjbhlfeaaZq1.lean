/-
  What the last text of this claim leans on, part 1: Spec, Rd, Rb, Rn, Ref1, Rk, Fill, Ref2, Ow, PSpec, Pa1, Pa2, Pa3, Pa4, Pa5, Pa6, Al1, Wa1, Gw1, Gw2.
-/
import Derived.Test.YtmnacanjbhlfeaaProg
import Derived.Test.YtmnacanjbhlfeaaChecked
import Derived.WalkKit
import Derived.WalkSpells
import Derived.WalkLawsBesides
import Derived.Deep.QuietTactic
import Derived.BigQuiet
import Derived.Laws.BitsAllLaws
import Derived.Deep.OwnRows
import Derived.Deep.AppendLies
import Derived.Deep.RegionHeld3
import Derived.Deep.RegionLaw
import Derived.Deep.RegionWith
import Derived.Laws.IdiomStrings
import Derived.Laws.MakeOwn
import Derived.Lib.BufferWrite
import Derived.Lib.Hide
import Derived.Lib.Walk
import Derived.WalkSmall
import Derived.Deep.CutRange
import Derived.BigRegion
namespace Go.Proofs.Ytmnacanjbhlfeaa

/-- A rule, as plain data. -/
structure Out where
  kind : Int
  born : Int
  stay : Int
  states : Int
  radius : Int
  table : List Int
  turns : ByteArray

def entries (n m : Nat) : Nat := n ^ (2 * m + 1)

end Go.Proofs.Ytmnacanjbhlfeaa

namespace Go.Proofs.Ytmnacanjbhlfeaa
open Go.RowKit

/-- The reader at block b: its text s, its place i. -/
structure At (b : Nat) (s : ByteArray) (i : Nat) (w : World) : Prop where
  txt : w.cell? ⟨b, 0, none⟩ = some (.string s)
  pos : w.cell? ⟨b, 1, none⟩ = some (.int .i64 (i : Int))
  fz0 : w.frozen? ⟨b, 0, none⟩ = false
  fz1 : w.frozen? ⟨b, 1, none⟩ = false

/-- Of what was there, block b alone may have turned. -/
structure Rd (b : Nat) (w w' : World) : Prop where
  os : w'.os = w.os
  tape : w'.tape = w.tape
  output : w'.output = w.output
  size : w.heap.size ≤ w'.heap.size
  block : ∀ k, k < w.heap.size → k ≠ b → w'.heap[k]? = w.heap[k]?

theorem Rd.refl (b : Nat) (w : World) : Rd b w w := ⟨rfl, rfl, rfl, Nat.le_refl _, fun _ _ _ => rfl⟩
theorem Rd.trans {b : Nat} {a c d : World} (h : Rd b a c) (k : Rd b c d) : Rd b a d :=
  ⟨k.os.trans h.os, k.tape.trans h.tape, k.output.trans h.output, Nat.le_trans h.size k.size, fun i hi hb => (k.block i (Nat.lt_of_lt_of_le hi h.size) hb).trans (h.block i hi hb)⟩
theorem Rd.drewN {b : Nat} {a w : World} (h : Rd b a w) (n : Nat) : Rd b a (w.drewN n) := h.trans ⟨rfl, rfl, rfl, Nat.le_refl _, fun _ _ _ => rfl⟩
theorem Rd.below {b B : Nat} {w w' : World} (h : Rd b w w') (hB : B ≤ b) (hs : B ≤ w.heap.size) : Below B w w' :=
  ⟨h.os, h.tape, h.output, h.size, fun k hk => h.block k (by omega) (by omega)⟩
theorem Rd.cell {b : Nat} {w w' : World} (h : Rd b w w') : ∀ k o, k < w.heap.size → k ≠ b → w'.cell? ⟨k, o, none⟩ = w.cell? ⟨k, o, none⟩ :=
  fun k _ hk hb => World.cell?_of_block (w := w) (h.block k hk hb)
theorem At.lt {b : Nat} {s : ByteArray} {i : Nat} {w : World} (h : At b s i w) : b < w.heap.size := by
  rcases Nat.lt_or_ge b w.heap.size with k | k
  · exact k
  · have := h.txt; simp [World.cell?, Array.getElem?_eq_none k] at this
theorem At.drewN {b : Nat} {s : ByteArray} {i : Nat} {w : World} (h : At b s i w) (n : Nat) : At b s i (w.drewN n) := ⟨h.txt, h.pos, h.fz0, h.fz1⟩
end Go.Proofs.Ytmnacanjbhlfeaa

namespace Go.Proofs.Ytmnacanjbhlfeaa
open Go.RowKit

end Go.Proofs.Ytmnacanjbhlfeaa

namespace Go.Proofs.Ytmnacanjbhlfeaa
open Go.RowKit

/-- The number as it is kept: right up to most, and above it whatever is above. -/
structure Cap (most v k : Nat) : Prop where
  eq : v ≤ most → k = v
  gt : most < v → most < k
  le : k ≤ 10 * most + 9

theorem Cap.below {most v k d : Nat} (h : Cap most v k) (hd : d ≤ 9) (hk : k ≤ most) : Cap most (v * 10 + d) (10 * k + d) := by
  have h1 := h.eq
  have h2 := h.gt
  refine ⟨?_, ?_, by omega⟩ <;> omega
end Go.Proofs.Ytmnacanjbhlfeaa

namespace Go.Proofs.Ytmnacanjbhlfeaa
open Go.RowKit
set_option linter.unusedVariables false

theorem hide' {p : Prop} (h : p) : Hid p := h

end Go.Proofs.Ytmnacanjbhlfeaa

namespace Go.Proofs.Ytmnacanjbhlfeaa
open Go.RowKit

/-- A table in memory: a slice that reads as the numbers. -/
def Tab (w : World) (v : Value) (xs : List Int) : Prop :=
  (xs = [] ∧ v = .slice none 0 0) ∨ ∃ g cap, v = .slice (some ⟨g, 0, none⟩) xs.length cap ∧ g < w.heap.size ∧ ∀ k (h : k < xs.length), w.cell? ⟨g, k, none⟩ = some (.int .i64 xs[k])

/-- A slice whose block was made since. -/
def Fresh (w : World) (v : Value) : Prop := ∀ g k c, v = .slice (some ⟨g, 0, none⟩) k c → w.heap.size ≤ g
theorem Fresh.nil (w : World) : Fresh w (.slice none 0 0) := fun _ _ _ h => by injection h with h1; cases h1
/-- A rule as a value, its table at v. -/
def Out.val (o : Out) (v : Value) : Value := .agg #[.int .i64 o.kind, .int .i64 o.born, .int .i64 o.stay, .int .i64 o.states, .int .i64 o.radius, v, .string o.turns]

end Go.Proofs.Ytmnacanjbhlfeaa

namespace Go.Proofs.Ytmnacanjbhlfeaa
open Go.RowKit

end Go.Proofs.Ytmnacanjbhlfeaa

namespace Go.Proofs.Ytmnacanjbhlfeaa
open Go.RowKit
set_option linter.unusedVariables false

theorem Tab.parts {w : World} {v : Value} {xs : List Int} (h : Tab w v xs) :
    ∃ a c, v = .slice a xs.length c ∧ ∀ k (h : k < xs.length), ∃ g, a = some ⟨g, 0, none⟩ ∧ w.cell? ⟨g, k, none⟩ = some (.int .i64 xs[k]) := by
  rcases h with ⟨rfl, rfl⟩ | ⟨g, cap, rfl, hg, hc⟩
  · exact ⟨none, 0, rfl, fun k h => absurd h (by simp)⟩
  · exact ⟨_, cap, rfl, fun k h => ⟨g, rfl, hc k h⟩⟩

end Go.Proofs.Ytmnacanjbhlfeaa

namespace Go.Proofs.Ytmnacanjbhlfeaa
open Go.RowKit
set_option linter.unusedVariables false

theorem Tab.slice {w : World} {v : Value} {xs : List Int} (h : Tab w v xs) : ∃ a n c, v = .slice a n c := by
  rcases h with ⟨-, h⟩ | ⟨g, cap, h, -, -⟩
  · exact ⟨_, _, _, h⟩
  · exact ⟨_, _, _, h⟩
end Go.Proofs.Ytmnacanjbhlfeaa

namespace Go.Proofs.Ytmnacanjbhlfeaa

end Go.Proofs.Ytmnacanjbhlfeaa

namespace Go.Proofs.Ytmnacanjbhlfeaa
open Go.RowKit
set_option linter.unusedVariables false

/-- What the reader holds, its text aside. -/
structure Rv where
  i : Nat
  fl : Int
  wd : Int
  hi : Int
  cs : Value
  rt : Int
  dn : Int
  bg : Int
  tm : Int

def Rv.val (r : Rv) (s : ByteArray) : Nat → Value
  | 0 => .string s
  | 1 => .int .i64 (r.i : Int)
  | 2 => .int .i64 r.fl
  | 3 => .int .i64 r.wd
  | 4 => .int .i64 r.hi
  | 5 => r.cs
  | 6 => .int .i64 r.rt
  | 7 => .int .i64 r.dn
  | 8 => .int .i64 r.bg
  | 9 => .int .i64 r.tm
  | _ => .bool false

structure RAt (b : Nat) (s : ByteArray) (r : Rv) (w : World) : Prop where
  cell : ∀ k, k < 10 → w.cell? ⟨b, k, none⟩ = some (r.val s k)
  fz : ∀ k, k < 10 → w.frozen? ⟨b, k, none⟩ = false

theorem RAt.lt {b : Nat} {s : ByteArray} {r : Rv} {w : World} (h : RAt b s r w) : b < w.heap.size := by
  rcases Nat.lt_or_ge b w.heap.size with k | k
  · exact k
  · have := h.cell 0 (by omega); simp [World.cell?, Array.getElem?_eq_none k] at this
theorem RAt.block {b : Nat} {s : ByteArray} {r : Rv} {w w' : World} (h : RAt b s r w) (e : w'.heap[b]? = w.heap[b]?) : RAt b s r w' :=
  ⟨fun k hk => (World.cell?_of_block (w := w) (a := ⟨b, k, none⟩) e).trans (h.cell k hk), fun k hk => (World.frozen?_of_block (w := w) (a := ⟨b, k, none⟩) e).trans (h.fz k hk)⟩
theorem RAt.drewN {b : Nat} {s : ByteArray} {r : Rv} {w : World} (h : RAt b s r w) (n : Nat) : RAt b s r (w.drewN n) := h.block rfl
theorem RAt.below {b : Nat} {s : ByteArray} {r : Rv} {w w' : World} (h : RAt b s r w) (hb : Below w.heap.size w w') : RAt b s r w' := h.block (hb.block b h.lt)
/-- What a method of the reader leaves: the reader so, and nothing else turned. -/
def Left (b : Nat) (s : ByteArray) (r : Rv) (w w' : World) : Prop := RAt b s r w' ∧ Rd b w w'
end Go.Proofs.Ytmnacanjbhlfeaa

namespace Go.Proofs.Ytmnacanjbhlfeaa
open Go.RowKit
set_option linter.unusedVariables false

end Go.Proofs.Ytmnacanjbhlfeaa

namespace Go.Proofs.Ytmnacanjbhlfeaa
open Go.RowKit
set_option linter.unusedVariables false

end Go.Proofs.Ytmnacanjbhlfeaa

namespace Go.Proofs.Ytmnacanjbhlfeaa
open Go.RowKit
set_option linter.unusedVariables false

end Go.Proofs.Ytmnacanjbhlfeaa

namespace Go.Proofs.Ytmnacanjbhlfeaa
open Go.RowKit
set_option linter.unusedVariables false

end Go.Proofs.Ytmnacanjbhlfeaa

namespace Go.Proofs.Ytmnacanjbhlfeaa
open Go.RowKit
set_option linter.unusedVariables false

/-- At block g these ints, writable. -/
structure Cel (w : World) (g : Nat) (xs : List Int) : Prop where
  lt : g < w.heap.size
  cells : ∀ k, k < xs.length → w.cell? ⟨g, k, none⟩ = some (.int .i64 (xs.getD k 0))
  fz : ∀ k, w.frozen? ⟨g, k, none⟩ = false
theorem Cel.block {w w' : World} {g : Nat} {xs : List Int} (h : Cel w g xs) (hs : w.heap.size ≤ w'.heap.size) (e : w'.heap[g]? = w.heap[g]?) : Cel w' g xs :=
  ⟨Nat.lt_of_lt_of_le h.lt hs, fun k hk => (World.cell?_of_block (w := w) (a := ⟨g, k, none⟩) e).trans (h.cells k hk), fun k => (World.frozen?_of_block (w := w) (a := ⟨g, k, none⟩) e).trans (h.fz k)⟩
theorem Cel.below {w w' : World} {g : Nat} {xs : List Int} (h : Cel w g xs) (hb : Below w.heap.size w w') : Cel w' g xs := h.block hb.size (hb.block g h.lt)
end Go.Proofs.Ytmnacanjbhlfeaa

namespace Go.Proofs.Ytmnacanjbhlfeaa
open Go.RowKit
set_option linter.unusedVariables false

end Go.Proofs.Ytmnacanjbhlfeaa

namespace Go.Proofs.Ytmnacanjbhlfeaa
open Go.RowKit
set_option linter.unusedVariables false

/-- A pattern that came in, as a value: its cells anywhere. -/
structure ArgP (w : World) (xs : List Int) (a : Option Addr) (n c : Nat) : Prop where
  len : n = xs.length
  max : n ≤ maxLen
  cells : ∀ k (h : k < xs.length), ∃ g off, a = some ⟨g, off, none⟩ ∧ g < w.heap.size ∧ w.cell? ⟨g, off + k, none⟩ = some (.int .i64 xs[k])
theorem ArgP.below {w w' : World} {xs : List Int} {a : Option Addr} {n c : Nat} (h : ArgP w xs a n c) (hb : Below w.heap.size w w') : ArgP w' xs a n c :=
  ⟨h.len, h.max, fun k hk => by
    obtain ⟨g, off, e, hg, hc⟩ := h.cells k hk
    exact ⟨g, off, e, Nat.lt_of_lt_of_le hg hb.size, (World.cell?_of_block (w := w) (a := ⟨g, off + k, none⟩) (hb.block g hg)).trans hc⟩⟩
end Go.Proofs.Ytmnacanjbhlfeaa

namespace Go.Proofs.Ytmnacanjbhlfeaa
open Go.RowKit
set_option linter.unusedVariables false
set_option linter.unusedSimpArgs false
/-- A text's byte as it is read. -/
theorem byte_at (l : List UInt8) {i : Nat} (hi : i < l.length) : ∃ gi : i < (⟨l.toArray⟩ : ByteArray).size, ((⟨l.toArray⟩ : ByteArray)[i]'gi).toNat = (l.getD i 0).toNat := by
  refine ⟨by show i < l.toArray.size; simpa using hi, ?_⟩
  show l[i].toNat = _
  simp [List.getD, hi]
theorem drewG {B : Nat} {w V : World} (h : Below B w V) (k : Nat) : Below B w (V.drewN k) := ⟨h.os, h.tape, h.output, h.size, h.block⟩
/-- Two pieces of a text, so long, are the same. -/
def smL (l : List UInt8) (a b n : Nat) : Prop := ∀ j, j < n → l.getD (a + j) 0 = l.getD (b + j) 0
/-- An answer that says whether. -/
def BoolI (p : Prop) (e : Ending) : Prop := ∃ z : Bool, e = .returned (.bool z) ∧ (z = true ↔ p)
set_option maxRecDepth 100000 in
set_option maxHeartbeats 6400000 in
theorem refSame_any (l : List UInt8) (a b n : Nat) (w : World) (hl : l.length ≤ 40000) (ha : a + n ≤ l.length) (hb : b + n ≤ l.length) : Calls Try.prog 12 #[.string ⟨l.toArray⟩, .int .i64 (a : Int), .int .i64 (b : Int), .int .i64 (n : Int)] w fun e w' => BoolI (smL l a b n) e ∧ Below w.heap.size w w' := by
  have HL := hide' hl
  clear hl
  go_enter Try.func12, Try.ntmps12
  go_wp2
  go_loopw [9] (fun iv wr => ∃ (i : Nat), iv = .int .i64 (i : Int) ∧ i ≤ n ∧ Hid (smL l a b i) ∧ Hid (Below w.heap.size w wr)) (fun iv _ => n - (intOf iv).toNat)
  case atStart => exact ⟨0, rfl, by omega, hide' fun j h => by omega, hide' (Below.refl _ _)⟩
  case round =>
    obtain ⟨i, rfl, hi, AL, BW⟩ := hrel
    have hm := HL.out
    by_cases d : (i : Int) < (n : Int)
    · obtain ⟨u, hu⟩ : ∃ u, a + i = u := ⟨_, rfl⟩
      obtain ⟨v, hv⟩ : ∃ v, b + i = v := ⟨_, rfl⟩
      have l0 : u < l.length := by omega
      have l1 : v < l.length := by omega
      have u0 : (0 : Int) ≤ (u : Int) := by omega
      have v0 : (0 : Int) ≤ (v : Int) := by omega
      have eu : (a : Int) + (i : Int) = (u : Int) := by omega
      have ev : (b : Int) + (i : Int) = (v : Int) := by omega
      obtain ⟨g0, G0⟩ := byte_at l l0
      obtain ⟨g1, G1⟩ := byte_at l l1
      have NO := hide' (fun (h : ¬ l.getD (a + i) 0 = l.getD (b + i) 0) (s : smL l a b n) => h (s i (by omega)))
      have YES := hide' (fun (h : l.getD (a + i) 0 = l.getD (b + i) 0) j (hj : j < i + 1) => show l.getD (a + j) 0 = l.getD (b + j) 0 by
        by_cases e : j = i
        · rw [e]; exact h
        · exact AL.out j (by omega))
      rw [hu, hv] at NO YES
      have HU := hide' (And.intro hu hv)
      clear hu hv
      obtain ⟨c, hc⟩ : ∃ c, l.getD u 0 = c := ⟨_, rfl⟩
      obtain ⟨c', hc'⟩ : ∃ c, l.getD v 0 = c := ⟨_, rfl⟩
      rw [hc, hc'] at NO YES
      rw [hc] at G0
      rw [hc'] at G1
      clear hc hc'
      by_cases q : c = c'
      · have YY := hide' (YES.out q)
        have q' : (c.toNat : Int) = (c'.toNat : Int) := by rw [q]
        clear q
        go_wp2
        go_quiet (fail)
        all_goals go_wp2
        all_goals exact ⟨⟨i + 1, by go_num, by omega, YY, hide' (drewG BW.out _)⟩, by simp [intOf]; omega⟩
      · have NN := hide' (NO.out q)
        have q' : ¬ (c.toNat : Int) = (c'.toNat : Int) := fun e => q (UInt8.toNat_inj.1 (by omega))
        clear q
        go_wp2
        go_quiet (fail)
        all_goals go_wp2
        all_goals go_ret
        all_goals exact ⟨⟨false, rfl, ⟨fun h => (by cases h), fun h => absurd h NN.out⟩⟩, (drewG BW.out _)⟩
    · obtain rfl : i = n := by omega
      go_wp2
      go_ret
      exact ⟨⟨true, rfl, ⟨fun _ => AL.out, fun _ => rfl⟩⟩, BW.out⟩
end Go.Proofs.Ytmnacanjbhlfeaa

namespace Go.Proofs.Ytmnacanjbhlfeaa
open Go.RowKit
set_option linter.unusedVariables false
set_option linter.unusedSimpArgs false
/-- At this end a word of n letters stands twice, and m letters of it more. -/
def rpL (l : List UInt8) (m e n : Nat) : Prop := 1 ≤ n ∧ 2 * n + m ≤ e ∧ smL l (e - 2 * n - m) (e - 2 * n - m + n) (n + m)
/-- None ends ahead of e. -/
def noR (l : List UInt8) (m e : Nat) : Prop := ∀ e' n', e' < e → ¬ rpL l m e' n'
/-- None ends at e that is shorter than n. -/
def noS (l : List UInt8) (m e n : Nat) : Prop := ∀ n', n' < n → ¬ rpL l m e n'
/-- What Repeat answers. -/
def RepOut (l : List UInt8) (m : Nat) (o : Ending) : Prop :=
  (∃ e n, e ≤ l.length ∧ rpL l m e n ∧ noR l m e ∧ noS l m e n ∧ l.length ≤ 40000 ∧ o = .returned (.tuple #[.int .i64 ((e - 2 * n - m : Nat) : Int), .int .i64 (n : Int), .bool true]))
  ∨ ((40000 < l.length ∨ noR l m (l.length + 1)) ∧ o = .returned (.tuple #[.int .i64 0, .int .i64 0, .bool false]))
set_option maxRecDepth 100000 in
set_option maxHeartbeats 6400000 in
theorem refRepeat_any (l : List UInt8) (m : Nat) (w : World) (hl : l.length ≤ maxLen) (hm : m ≤ 1) : Calls Try.prog 6 #[.string ⟨l.toArray⟩, .int .i64 (m : Int)] w fun e w' => RepOut l m e ∧ Below w.heap.size w w' := by
  have HL := hide' hl
  have SM := hide' (fun (h : l.length ≤ 40000) (a b n : Nat) (ha : a + n ≤ l.length) (hb : b + n ≤ l.length) (V : World) => refSame_any l a b n V h ha hb)
  clear hl
  go_enter Try.func6, Try.ntmps6
  have hx := HL.out
  unfold maxLen at hx
  by_cases big : (40000 : Int) < (l.length : Int)
  · have BG := hide' (show 40000 < l.length by omega)
    go_wp2
    go_ret3
    exact ⟨Or.inr ⟨Or.inl BG.out, rfl⟩, Below.refl _ _⟩
  · have l4 : l.length ≤ 40000 := by omega
    clear hx
    go_wp2
    go_loopw [7, 8, 9, 10] (fun ev _ _ _ wr => ∃ (e : Nat), ev = .int .i64 (e : Int) ∧ 1 ≤ e ∧ e ≤ l.length + 1 ∧ Hid (noR l m e) ∧ Hid (Below w.heap.size w wr)) (fun ev _ _ _ _ => l.length + 1 - (intOf ev).toNat)
    case atStart => exact ⟨1, rfl, by omega, by omega, hide' (fun e' n' h r => by have := r.1; have := r.2.1; omega), hide' (Below.refl _ _)⟩
    case round =>
      obtain ⟨e, rfl, e1, el, NR, BW⟩ := hrel
      by_cases d : (e : Int) ≤ (l.length : Int)
      · go_wp2
        go_loopw [8, 9, 10] (fun nv _ _ wr => ∃ (n : Nat), nv = .int .i64 (n : Int) ∧ 1 ≤ n ∧ n ≤ e + 1 ∧ Hid (noS l m e n) ∧ Hid (Below w.heap.size w wr)) (fun nv _ _ _ => e + 1 - (intOf nv).toNat)
        case atStart => exact ⟨1, rfl, by omega, by omega, hide' (fun n' h r => by have := r.1; omega), hide' (by first | exact BW.out | assumption)⟩
        case round =>
          obtain ⟨n, rfl, n1, ne, NS, BX⟩ := hrel
          by_cases q : 2 * (n : Int) + (m : Int) ≤ (e : Int)
          · obtain ⟨a, ha⟩ : ∃ a, e - 2 * n - m = a := ⟨_, rfl⟩
            obtain ⟨b, hb⟩ : ∃ b, a + n = b := ⟨_, rfl⟩
            obtain ⟨k, hk⟩ : ∃ k, n + m = k := ⟨_, rfl⟩
            have ea : (e : Int) - 2 * (n : Int) - (m : Int) = (a : Int) := by omega
            have eb : (a : Int) + (n : Int) = (b : Int) := by omega
            have ek : (n : Int) + (m : Int) = (k : Int) := by omega
            have SC := hide' (SM.out l4 a b k (by omega) (by omega))
            have YES := hide' (fun (h : smL l a b k) => show rpL l m e n from ⟨n1, by omega, by rw [ha, hb, hk]; exact h⟩)
            have NO := hide' (fun (h : ¬ smL l a b k) => show noS l m e (n + 1) from fun n' hn r => by
              by_cases en : n' = n
              · subst en
                apply h
                have := r.2.2
                rw [ha, hb, hk] at this
                exact this
              · exact NS.out n' (by omega) r)
            have HA := hide' (And.intro ha (And.intro hb hk))
            clear ha hb hk
            go_wp2_with fail
            refine (SC.out _).mono ?_
            rintro o w3 ⟨⟨z, rfl, hz⟩, b3⟩
            have B3 := hide' (BX.out.trans (b3.mono BX.out.size))
            cases z with
            | true =>
              have RP := hide' (YES.out (hz.1 rfl))
              clear hz
              go_wp2
              go_ret3
              exact ⟨Or.inl ⟨e, n, by omega, RP.out, NR.out, NS.out, l4, by rw [HA.out.1]; rfl⟩, B3.out⟩
            | false =>
              have RP := hide' (NO.out (fun h => by cases hz.2 h))
              clear hz
              go_wp2
              exact ⟨⟨n + 1, by go_num, by omega, by omega, RP, B3⟩, by simp [intOf]; omega⟩
          · have NX := hide' (show noR l m (e + 1) from fun e' n' h r => by
              by_cases ee : e' = e
              · subst ee
                by_cases nn : n' < n
                · exact NS.out n' nn r
                · have := r.2.1; omega
              · exact NR.out e' n' (by omega) r)
            go_wp2
            exact ⟨⟨e + 1, by go_num, by omega, by omega, NX, BX⟩, by simp [intOf]; omega⟩
      · obtain rfl : e = l.length + 1 := by omega
        go_wp2
        go_ret3
        exact ⟨Or.inr ⟨Or.inr NR.out, rfl⟩, BW.out⟩
end Go.Proofs.Ytmnacanjbhlfeaa

