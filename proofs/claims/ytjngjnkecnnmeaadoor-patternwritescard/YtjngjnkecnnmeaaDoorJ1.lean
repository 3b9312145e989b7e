/-
  What the last text of this claim leans on, part 1: Spec, Rd, Rb, Rn, Ref1, Rk, Fill, Ref2, Ow, PSpec, Pa1, Pa2, Pa3, Pa4, Pa5, Pa6, Al1.
-/
import Derived.Test.YtjngjnkecnnmeaaDoorProg
import Derived.WalkKit
import Derived.WalkSpells
import Derived.WalkLawsBesides
import Derived.Deep.QuietTactic
import Derived.BigQuiet
import Derived.Laws.BitsAllLaws
import Derived.Deep.OwnRows
import Derived.Deep.AppendLies
import Derived.Deep.RegionHeld3
import Derived.Deep.RegionLaw
import Derived.Deep.RegionWith
import Derived.Laws.IdiomStrings
import Derived.Laws.MakeOwn
import Derived.Lib.BufferWrite
import Derived.Lib.Hide
import Derived.Lib.Walk
import Derived.WalkSmall
namespace Go.Proofs.YtjngjnkecnnmeaaDoor

/-- Does a byte from lo to hi stand at i? -/
def inR (s : ByteArray) (i : Nat) (lo hi : Int) : Bool := if h : i < s.size then decide (lo ≤ (s[i].toNat : Int)) && decide ((s[i].toNat : Int) ≤ hi) else false

/-- The byte at i, 0 behind the end. -/
def bt (s : ByteArray) (i : Nat) : Nat := if h : i < s.size then s[i].toNat else 0

theorem bt_lt (s : ByteArray) (i : Nat) (h : i < s.size) : s[i].toNat = bt s i := by simp [bt, h]
theorem bt_le (s : ByteArray) (i : Nat) : bt s i ≤ 255 := by
  unfold bt
  split
  · have := (s[i]).toNat_lt; omega
  · omega
theorem inR_true {s : ByteArray} {i : Nat} {lo hi : Int} : inR s i lo hi = true ↔ i < s.size ∧ lo ≤ (bt s i : Int) ∧ (bt s i : Int) ≤ hi := by
  unfold inR bt
  by_cases h : i < s.size <;> simp [h]
theorem inR_false {s : ByteArray} {i : Nat} {lo hi : Int} : inR s i lo hi = false ↔ ¬ (i < s.size ∧ lo ≤ (bt s i : Int) ∧ (bt s i : Int) ≤ hi) := by
  rw [← inR_true]; cases inR s i lo hi <;> simp

/-- Digits that rise, as bits, and where they end. -/
def risF (s : ByteArray) : Nat → Nat → Nat → Nat → Nat × Nat
  | 0, i, _, acc => (acc, i)
  | f + 1, i, low, acc => if inR s i low 56 then risF s f (i + 1) (bt s i + 1) (acc + 2 ^ (bt s i - 48)) else (acc, i)
def ris (s : ByteArray) (i : Nat) : Nat × Nat := risF s (s.size - i) i 48 0

theorem risF_step {s : ByteArray} {i low acc : Nat} (h : inR s i low 56 = true) :
    risF s (s.size - i) i low acc = risF s (s.size - (i + 1)) (i + 1) (bt s i + 1) (acc + 2 ^ (bt s i - 48)) := by
  have hl := (inR_true.1 h).1
  rw [show s.size - i = (s.size - (i + 1)) + 1 by omega]
  simp [risF, h]
theorem risF_stop {s : ByteArray} {i low acc : Nat} (h : inR s i low 56 = false) : risF s (s.size - i) i low acc = (acc, i) := by
  cases s.size - i <;> simp [risF, h]

/-- Digits from i on as one number (added to what there was), and where they end. -/
def numF (s : ByteArray) : Nat → Nat → Nat → Nat × Nat
  | 0, i, v => (v, i)
  | f + 1, i, v => if inR s i 48 57 then numF s f (i + 1) (v * 10 + (bt s i - 48)) else (v, i)
def num (s : ByteArray) (i : Nat) : Nat × Nat := numF s (s.size - i) i 0

theorem numF_step {s : ByteArray} {i v : Nat} (h : inR s i 48 57 = true) :
    numF s (s.size - i) i v = numF s (s.size - (i + 1)) (i + 1) (v * 10 + (bt s i - 48)) := by
  have hl := (inR_true.1 h).1
  rw [show s.size - i = (s.size - (i + 1)) + 1 by omega]
  simp [numF, h]
theorem numF_stop {s : ByteArray} {i v : Nat} (h : inR s i 48 57 = false) : numF s (s.size - i) i v = (v, i) := by
  cases s.size - i <;> simp [numF, h]

/-- Is what stands at i a number from least to most, without a needless 0? -/
def numOk (s : ByteArray) (i least most : Nat) : Bool :=
  !(decide ((num s i).2 = i) || (decide (1 < (num s i).2 - i) && decide (bt s i = 48)) || decide ((num s i).1 < least) || decide (most < (num s i).1))

/-- A rule, as plain data. -/
structure Out where
  kind : Int
  born : Int
  stay : Int
  states : Int
  radius : Int
  table : List Int
  turns : ByteArray

/-- Of the digits of a table how many stand there, from i on. -/
def tabF (s : ByteArray) (hi : Int) : Nat → Nat → Nat
  | 0, _ => 0
  | f + 1, i => if inR s i 48 hi then tabF s hi f (i + 1) + 1 else 0

def lifeS (s : ByteArray) : (Out × Nat) ⊕ Nat :=
  if !inR s (ris s 1).2 47 47 then .inr (ris s 1).2
  else if !inR s ((ris s 1).2 + 1) 83 83 then .inr ((ris s 1).2 + 1)
  else .inl (⟨1, (ris s 1).1, (ris s ((ris s 1).2 + 2)).1, 0, 0, [], ⟨#[]⟩⟩, (ris s ((ris s 1).2 + 2)).2)

def bitOf (n i : Nat) : Int := ((n / 2 ^ i % 2 : Nat) : Int)

def numberedS (s : ByteArray) : (Out × Nat) ⊕ Nat :=
  if !numOk s 1 0 255 then .inr 1
  else .inl (⟨2, 0, 0, 2, 1, (List.range 8).map (bitOf (num s 1).1), ⟨#[]⟩⟩, (num s 1).2)

def entries (n m : Nat) : Nat := n ^ (2 * m + 1)

/-- The table of n states and radius m, from behind the blank at j. -/
def tabEnd (s : ByteArray) (n m j : Nat) : (Out × Nat) ⊕ Nat :=
  if tabF s (48 + n - 1) (entries n m) (j + 1) < entries n m then .inr (j + 1 + tabF s (48 + n - 1) (entries n m) (j + 1))
  else .inl (⟨2, 0, 0, n, m, (List.range (entries n m)).map (fun y => (bt s (j + 1 + y) : Int) - 48), ⟨#[]⟩⟩, j + 1 + entries n m)

def tabledS (s : ByteArray) : (Out × Nat) ⊕ Nat :=
  if !inR s 1 32 32 then .inr 1
  else if !numOk s 2 2 4 then .inr 2
  else if !inR s (num s 2).2 32 32 then .inr (num s 2).2
  else if !numOk s ((num s 2).2 + 1) 0 2 then .inr ((num s 2).2 + 1)
  else if !inR s (num s ((num s 2).2 + 1)).2 32 32 then .inr (num s ((num s 2).2 + 1)).2
  else tabEnd s (num s 2).1 (num s ((num s 2).2 + 1)).1 (num s ((num s 2).2 + 1)).2

/-- Signs from i on, at most so many. -/
def turnF (s : ByteArray) : Nat → Nat → Nat
  | 0, i => i
  | f + 1, i => if i < s.size ∧ (bt s i = 76 ∨ bt s i = 82) then turnF s f (i + 1) else i

def antS (s : ByteArray) : (Out × Nat) ⊕ Nat :=
  if !inR s 1 32 32 then .inr 1
  else if turnF s 26 2 = 2 then .inr 2
  else .inl (⟨3, 0, 0, 0, 0, [], s.extract 2 (turnF s 26 2)⟩, turnF s 26 2)

def kindS (s : ByteArray) : (Out × Nat) ⊕ Nat :=
  if s.size = 0 then .inr 0
  else if bt s 0 = 66 then lifeS s
  else if bt s 0 = 87 then numberedS s
  else if bt s 0 = 76 then tabledS s
  else if bt s 0 = 84 then antS s
  else .inr 0

def parseS (s : ByteArray) : Out ⊕ Nat :=
  match kindS s with
  | .inr a => .inr a
  | .inl (o, p) => if p = s.size then .inl o else .inr p

end Go.Proofs.YtjngjnkecnnmeaaDoor

namespace Go.Proofs.YtjngjnkecnnmeaaDoor
open Go.RowKit

/-- The reader at block b: its text s, its place i. -/
structure At (b : Nat) (s : ByteArray) (i : Nat) (w : World) : Prop where
  txt : w.cell? ⟨b, 0, none⟩ = some (.string s)
  pos : w.cell? ⟨b, 1, none⟩ = some (.int .i64 (i : Int))
  fz0 : w.frozen? ⟨b, 0, none⟩ = false
  fz1 : w.frozen? ⟨b, 1, none⟩ = false

/-- Of what was there, block b alone may have turned. -/
structure Rd (b : Nat) (w w' : World) : Prop where
  os : w'.os = w.os
  tape : w'.tape = w.tape
  output : w'.output = w.output
  size : w.heap.size ≤ w'.heap.size
  block : ∀ k, k < w.heap.size → k ≠ b → w'.heap[k]? = w.heap[k]?

theorem Rd.refl (b : Nat) (w : World) : Rd b w w := ⟨rfl, rfl, rfl, Nat.le_refl _, fun _ _ _ => rfl⟩
theorem Rd.trans {b : Nat} {a c d : World} (h : Rd b a c) (k : Rd b c d) : Rd b a d :=
  ⟨k.os.trans h.os, k.tape.trans h.tape, k.output.trans h.output, Nat.le_trans h.size k.size, fun i hi hb => (k.block i (Nat.lt_of_lt_of_le hi h.size) hb).trans (h.block i hi hb)⟩
theorem Rd.drewN {b : Nat} {a w : World} (h : Rd b a w) (n : Nat) : Rd b a (w.drewN n) := h.trans ⟨rfl, rfl, rfl, Nat.le_refl _, fun _ _ _ => rfl⟩
theorem Rd.drew {b : Nat} {a w : World} (h : Rd b a w) : Rd b a w.drew := h.trans ⟨rfl, rfl, rfl, Nat.le_refl _, fun _ _ _ => rfl⟩
theorem Rd.alloc {b : Nat} {a w : World} (h : Rd b a w) (o : Obj) : Rd b a (w.alloc o) :=
  h.trans ⟨rfl, rfl, rfl, by simp, fun k hk _ => Below.heap_alloc _ _ _ hk⟩
/-- A store into the reader. -/
theorem Rd.set {b : Nat} {a w : World} (h : Rd b a w) (o : Nat) (u : Value) : Rd b a (w.setCell ⟨b, o, none⟩ u) :=
  h.trans ⟨rfl, rfl, rfl, by simp [World.setCell], fun k _ hk => Below.heap_setCell _ _ _ _ hk⟩
/-- A store into a new block. -/
theorem Rd.setNew {b : Nat} {a w : World} (h : Rd b a w) {p : Addr} (hp : a.heap.size ≤ p.block) (u : Value) : Rd b a (w.setCell p u) := by
  refine ⟨h.os, h.tape, h.output, ?_, fun k hk hb => ?_⟩
  · have := h.size; simp [World.setCell]; exact this
  · rw [Below.heap_setCell _ _ _ _ (by omega)]; exact h.block k hk hb
theorem Rd.below {b B : Nat} {w w' : World} (h : Rd b w w') (hB : B ≤ b) (hs : B ≤ w.heap.size) : Below B w w' :=
  ⟨h.os, h.tape, h.output, h.size, fun k hk => h.block k (by omega) (by omega)⟩
theorem Rd.cell {b : Nat} {w w' : World} (h : Rd b w w') : ∀ k o, k < w.heap.size → k ≠ b → w'.cell? ⟨k, o, none⟩ = w.cell? ⟨k, o, none⟩ :=
  fun k _ hk hb => World.cell?_of_block (w := w) (h.block k hk hb)
theorem Rd.frozen {b : Nat} {w w' : World} (h : Rd b w w') : ∀ k o, k < w.heap.size → k ≠ b → w'.frozen? ⟨k, o, none⟩ = w.frozen? ⟨k, o, none⟩ :=
  fun k _ hk hb => World.frozen?_of_block (w := w) (h.block k hk hb)

theorem At.lt {b : Nat} {s : ByteArray} {i : Nat} {w : World} (h : At b s i w) : b < w.heap.size := by
  rcases Nat.lt_or_ge b w.heap.size with k | k
  · exact k
  · have := h.txt; simp [World.cell?, Array.getElem?_eq_none k] at this
theorem At.drewN {b : Nat} {s : ByteArray} {i : Nat} {w : World} (h : At b s i w) (n : Nat) : At b s i (w.drewN n) := ⟨h.txt, h.pos, h.fz0, h.fz1⟩
theorem At.alloc {b : Nat} {s : ByteArray} {i : Nat} {w : World} (h : At b s i w) (o : Obj) : At b s i (w.alloc o) := by
  have hl := h.lt
  have e : (w.alloc o).heap[b]? = w.heap[b]? := Below.heap_alloc _ _ _ hl
  exact ⟨(World.cell?_of_block (w := w) (a := ⟨b, 0, none⟩) e).trans h.txt, (World.cell?_of_block (w := w) (a := ⟨b, 1, none⟩) e).trans h.pos,
    (World.frozen?_of_block (w := w) (a := ⟨b, 0, none⟩) e).trans h.fz0, (World.frozen?_of_block (w := w) (a := ⟨b, 1, none⟩) e).trans h.fz1⟩
theorem At.setOther {b : Nat} {s : ByteArray} {i : Nat} {w : World} (h : At b s i w) {p : Addr} (hp : b ≠ p.block) (u : Value) : At b s i (w.setCell p u) := by
  have e : (w.setCell p u).heap[b]? = w.heap[b]? := Below.heap_setCell _ _ _ _ hp
  exact ⟨(World.cell?_of_block (w := w) (a := ⟨b, 0, none⟩) e).trans h.txt, (World.cell?_of_block (w := w) (a := ⟨b, 1, none⟩) e).trans h.pos,
    (World.frozen?_of_block (w := w) (a := ⟨b, 0, none⟩) e).trans h.fz0, (World.frozen?_of_block (w := w) (a := ⟨b, 1, none⟩) e).trans h.fz1⟩
theorem At.go {b : Nat} {s : ByteArray} {i : Nat} {w : World} (h : At b s i w) (j : Nat) : At b s j (w.setCell ⟨b, 1, none⟩ (.int .i64 (j : Int))) := by
  refine ⟨?_, ?_, ?_, ?_⟩
  · exact (World.cell?_setCell_other (w := w) (a := ⟨b, 1, none⟩) (b := ⟨b, 0, none⟩) (v := _) (h := by simp)).trans h.txt
  · exact World.cell?_setCell_same (w := w) (a := ⟨b, 1, none⟩) (v := _) (h := h.pos)
  · rw [World.frozen?_setCell]; exact h.fz0
  · rw [World.frozen?_setCell]; exact h.fz1

def oops : List PanicEntry := [{ v := .iface 87 (.int .i64 2), recovered := false }]

theorem ended_any (b : Nat) (s : ByteArray) (i : Nat) (w : World) (h : At b s i w) :
    Calls Tryd.prog 107 #[.pointer (some ⟨b, 0, none⟩)] w fun e w' => e = .returned (.bool ((i : Int) == (s.size : Int))) ∧ ∃ n, w' = w.drewN n := by
  obtain ⟨h0, h1, -, -⟩ := h
  go_enter Tryd.func107, Tryd.ntmps107
  go_wp2
  go_quiet (fail)
  go_wp2
  go_ret
  exact ⟨rfl, nq, rfl⟩

theorem ended_no (b : Nat) (s : ByteArray) (i : Nat) (w : World) (h : At b s i w) (hi : i < s.size) :
    Calls Tryd.prog 107 #[.pointer (some ⟨b, 0, none⟩)] w fun e w' => e = .returned (.bool false) ∧ ∃ n, w' = w.drewN n := by
  refine (ended_any b s i w h).mono fun e w' ⟨he, hw⟩ => ⟨?_, hw⟩
  rw [he, show ((i : Int) == (s.size : Int)) = false by simp; omega]
theorem ended_yes (b : Nat) (s : ByteArray) (i : Nat) (w : World) (h : At b s i w) (hi : i = s.size) :
    Calls Tryd.prog 107 #[.pointer (some ⟨b, 0, none⟩)] w fun e w' => e = .returned (.bool true) ∧ ∃ n, w' = w.drewN n := by
  refine (ended_any b s i w h).mono fun e w' ⟨he, hw⟩ => ⟨?_, hw⟩
  rw [he, show ((i : Int) == (s.size : Int)) = true by simp; omega]

theorem fail_any (b : Nat) (s : ByteArray) (i j : Nat) (w : World) (h : At b s i w) :
    Calls Tryd.prog 108 #[.pointer (some ⟨b, 0, none⟩), .int .i64 (j : Int)] w fun e w' => e = .panicked oops ∧ At b s j w' ∧ Rd b w w' := by
  have hgo := h.go j
  obtain ⟨h0, h1, f0, f1⟩ := h
  have H : Hid (At b s j (w.setCell ⟨b, 1, none⟩ (.int .i64 (j : Int)))) := hgo
  clear hgo
  go_enter Tryd.func108, Tryd.ntmps108
  go_wp2
  exact ⟨rfl, rfl, H.out, (Rd.refl _ _).set _ _⟩

set_option maxHeartbeats 400000 in
theorem within_yes (b : Nat) (s : ByteArray) (i : Nat) (lo hi : Int) (w : World) (h : At b s i w) (hi' : i < s.size) (hl : lo ≤ (s[i].toNat : Int)) (hh : (s[i].toNat : Int) ≤ hi) :
    Calls Tryd.prog 154 #[.pointer (some ⟨b, 0, none⟩), .int .u8 lo, .int .u8 hi] w fun e w' => e = .returned (.bool true) ∧ ∃ n, w' = w.drewN n := by
  have H : Hid (At b s i w) := h
  obtain ⟨h0, h1, -, -⟩ := h
  go_enter Tryd.func154, Tryd.ntmps154
  go_wp2
  go_quiet ((go_at_call 107; exact Calls.quiet_of (ended_no b s i _ (H.out.drewN _) hi')))
  go_wp2
  go_ret
  exact ⟨rfl, nq, rfl⟩

set_option maxHeartbeats 400000 in
theorem within_end (b : Nat) (s : ByteArray) (i : Nat) (lo hi : Int) (w : World) (h : At b s i w) (hi' : i = s.size) :
    Calls Tryd.prog 154 #[.pointer (some ⟨b, 0, none⟩), .int .u8 lo, .int .u8 hi] w fun e w' => e = .returned (.bool false) ∧ ∃ n, w' = w.drewN n := by
  have H : Hid (At b s i w) := h
  have H' : Hid (i = s.size) := hi'
  clear h hi'
  go_enter Tryd.func154, Tryd.ntmps154
  go_wp2
  go_quiet ((go_at_call 107; exact Calls.quiet_of (ended_yes b s i _ (H.out.drewN _) H'.out)))
  go_wp2
  go_ret
  exact ⟨rfl, nq, rfl⟩

set_option maxHeartbeats 400000 in
theorem within_low (b : Nat) (s : ByteArray) (i : Nat) (lo hi : Int) (w : World) (h : At b s i w) (hi' : i < s.size) (hl : decide (lo ≤ (s[i].toNat : Int)) = false) :
    Calls Tryd.prog 154 #[.pointer (some ⟨b, 0, none⟩), .int .u8 lo, .int .u8 hi] w fun e w' => e = .returned (.bool false) ∧ ∃ n, w' = w.drewN n := by
  have H : Hid (At b s i w) := h
  obtain ⟨h0, h1, -, -⟩ := h
  go_enter Tryd.func154, Tryd.ntmps154
  go_wp2
  go_quiet ((go_at_call 107; exact Calls.quiet_of (ended_no b s i _ (H.out.drewN _) hi')))
  go_wp2
  go_ret
  exact ⟨rfl, nq, rfl⟩

set_option maxHeartbeats 400000 in
theorem within_high (b : Nat) (s : ByteArray) (i : Nat) (lo hi : Int) (w : World) (h : At b s i w) (hi' : i < s.size) (hl : lo ≤ (s[i].toNat : Int)) (hh : decide ((s[i].toNat : Int) ≤ hi) = false) :
    Calls Tryd.prog 154 #[.pointer (some ⟨b, 0, none⟩), .int .u8 lo, .int .u8 hi] w fun e w' => e = .returned (.bool false) ∧ ∃ n, w' = w.drewN n := by
  have H : Hid (At b s i w) := h
  obtain ⟨h0, h1, -, -⟩ := h
  go_enter Tryd.func154, Tryd.ntmps154
  go_wp2
  go_quiet ((go_at_call 107; exact Calls.quiet_of (ended_no b s i _ (H.out.drewN _) hi')))
  go_wp2
  go_ret
  exact ⟨rfl, nq, rfl⟩

theorem within_is (b : Nat) (s : ByteArray) (i : Nat) (lo hi : Int) (w : World) (h : At b s i w) (hi' : i ≤ s.size) :
    Calls Tryd.prog 154 #[.pointer (some ⟨b, 0, none⟩), .int .u8 lo, .int .u8 hi] w fun e w' => e = .returned (.bool (inR s i lo hi)) ∧ ∃ n, w' = w.drewN n := by
  by_cases hlt : i < s.size
  · cases hl : decide (lo ≤ (s[i].toNat : Int)) with
    | false => rw [show inR s i lo hi = false by simp [inR, hlt, hl]]; exact within_low b s i lo hi w h hlt hl
    | true =>
      cases hh : decide ((s[i].toNat : Int) ≤ hi) with
      | false => rw [show inR s i lo hi = false by simp [inR, hlt, hh]]; exact within_high b s i lo hi w h hlt (by simpa using hl) hh
      | true => rw [show inR s i lo hi = true by simp [inR, hlt, hl, hh]]; exact within_yes b s i lo hi w h hlt (by simpa using hl) (by simpa using hh)
  · rw [show inR s i lo hi = false by simp [inR, hlt]]; exact within_end b s i lo hi w h (by omega)

set_option maxHeartbeats 400000 in
theorem take_no (b : Nat) (s : ByteArray) (i : Nat) (lo hi : Int) (w : World) (h : At b s i w) (hi' : i ≤ s.size) (hn : inR s i lo hi = false) :
    Calls Tryd.prog 139 #[.pointer (some ⟨b, 0, none⟩), .int .u8 lo, .int .u8 hi] w fun e w' => e = .panicked oops ∧ At b s i w' ∧ Rd b w w' := by
  have H : Hid (At b s i w) := h
  obtain ⟨h0, h1, f0, f1⟩ := h
  go_enter Tryd.func139, Tryd.ntmps139
  go_wp2_with fail
  refine (within_is b s i lo hi _ H.out hi').mono ?_
  rw [hn]
  rintro e w' ⟨rfl, n, rfl⟩
  go_wp2_with fail
  refine (fail_any b s i i _ (H.out.drewN _)).mono ?_
  rintro e w' ⟨rfl, ha, hr⟩
  go_wp2
  exact ⟨rfl, rfl, ha, (Rd.drewN (Rd.refl _ _) _).trans hr⟩

set_option maxHeartbeats 400000 in
theorem take_yes (b : Nat) (s : ByteArray) (i : Nat) (lo hi : Int) (w : World) (h : At b s i w) (hs : s.size ≤ maxLen) (hi' : i < s.size) (hn : inR s i lo hi = true) :
    Calls Tryd.prog 139 #[.pointer (some ⟨b, 0, none⟩), .int .u8 lo, .int .u8 hi] w fun e w' => e = .returned (.int .u8 (s[i].toNat : Int)) ∧ At b s (i + 1) w' ∧ Rd b w w' := by
  have H : Hid (At b s i w) := h
  have hgo := h.go (i + 1)
  have G : Hid (At b s (i + 1) (w.setCell ⟨b, 1, none⟩ (.int .i64 ((i + 1 : Nat) : Int)))) := hgo
  have g0 := hgo.txt
  have g1 := hgo.pos
  rw [show ((i + 1 : Nat) : Int) = (i : Int) + 1 by omega] at g0 g1
  clear hgo
  obtain ⟨h0, h1, f0, f1⟩ := h
  unfold maxLen at hs
  go_enter Tryd.func139, Tryd.ntmps139
  go_wp2_with fail
  refine (within_is b s i lo hi _ H.out (Nat.le_of_lt hi')).mono ?_
  rw [hn]
  rintro e w' ⟨rfl, n, rfl⟩
  go_wp2
  go_quiet (fail)
  go_wp2
  go_ret
  rw [show (i : Int) + 1 = ((i + 1 : Nat) : Int) by omega]
  exact ⟨rfl, ((H.out.drewN n).go (i + 1)).drewN nq, (((Rd.refl _ _).drewN n).set _ _).drewN nq⟩

theorem expect_no (b : Nat) (s : ByteArray) (i : Nat) (c : Int) (w : World) (h : At b s i w) (hi' : i ≤ s.size) (hn : inR s i c c = false) :
    Calls Tryd.prog 156 #[.pointer (some ⟨b, 0, none⟩), .int .u8 c] w fun e w' => e = .panicked oops ∧ At b s i w' ∧ Rd b w w' := by
  go_enter Tryd.func156, Tryd.ntmps156
  go_wp2_with fail
  refine (take_no b s i c c _ h hi' hn).mono ?_
  rintro e w' ⟨rfl, ha, hr⟩
  go_wp2
  exact ⟨rfl, rfl, ha, hr⟩
theorem expect_yes (b : Nat) (s : ByteArray) (i : Nat) (c : Int) (w : World) (h : At b s i w) (hs : s.size ≤ maxLen) (hn : inR s i c c = true) :
    Calls Tryd.prog 156 #[.pointer (some ⟨b, 0, none⟩), .int .u8 c] w fun e w' => e = .returned (.tuple #[]) ∧ At b s (i + 1) w' ∧ Rd b w w' := by
  go_enter Tryd.func156, Tryd.ntmps156
  go_wp2_with fail
  refine (take_yes b s i c c _ h hs (inR_true.1 hn).1 hn).mono ?_
  rintro e w' ⟨rfl, ha, hr⟩
  go_wp2
  go_end0
  exact ⟨rfl, ha, hr⟩
end Go.Proofs.YtjngjnkecnnmeaaDoor

namespace Go.Proofs.YtjngjnkecnnmeaaDoor
open Go.RowKit

theorem i64_or_nat (a b : Nat) (ha : a < 4294967296) (hb : b < 4294967296) : bits .or .i64 (a : Int) (b : Int) = ((a ||| b : Nat) : Int) := by
  have hx : a ||| b < 2 ^ 32 := Nat.or_lt_two_pow (by omega) (by omega)
  show IntKind.i64.wrap ((BitVec.ofInt 64 (a : Int) ||| BitVec.ofInt 64 (b : Int)).toNat : Int) = _
  rw [BitVec.toNat_or, ofInt_u64 a (by omega), ofInt_u64 b (by omega)]
  simp [IntKind.wrap, IntKind.bits, IntKind.signed]
  omega
theorem or_pow (a k : Nat) (hk : k ≤ 8) (ha : a < 2 ^ k) : bits .or .i64 (a : Int) (wrap64 (2 ^ k)) = ((a + 2 ^ k : Nat) : Int) := by
  have hp : 2 ^ k ≤ 2 ^ 8 := Nat.pow_le_pow_right (by omega) hk
  have e : wrap64 (2 ^ k) = ((2 ^ k : Nat) : Int) := by
    rw [show ((2 : Int) ^ k) = ((2 ^ k : Nat) : Int) by simp]
    unfold wrap64; omega
  rw [e, i64_or_nat a (2 ^ k) (by omega) (by omega)]
  have h2 := Nat.two_pow_add_eq_or_of_lt ha 1
  simp only [Nat.mul_one] at h2
  rw [Nat.or_comm, ← h2, Nat.add_comm]

set_option maxHeartbeats 400000 in
theorem bits_any (b : Nat) (s : ByteArray) (i0 : Nat) (w : World) (h : At b s i0 w) (hs : s.size ≤ maxLen) (hi0 : i0 ≤ s.size) :
    Calls Tryd.prog 155 #[.pointer (some ⟨b, 0, none⟩)] w fun e w' => e = .returned (.int .i64 ((ris s i0).1 : Int)) ∧ At b s (ris s i0).2 w' ∧ Rd b w w' ∧ (ris s i0).2 ≤ s.size := by
  go_enter Tryd.func155, Tryd.ntmps155
  go_wp2
  go_loopw [3, 4] (fun bv lv wr => ∃ acc low i : Nat, bv = .int .i64 (acc : Int) ∧ lv = .int .u8 (low : Int) ∧ At b s i wr ∧ Rd b w wr ∧ i ≤ s.size ∧ 48 ≤ low ∧ low ≤ 57 ∧ acc < 2 ^ (low - 48) ∧ risF s (s.size - i) i low acc = ris s i0) (fun _ lv _ => (57 - intOf lv).toNat)
  case atStart => exact ⟨0, 48, i0, rfl, rfl, h, Rd.refl _ _, hi0, by omega, by omega, by decide, rfl⟩
  case round =>
    obtain ⟨acc, low, i, rfl, rfl, ha, hr, hi, hl1, hl2, hacc, hris⟩ := hrel
    have HR : Hid (risF s (s.size - i) i low acc = ris s i0) := hris
    have HA : Hid (At b s i wr) := ha
    clear hris h ha
    cases hin : inR s i low 56 with
    | false =>
      go_wp2_with fail
      refine (within_is b s i low 56 _ HA.out hi).mono ?_
      rw [hin]
      rintro e w' ⟨rfl, n, rfl⟩
      go_wp2
      go_ret
      have e1 := HR.out
      rw [risF_stop hin] at e1
      rw [← e1]
      exact ⟨rfl, HA.out.drewN n, hr.drewN n, hi⟩
    | true =>
      have hlt := (inR_true.1 hin).1
      have hb := (inR_true.1 hin).2
      rw [← bt_lt s i hlt] at hb
      go_wp2_with fail
      refine (within_is b s i low 56 _ HA.out hi).mono ?_
      rw [hin]
      rintro e w' ⟨rfl, n, rfl⟩
      go_wp2_with fail
      refine (take_yes b s i low 56 _ (HA.out.drewN _) hs hlt hin).mono ?_
      rintro e w' ⟨rfl, ha2, hr2⟩
      go_wp2
      have e1 := HR.out
      rw [risF_step hin] at e1
      have e2 := bt_lt s i hlt
      rw [e2] at hb ⊢
      refine ⟨⟨acc + 2 ^ (bt s i - 48), bt s i + 1, i + 1, by rw [or_pow _ _ (by omega) (Nat.lt_of_lt_of_le hacc (Nat.pow_le_pow_right (by omega) (by omega)))], rfl, ha2, (hr.drewN n).trans hr2, by omega, by omega, by omega, ?_, e1⟩, by simp [intOf]; omega⟩
      have hp : 2 ^ (low - 48) ≤ 2 ^ (bt s i - 48) := Nat.pow_le_pow_right (by omega) (by omega)
      rw [show bt s i + 1 - 48 = (bt s i - 48) + 1 by omega, Nat.pow_succ]
      omega
end Go.Proofs.YtjngjnkecnnmeaaDoor

namespace Go.Proofs.YtjngjnkecnnmeaaDoor
open Go.RowKit

def posOf (b : Nat) (w : World) : Nat := match w.cell? ⟨b, 1, none⟩ with | some (.int _ q) => q.toNat | _ => 0
theorem At.posOf {b : Nat} {s : ByteArray} {i : Nat} {w : World} (h : At b s i w) : posOf b w = i := by
  unfold Go.Proofs.YtjngjnkecnnmeaaDoor.posOf; rw [h.pos]; simp

/-- The number as it is kept: right up to most, and above it whatever is above. -/
structure Cap (most v k : Nat) : Prop where
  eq : v ≤ most → k = v
  gt : most < v → most < k
  le : k ≤ 10 * most + 9

theorem Cap.below {most v k d : Nat} (h : Cap most v k) (hd : d ≤ 9) (hk : k ≤ most) : Cap most (v * 10 + d) (10 * k + d) := by
  have h1 := h.eq
  have h2 := h.gt
  refine ⟨?_, ?_, by omega⟩ <;> omega
theorem Cap.above {most v k d : Nat} (h : Cap most v k) (hk : most < k) : Cap most (v * 10 + d) k := by
  have h1 := h.eq
  have h2 := h.gt
  have h3 := h.le
  refine ⟨?_, ?_, by omega⟩ <;> omega

/-- How the number's reading ends, by the places and what was kept. -/
structure NumEnd (s : ByteArray) (b i0 most : Nat) (w wr : World) (k i : Nat) : Prop where
  hat : At b s i wr
  rd : Rd b w wr
  lo : i0 ≤ i
  hi : i ≤ s.size
  fin : (num s i0).2 = i
  cap : Cap most (num s i0).1 k

theorem ok_cases {s : ByteArray} {b i0 least most : Nat} {w wr : World} {k i : Nat} (h : NumEnd s b i0 most w wr k i) (hok : numOk s i0 least most = true) :
    ¬ i = i0 ∧ (¬ 1 < i - i0 ∨ ¬ bt s i0 = 48) ∧ least ≤ k ∧ k ≤ most ∧ k = (num s i0).1 := by
  have h1 := h.fin
  have h2 := h.cap.eq
  simp [numOk, h1] at hok
  obtain ⟨⟨⟨a, b'⟩, c⟩, d⟩ := hok
  have := h2 d
  exact ⟨a, by omega, by omega, by omega, this⟩
theorem no_cases {s : ByteArray} {b i0 least most : Nat} {w wr : World} {k i : Nat} (h : NumEnd s b i0 most w wr k i) (hok : numOk s i0 least most = false) :
    i = i0 ∨ (1 < i - i0 ∧ bt s i0 = 48) ∨ (¬ i = i0 ∧ (¬ 1 < i - i0 ∨ ¬ bt s i0 = 48) ∧ (k < least ∨ (least ≤ k ∧ most < k))) := by
  have h1 := h.fin
  have h2 := h.cap.eq
  have h3 := h.cap.gt
  by_cases c1 : i = i0
  · exact Or.inl c1
  by_cases c2 : 1 < i - i0 ∧ bt s i0 = 48
  · exact Or.inr (Or.inl c2)
  refine Or.inr (Or.inr ⟨c1, by omega, ?_⟩)
  have hn : (num s i0).1 < least ∨ most < (num s i0).1 := by
    rcases Nat.lt_or_ge (num s i0).1 least with q | q
    · exact Or.inl q
    rcases Nat.lt_or_ge most (num s i0).1 with p | p
    · exact Or.inr p
    simp [numOk, h1, c1] at hok
    omega
  rcases hn with q | q
  · by_cases hm : (num s i0).1 ≤ most
    · have := h2 hm; omega
    · have := h3 (by omega); omega
  · have := h3 q; omega

set_option maxHeartbeats 800000 in
theorem number_ok (b : Nat) (s : ByteArray) (i0 least most : Nat) (L M : Int) (w : World) (h : At b s i0 w) (hs : s.size ≤ maxLen) (hi0 : i0 ≤ s.size) (hL : L = least) (hM : M = most) (hm : most ≤ 255) (hok : numOk s i0 least most = true) :
    Calls Tryd.prog 157 #[.pointer (some ⟨b, 0, none⟩), .int .i64 L, .int .i64 M] w fun e w' => e = .returned (.int .i64 ((num s i0).1 : Int)) ∧ At b s (num s i0).2 w' ∧ Rd b w w' ∧ (num s i0).2 ≤ s.size := by
  subst hL hM
  have H0 : Hid (At b s i0 w) := h
  obtain ⟨p0, p1, q0, q1⟩ := h
  go_enter Tryd.func157, Tryd.ntmps157
  go_wp2
  go_loopw [8] (fun nv wr => ∃ k v i : Nat, nv = .int .i64 (k : Int) ∧ At b s i wr ∧ Rd b w wr ∧ i0 ≤ i ∧ i ≤ s.size ∧ Cap most v k ∧ numF s (s.size - i) i v = num s i0) (fun _ wr => s.size - posOf b wr)
  case atStart => exact ⟨0, 0, i0, rfl, H0.out, Rd.refl _ _, by omega, hi0, ⟨by omega, by omega, by omega⟩, rfl⟩
  case round =>
    obtain ⟨k, v, i, rfl, ha, hr, hlo, hi, hcap, hnum⟩ := hrel
    have HR : Hid (numF s (s.size - i) i v = num s i0) := hnum
    have HA : Hid (At b s i wr) := ha
    have hk := hcap.le
    have HC : Hid (Cap most v k) := hcap
    clear hnum ha hcap p0 p1 q0 q1
    cases hin : inR s i 48 57 with
    | false =>
      have hE : NumEnd s b i0 most w wr k i := by
        have e1 := HR.out
        rw [numF_stop hin] at e1
        exact ⟨HA.out, hr, hlo, hi, by rw [← e1], by rw [← e1]; exact HC.out⟩
      obtain ⟨a1, a2, a3, a4, a5⟩ := ok_cases hE hok
      have HE : Hid (NumEnd s b i0 most w wr k i) := hE
      have HK : Hid (k = (num s i0).1) := a5
      have hi0lt : i0 < s.size := by omega
      clear hE a5 hok
      obtain ⟨g0, g1, g2, g3⟩ := HA.out
      have hs' := hs
      unfold maxLen at hs'
      have n1 : ((i : Int) == (i0 : Int)) = false := by simp; omega
      go_wp2_with fail
      refine (within_is b s i 48 57 _ HA.out hi).mono ?_
      rw [hin]
      rintro e w' ⟨rfl, n, rfl⟩
      by_cases c : 1 < i - i0
      · have c' : 1 < (i : Int) - (i0 : Int) := by omega
        have d : ((s[i0].toNat : Int) == 48) = false := by
          have := bt_lt s i0 hi0lt
          simp; omega
        go_wp2
        go_ret
        rw [← HK.out, HE.out.fin]
        exact ⟨rfl, HA.out.drewN n, hr.drewN n, hi⟩
      · have c' : ¬ 1 < (i : Int) - (i0 : Int) := by omega
        go_wp2
        go_ret
        rw [← HK.out, HE.out.fin]
        exact ⟨rfl, HA.out.drewN n, hr.drewN n, hi⟩
    | true =>
      have hlt := (inR_true.1 hin).1
      have hb := (inR_true.1 hin).2
      rw [← bt_lt s i hlt] at hb
      go_wp2_with fail
      refine (within_is b s i 48 57 _ HA.out hi).mono ?_
      rw [hin]
      rintro e w' ⟨rfl, n, rfl⟩
      go_wp2_with fail
      refine (take_yes b s i 48 57 _ (HA.out.drewN _) hs hlt hin).mono ?_
      rintro e w' ⟨rfl, ha2, hr2⟩
      have HA2 : Hid (At b s (i + 1) w') := ha2
      clear ha2
      have e1 := HR.out
      rw [numF_step hin] at e1
      have e2 := bt_lt s i hlt
      have HE1 : Hid (numF s (s.size - (i + 1)) (i + 1) (v * 10 + (bt s i - 48)) = num s i0) := e1
      clear e1
      by_cases c : (k : Int) ≤ (most : Int)
      · go_wp2
        refine ⟨⟨10 * k + (bt s i - 48), _, i + 1, ?_, HA2.out, (hr.drewN n).trans hr2, by omega, by omega, HC.out.below (by omega) (by omega), HE1.out⟩, ?_⟩
        · rw [show (10 * (k : Int) + ((bt s i : Int) - 48)) = ((10 * k + (bt s i - 48) : Nat) : Int) by omega]
        · rw [HA.out.posOf, HA2.out.posOf]; omega
      · go_wp2
        refine ⟨⟨k, _, i + 1, rfl, HA2.out, (hr.drewN n).trans hr2, by omega, by omega, HC.out.above (by omega), HE1.out⟩, ?_⟩
        rw [HA.out.posOf, HA2.out.posOf]; omega

set_option maxHeartbeats 800000 in
theorem number_no (b : Nat) (s : ByteArray) (i0 least most : Nat) (L M : Int) (w : World) (h : At b s i0 w) (hs : s.size ≤ maxLen) (hi0 : i0 ≤ s.size) (hL : L = least) (hM : M = most) (hm : most ≤ 255) (hok : numOk s i0 least most = false) :
    Calls Tryd.prog 157 #[.pointer (some ⟨b, 0, none⟩), .int .i64 L, .int .i64 M] w fun e w' => e = .panicked oops ∧ At b s i0 w' ∧ Rd b w w' := by
  subst hL hM
  have H0 : Hid (At b s i0 w) := h
  obtain ⟨p0, p1, q0, q1⟩ := h
  go_enter Tryd.func157, Tryd.ntmps157
  go_wp2
  go_loopw [8] (fun nv wr => ∃ k v i : Nat, nv = .int .i64 (k : Int) ∧ At b s i wr ∧ Rd b w wr ∧ i0 ≤ i ∧ i ≤ s.size ∧ Cap most v k ∧ numF s (s.size - i) i v = num s i0) (fun _ wr => s.size - posOf b wr)
  case atStart => exact ⟨0, 0, i0, rfl, H0.out, Rd.refl _ _, by omega, hi0, ⟨by omega, by omega, by omega⟩, rfl⟩
  case round =>
    obtain ⟨k, v, i, rfl, ha, hr, hlo, hi, hcap, hnum⟩ := hrel
    have HR : Hid (numF s (s.size - i) i v = num s i0) := hnum
    have HA : Hid (At b s i wr) := ha
    have hk := hcap.le
    have HC : Hid (Cap most v k) := hcap
    clear hnum ha hcap p0 p1 q0 q1
    cases hin : inR s i 48 57 with
    | false =>
      have hE : NumEnd s b i0 most w wr k i := by
        have e1 := HR.out
        rw [numF_stop hin] at e1
        exact ⟨HA.out, hr, hlo, hi, by rw [← e1], by rw [← e1]; exact HC.out⟩
      have hc := no_cases hE hok
      clear hE hok
      obtain ⟨g0, g1, g2, g3⟩ := HA.out
      have hs' := hs
      unfold maxLen at hs'
      go_wp2_with fail
      refine (within_is b s i 48 57 _ HA.out hi).mono ?_
      rw [hin]
      rintro e w' ⟨rfl, n, rfl⟩
      rcases hc with c1 | ⟨c2, c3⟩ | ⟨c1, c2, c3⟩
      · have n1 : ((i : Int) == (i0 : Int)) = true := by simp; omega
        have c' : ¬ 1 < (i : Int) - (i0 : Int) := by omega
        have C1 : Hid (i = i0) := c1
        clear c1
        go_wp2_with fail
        refine (fail_any b s i i0 _ (HA.out.drewN n)).mono ?_
        rintro e w' ⟨rfl, ha2, hr2⟩
        go_wp2
        exact ⟨rfl, rfl, ha2, (hr.drewN n).trans hr2⟩
      · have n1 : ((i : Int) == (i0 : Int)) = false := by simp; omega
        have c' : 1 < (i : Int) - (i0 : Int) := by omega
        have hi0lt : i0 < s.size := by omega
        have d : ((s[i0].toNat : Int) == 48) = true := by
          have := bt_lt s i0 hi0lt
          simp; omega
        clear c3
        go_wp2_with fail
        refine (fail_any b s i i0 _ (HA.out.drewN n)).mono ?_
        rintro e w' ⟨rfl, ha2, hr2⟩
        go_wp2
        exact ⟨rfl, rfl, ha2, (hr.drewN n).trans hr2⟩
      · have n1 : ((i : Int) == (i0 : Int)) = false := by simp; omega
        have hi0lt : i0 < s.size := by omega
        clear c1
        by_cases c : 1 < i - i0
        · have c' : 1 < (i : Int) - (i0 : Int) := by omega
          have d : ((s[i0].toNat : Int) == 48) = false := by
            have := bt_lt s i0 hi0lt
            simp; omega
          clear c2
          rcases c3 with c4 | ⟨c4, c5⟩
          · have c6 : (k : Int) < (least : Int) := by omega
            go_wp2_with fail
            refine (fail_any b s i i0 _ (HA.out.drewN n)).mono ?_
            rintro e w' ⟨rfl, ha2, hr2⟩
            go_wp2
            exact ⟨rfl, rfl, ha2, (hr.drewN n).trans hr2⟩
          · have c6 : ¬ (k : Int) < (least : Int) := by omega
            have c7 : (most : Int) < (k : Int) := by omega
            go_wp2_with fail
            refine (fail_any b s i i0 _ (HA.out.drewN n)).mono ?_
            rintro e w' ⟨rfl, ha2, hr2⟩
            go_wp2
            exact ⟨rfl, rfl, ha2, (hr.drewN n).trans hr2⟩
        · have c' : ¬ 1 < (i : Int) - (i0 : Int) := by omega
          clear c2
          rcases c3 with c4 | ⟨c4, c5⟩
          · have c6 : (k : Int) < (least : Int) := by omega
            go_wp2_with fail
            refine (fail_any b s i i0 _ (HA.out.drewN n)).mono ?_
            rintro e w' ⟨rfl, ha2, hr2⟩
            go_wp2
            exact ⟨rfl, rfl, ha2, (hr.drewN n).trans hr2⟩
          · have c6 : ¬ (k : Int) < (least : Int) := by omega
            have c7 : (most : Int) < (k : Int) := by omega
            go_wp2_with fail
            refine (fail_any b s i i0 _ (HA.out.drewN n)).mono ?_
            rintro e w' ⟨rfl, ha2, hr2⟩
            go_wp2
            exact ⟨rfl, rfl, ha2, (hr.drewN n).trans hr2⟩
    | true =>
      have hlt := (inR_true.1 hin).1
      have hb := (inR_true.1 hin).2
      rw [← bt_lt s i hlt] at hb
      go_wp2_with fail
      refine (within_is b s i 48 57 _ HA.out hi).mono ?_
      rw [hin]
      rintro e w' ⟨rfl, n, rfl⟩
      go_wp2_with fail
      refine (take_yes b s i 48 57 _ (HA.out.drewN _) hs hlt hin).mono ?_
      rintro e w' ⟨rfl, ha2, hr2⟩
      have HA2 : Hid (At b s (i + 1) w') := ha2
      clear ha2
      have e1 := HR.out
      rw [numF_step hin] at e1
      have e2 := bt_lt s i hlt
      have HE1 : Hid (numF s (s.size - (i + 1)) (i + 1) (v * 10 + (bt s i - 48)) = num s i0) := e1
      clear e1
      by_cases c : (k : Int) ≤ (most : Int)
      · go_wp2
        refine ⟨⟨10 * k + (bt s i - 48), _, i + 1, ?_, HA2.out, (hr.drewN n).trans hr2, by omega, by omega, HC.out.below (by omega) (by omega), HE1.out⟩, ?_⟩
        · rw [show (10 * (k : Int) + ((bt s i : Int) - 48)) = ((10 * k + (bt s i - 48) : Nat) : Int) by omega]
        · rw [HA.out.posOf, HA2.out.posOf]; omega
      · go_wp2
        refine ⟨⟨k, _, i + 1, rfl, HA2.out, (hr.drewN n).trans hr2, by omega, by omega, HC.out.above (by omega), HE1.out⟩, ?_⟩
        rw [HA.out.posOf, HA2.out.posOf]; omega
end Go.Proofs.YtjngjnkecnnmeaaDoor

namespace Go.Proofs.YtjngjnkecnnmeaaDoor
open Go.RowKit
set_option linter.unusedVariables false

theorem hide' {p : Prop} (h : p) : Hid p := h

set_option maxHeartbeats 1600000 in
theorem rising_any (s : ByteArray) (i0 : Nat) (I : Int) (w : World) (hI : I = i0) (hs : s.size ≤ maxLen) (hi0 : i0 ≤ s.size) :
    Calls Tryd.prog 58 #[.string s, .int .i64 I] w fun e w' => e = .returned (.tuple #[.int .i64 ((ris s i0).1 : Int), .int .i64 ((ris s i0).2 : Int), .bool (inR s (ris s i0).2 48 56)]) ∧ w' = w := by
  subst hI
  unfold maxLen at hs
  go_enter Tryd.func58, Tryd.ntmps58
  go_wp2
  go_loop [1, 7, 8] (fun iv nv lv => ∃ acc low i : Nat, iv = .int .i64 (i : Int) ∧ nv = .int .i64 (acc : Int) ∧ lv = .int .i64 ((low : Int) - 49) ∧ i ≤ s.size ∧ 48 ≤ low ∧ low ≤ 57 ∧ acc < 2 ^ (low - 48) ∧ risF s (s.size - i) i low acc = ris s i0) (fun iv _ _ => s.size - (intOf iv).toNat)
  case atStart => exact ⟨0, 48, i0, rfl, rfl, rfl, hi0, by omega, by omega, by decide, rfl⟩
  case round =>
    obtain ⟨acc, low, i, rfl, rfl, rfl, hi, hl1, hl2, hacc, hris⟩ := hrel
    have HR := hide' hris
    have hp : 2 ^ (low - 48) ≤ 2 ^ 9 := Nat.pow_le_pow_right (by omega) (by omega)
    have hacc2 : acc < 512 := by omega
    have HC := hide' hacc
    clear hris hacc hp
    cases hin : inR s i 48 56 with
    | false =>
      have hin2 : inR s i low 56 = false := by
        rw [inR_false] at hin ⊢; omega
      have X := hide' (show ris s i0 = (acc, i) by rw [← HR.out, risF_stop hin2])
      have HI := hide' hin
      have hno := inR_false.1 hin
      clear hin2
      by_cases c1 : i < s.size
      · have e2 := bt_lt s i c1
        by_cases c2 : 48 ≤ bt s i
        · have k1 : (48 : Int) ≤ (s[i].toNat : Int) := by omega
          have k2 : ¬ (s[i].toNat : Int) ≤ 56 := by omega
          clear hno e2 hin
          go_wp2
          go_ret3
          rw [X.out, HI.out]
          exact ⟨rfl, rfl⟩
        · have k1 : ¬ (48 : Int) ≤ (s[i].toNat : Int) := by omega
          clear hno e2 hin
          go_wp2
          go_ret3
          rw [X.out, HI.out]
          exact ⟨rfl, rfl⟩
      · have k1 : ¬ (i : Int) < (s.size : Int) := by omega
        clear hno hin
        go_wp2
        go_ret3
        rw [X.out, HI.out]
        exact ⟨rfl, rfl⟩
    | true =>
      have c1 := (inR_true.1 hin).1
      have hb := (inR_true.1 hin).2
      have e2 := bt_lt s i c1
      have k1 : (48 : Int) ≤ (s[i].toNat : Int) := by omega
      have k2 : (s[i].toNat : Int) ≤ 56 := by omega
      have HI := hide' hin
      have E2 := hide' e2
      clear hin
      by_cases c2 : bt s i < low
      · have hin2 : inR s i low 56 = false := by rw [inR_false]; omega
        have X := hide' (show ris s i0 = (acc, i) by rw [← HR.out, risF_stop hin2])
        have k3 : (s[i].toNat : Int) - 48 ≤ (low : Int) - 49 := by omega
        clear hin2 hb e2
        go_wp2
        go_ret3
        rw [X.out, HI.out]
        exact ⟨rfl, rfl⟩
      · have hin2 : inR s i low 56 = true := by rw [inR_true]; omega
        have X := hide' (risF_step (acc := acc) hin2)
        have k3 : ¬ (s[i].toNat : Int) - 48 ≤ (low : Int) - 49 := by omega
        clear hin2 hb e2
        go_wp2
        go_loop [10, 11] (fun mv kv => ∃ k m : Nat, mv = .int .i64 (m : Int) ∧ kv = .int .i64 (k : Int) ∧ m = 2 ^ k ∧ (k : Int) ≤ (s[i].toNat : Int) - 48) (fun _ kv => 10 - (intOf kv).toNat)
        case atStart => exact ⟨0, 1, rfl, rfl, rfl, by omega⟩
        case round =>
          obtain ⟨k, m, rfl, rfl, hm, hk⟩ := hrel
          have hpk : 2 ^ k ≤ 2 ^ 8 := Nat.pow_le_pow_right (by omega) (by omega)
          have hm2 : m ≤ 256 := by omega
          have HM := hide' hm
          clear hm hpk
          by_cases c3 : (k : Int) < (s[i].toNat : Int) - 48
          · go_wp2
            refine ⟨⟨k + 1, m * 2, by go_num, by go_num, ?_, by omega⟩, ?_⟩
            · rw [HM.out, Nat.pow_succ]
            · simp [intOf]; omega
          · go_wp2
            have e2 := E2.out
            have hkk : k = bt s i - 48 := by omega
            have hmm := HM.out
            rw [hkk] at hmm
            have hc := HC.out
            have hpl : 2 ^ (low - 48) ≤ 2 ^ (bt s i - 48) := Nat.pow_le_pow_right (by omega) (by omega)
            refine ⟨⟨acc + m, bt s i + 1, i + 1, by go_num, by go_num, ?_, by omega, by omega, by omega, ?_, ?_⟩, by simp [intOf]; omega⟩
            · rw [show (s[i].toNat : Int) - 48 = ((bt s i + 1 : Nat) : Int) - 49 by omega]
            · rw [show bt s i + 1 - 48 = (bt s i - 48) + 1 by omega, Nat.pow_succ]; omega
            · rw [hmm]; exact X.out.symm.trans HR.out

/-- What Number makes of the digits. -/
structure NumRef (s : ByteArray) (i0 : Nat) (N : Int) : Prop where
  ok : ∀ least most : Nat, most < 1000000 → numOk s i0 least most = true → N = ((num s i0).1 : Int) ∧ (least : Int) ≤ N ∧ N ≤ (most : Int)
  no : ∀ least most : Nat, most < 1000000 → numOk s i0 least most = false → N < (least : Int) ∨ (most : Int) < N
  lo : -1 ≤ N
  hi : N ≤ 10000000
  bad : (num s i0).2 = i0 ∨ (1 < (num s i0).2 - i0 ∧ bt s i0 = 48) → N = -1
  good : ¬ ((num s i0).2 = i0 ∨ (1 < (num s i0).2 - i0 ∧ bt s i0 = 48)) → 0 ≤ N

theorem numRef_bad {s : ByteArray} {i0 i : Nat} (hf : (num s i0).2 = i) (hb : i = i0 ∨ (1 < i - i0 ∧ bt s i0 = 48)) : NumRef s i0 (-1) := by
  refine ⟨fun least most hm hok => ?_, fun least most hm hok => by omega, by omega, by omega, fun _ => rfl, fun h => absurd (by rw [hf]; exact hb) h⟩
  simp [numOk, hf] at hok
  omega
theorem numRef_good {s : ByteArray} {i0 i k : Nat} (hf : (num s i0).2 = i) (hb : ¬ (i = i0 ∨ (1 < i - i0 ∧ bt s i0 = 48))) (h1 : (num s i0).1 < 1000000 → k = (num s i0).1) (h2 : 1000000 ≤ (num s i0).1 → 1000000 ≤ k) (h3 : k ≤ 10000000) : NumRef s i0 (k : Int) := by
  refine ⟨fun least most hm hok => ?_, fun least most hm hok => ?_, by omega, by omega, fun h => absurd (by rw [hf] at h; exact h) hb, fun _ => by omega⟩
  · simp [numOk, hf] at hok
    have := h1 (by omega)
    omega
  · by_cases q : (num s i0).1 < 1000000
    · have := h1 q
      by_cases c : (num s i0).1 < least
      · omega
      by_cases d : most < (num s i0).1
      · omega
      simp [numOk, hf] at hok
      omega
    · have := h2 (by omega)
      omega

set_option maxHeartbeats 1600000 in
theorem Number_any (s : ByteArray) (i0 : Nat) (I : Int) (w : World) (hI : I = i0) (hs : s.size ≤ maxLen) (hi0 : i0 ≤ s.size) :
    Calls Tryd.prog 59 #[.string s, .int .i64 I] w fun e w' => ∃ N : Int, e = .returned (.tuple #[.int .i64 N, .int .i64 ((num s i0).2 : Int)]) ∧ NumRef s i0 N ∧ w' = w := by
  subst hI
  unfold maxLen at hs
  go_enter Tryd.func59, Tryd.ntmps59
  go_wp2
  go_loop [1, 7] (fun iv nv => ∃ k v i : Nat, iv = .int .i64 (i : Int) ∧ nv = .int .i64 (k : Int) ∧ i0 ≤ i ∧ i ≤ s.size ∧ (v < 1000000 → k = v) ∧ (1000000 ≤ v → 1000000 ≤ k) ∧ k ≤ 10000000 ∧ numF s (s.size - i) i v = num s i0) (fun iv _ => s.size - (intOf iv).toNat)
  case atStart => exact ⟨0, 0, i0, rfl, rfl, by omega, hi0, by omega, by omega, by omega, rfl⟩
  case round =>
    obtain ⟨k, v, i, rfl, rfl, hlo, hi, h1, h2, h3, hnum⟩ := hrel
    have HR := hide' hnum
    have H1 := hide' h1
    have H2 := hide' h2
    clear hnum h1 h2
    cases hin : inR s i 48 57 with
    | false =>
      have X := hide' (show num s i0 = (v, i) by rw [← HR.out, numF_stop hin])
      have hno := inR_false.1 hin
      have hfin : (num s i0).2 = i := by rw [X.out]
      have hval : (num s i0).1 = v := by rw [X.out]
      have HF := hide' hfin
      have G := hide' (fun hb => numRef_good (k := k) hfin hb (by rw [hval]; exact H1.out) (by rw [hval]; exact H2.out) h3)
      have B := hide' (fun hb => numRef_bad hfin hb)
      clear hfin hval
      -- how the loop is left, and what stands at the beginning
      have hw : (i < s.size ∧ 48 ≤ bt s i ∧ ¬ bt s i ≤ 57) ∨ (i < s.size ∧ ¬ 48 ≤ bt s i) ∨ ¬ i < s.size := by omega
      clear hno hin
      rcases hw with ⟨c1, c2, c3⟩ | ⟨c1, c2⟩ | c1
      · have e2 := bt_lt s i c1
        have k1 : (48 : Int) ≤ (s[i].toNat : Int) := by omega
        have k2 : ¬ (s[i].toNat : Int) ≤ 57 := by omega
        clear e2 c2 c3
        by_cases d1 : i = i0
        · have n1 : ((i : Int) == (i0 : Int)) = true := by simp; omega
          have D := hide' d1
          clear d1
          go_wp2
          go_ret2
          rw [HF.out]
          exact ⟨_, rfl, B.out (Or.inl D.out), rfl⟩
        · have n1 : ((i : Int) == (i0 : Int)) = false := by simp; omega
          have hlt0 : i0 < s.size := by omega
          have e0 := bt_lt s i0 hlt0
          by_cases d2 : bt s i0 = 48
          · have n2 : ((s[i0].toNat : Int) == 48) = true := by simp; omega
            have D2 := hide' d2
            clear e0 d2
            by_cases d3 : i0 + 1 < i
            · have n3 : (i0 : Int) + 1 < (i : Int) := by omega
              go_wp2
              go_ret2
              rw [HF.out]
              exact ⟨_, rfl, B.out (Or.inr ⟨by omega, D2.out⟩), rfl⟩
            · have n3 : ¬ (i0 : Int) + 1 < (i : Int) := by omega
              go_wp2
              go_ret2
              rw [HF.out]
              exact ⟨_, rfl, G.out (by omega), rfl⟩
          · have n2 : ((s[i0].toNat : Int) == 48) = false := by simp; omega
            have D2 := hide' d2
            clear e0 d2
            go_wp2
            go_ret2
            rw [HF.out]
            have := D2.out
            exact ⟨_, rfl, G.out (by omega), rfl⟩
      · have e2 := bt_lt s i c1
        have k1 : ¬ (48 : Int) ≤ (s[i].toNat : Int) := by omega
        clear e2 c2
        by_cases d1 : i = i0
        · have n1 : ((i : Int) == (i0 : Int)) = true := by simp; omega
          have D := hide' d1
          clear d1
          go_wp2
          go_ret2
          rw [HF.out]
          exact ⟨_, rfl, B.out (Or.inl D.out), rfl⟩
        · have n1 : ((i : Int) == (i0 : Int)) = false := by simp; omega
          have hlt0 : i0 < s.size := by omega
          have e0 := bt_lt s i0 hlt0
          by_cases d2 : bt s i0 = 48
          · have n2 : ((s[i0].toNat : Int) == 48) = true := by simp; omega
            have D2 := hide' d2
            clear e0 d2
            by_cases d3 : i0 + 1 < i
            · have n3 : (i0 : Int) + 1 < (i : Int) := by omega
              go_wp2
              go_ret2
              rw [HF.out]
              exact ⟨_, rfl, B.out (Or.inr ⟨by omega, D2.out⟩), rfl⟩
            · have n3 : ¬ (i0 : Int) + 1 < (i : Int) := by omega
              go_wp2
              go_ret2
              rw [HF.out]
              exact ⟨_, rfl, G.out (by omega), rfl⟩
          · have n2 : ((s[i0].toNat : Int) == 48) = false := by simp; omega
            have D2 := hide' d2
            clear e0 d2
            go_wp2
            go_ret2
            rw [HF.out]
            have := D2.out
            exact ⟨_, rfl, G.out (by omega), rfl⟩
      · have k1 : ¬ (i : Int) < (s.size : Int) := by omega
        by_cases d1 : i = i0
        · have n1 : ((i : Int) == (i0 : Int)) = true := by simp; omega
          have D := hide' d1
          clear d1
          go_wp2
          go_ret2
          rw [HF.out]
          exact ⟨_, rfl, B.out (Or.inl D.out), rfl⟩
        · have n1 : ((i : Int) == (i0 : Int)) = false := by simp; omega
          have hlt0 : i0 < s.size := by omega
          have e0 := bt_lt s i0 hlt0
          by_cases d2 : bt s i0 = 48
          · have n2 : ((s[i0].toNat : Int) == 48) = true := by simp; omega
            have D2 := hide' d2
            clear e0 d2
            by_cases d3 : i0 + 1 < i
            · have n3 : (i0 : Int) + 1 < (i : Int) := by omega
              go_wp2
              go_ret2
              rw [HF.out]
              exact ⟨_, rfl, B.out (Or.inr ⟨by omega, D2.out⟩), rfl⟩
            · have n3 : ¬ (i0 : Int) + 1 < (i : Int) := by omega
              go_wp2
              go_ret2
              rw [HF.out]
              exact ⟨_, rfl, G.out (by omega), rfl⟩
          · have n2 : ((s[i0].toNat : Int) == 48) = false := by simp; omega
            have D2 := hide' d2
            clear e0 d2
            go_wp2
            go_ret2
            rw [HF.out]
            have := D2.out
            exact ⟨_, rfl, G.out (by omega), rfl⟩
    | true =>
      have c1 := (inR_true.1 hin).1
      have hb := (inR_true.1 hin).2
      have e2 := bt_lt s i c1
      have k1 : (48 : Int) ≤ (s[i].toNat : Int) := by omega
      have k2 : (s[i].toNat : Int) ≤ 57 := by omega
      have X := hide' (numF_step (v := v) hin)
      have E2 := hide' e2
      clear hin hb e2
      by_cases c2 : (k : Int) < 1000000
      · go_wp2
        have h1 := H1.out
        have h2 := H2.out
        have e2 := E2.out
        refine ⟨⟨k * 10 + (bt s i - 48), v * 10 + (bt s i - 48), i + 1, by go_num, ?_, by omega, by omega, by omega, by omega, by omega, X.out.symm.trans HR.out⟩, by simp [intOf]; omega⟩
        rw [show (k : Int) * 10 + (s[i].toNat : Int) - 48 = ((k * 10 + (bt s i - 48) : Nat) : Int) by omega]
      · go_wp2
        have h1 := H1.out
        have h2 := H2.out
        exact ⟨⟨k, v * 10 + (bt s i - 48), i + 1, by go_num, rfl, by omega, by omega, by omega, by omega, h3, X.out.symm.trans HR.out⟩, by simp [intOf]; omega⟩
end Go.Proofs.YtjngjnkecnnmeaaDoor

namespace Go.Proofs.YtjngjnkecnnmeaaDoor
open Go.RowKit

/-- A table in memory: a slice that reads as the numbers. -/
def Tab (w : World) (v : Value) (xs : List Int) : Prop :=
  (xs = [] ∧ v = .slice none 0 0) ∨ ∃ g cap, v = .slice (some ⟨g, 0, none⟩) xs.length cap ∧ g < w.heap.size ∧ ∀ k (h : k < xs.length), w.cell? ⟨g, k, none⟩ = some (.int .i64 xs[k])

/-- A slice whose block was made since. -/
def Fresh (w : World) (v : Value) : Prop := ∀ g k c, v = .slice (some ⟨g, 0, none⟩) k c → w.heap.size ≤ g
theorem Fresh.nil (w : World) : Fresh w (.slice none 0 0) := fun _ _ _ h => by injection h with h1; cases h1
theorem Fresh.mk {w : World} {g k c : Nat} (h : w.heap.size ≤ g) : Fresh w (.slice (some ⟨g, 0, none⟩) k c) := fun g' _ _ q => by
  injection q with q1; injection q1 with q2; injection q2 with q3; omega

/-- A rule as a value, its table at v. -/
def Out.val (o : Out) (v : Value) : Value := .agg #[.int .i64 o.kind, .int .i64 o.born, .int .i64 o.stay, .int .i64 o.states, .int .i64 o.radius, v, .string o.turns]

theorem ris_le (s : ByteArray) (i : Nat) (h : i ≤ s.size) : (ris s i).2 ≤ s.size := by
  have H : ∀ f i low acc, i + f = s.size → (risF s f i low acc).2 ≤ s.size := by
    intro f
    induction f with
    | zero => intro i low acc e; simp [risF]; omega
    | succ f ih =>
      intro i low acc e
      unfold risF
      split
      · exact ih _ _ _ (by omega)
      · simp; omega
  exact H _ _ _ _ (by omega)

/-- The cells of a new rule. -/
def zeroCells : Array Value := #[.int .i64 0, .int .i64 0, .int .i64 0, .int .i64 0, .int .i64 0, .slice none 0 0, .string ⟨#[]⟩]

/-- A block that the call made ahead still lies there. -/
theorem Rd.made {b : Nat} {w w' : World} {C : Array Value} {t : TypeId} (h : Rd b (w.alloc (.cells C t)) w') (hb : b < w.heap.size) :
    (∀ j, w'.cell? ⟨w.heap.size, j, none⟩ = C[j]?) ∧ (∀ j, w'.frozen? ⟨w.heap.size, j, none⟩ = false) := by
  refine ⟨fun j => ?_, fun j => ?_⟩
  · rw [h.cell w.heap.size j (by simp) (by omega)]; simp
  · rw [h.frozen w.heap.size j (by simp) (by omega)]; simp

theorem Rd.un {b : Nat} {w w' : World} {O : Obj} (h : Rd b (w.alloc O) w') : Rd b w w' := (Rd.alloc (Rd.refl b w) O).trans h
theorem set7_at {b : Nat} {s : ByteArray} {i : Nat} {w : World} (h : At b s i w) {g : Nat} {v0 v1 v2 v3 v4 v5 v6 : Value} (hg : b ≠ g) :
    At b s i (((((((w.setCell ⟨g, 0, none⟩ v0).setCell ⟨g, 1, none⟩ v1).setCell ⟨g, 2, none⟩ v2).setCell ⟨g, 3, none⟩ v3).setCell ⟨g, 4, none⟩ v4).setCell ⟨g, 5, none⟩ v5).setCell ⟨g, 6, none⟩ v6) :=
  ((((((h.setOther hg v0).setOther hg v1).setOther hg v2).setOther hg v3).setOther hg v4).setOther hg v5).setOther hg v6
theorem set7_rd {b : Nat} {w w' : World} (h : Rd b w w') {g : Nat} {v0 v1 v2 v3 v4 v5 v6 : Value} (hg : w.heap.size ≤ g) :
    Rd b w (((((((w'.setCell ⟨g, 0, none⟩ v0).setCell ⟨g, 1, none⟩ v1).setCell ⟨g, 2, none⟩ v2).setCell ⟨g, 3, none⟩ v3).setCell ⟨g, 4, none⟩ v4).setCell ⟨g, 5, none⟩ v5).setCell ⟨g, 6, none⟩ v6) :=
  ((((((h.setNew hg v0).setNew hg v1).setNew hg v2).setNew hg v3).setNew hg v4).setNew hg v5).setNew hg v6

set_option maxHeartbeats 800000 in
theorem life_any (b : Nat) (s : ByteArray) (w : World) (h : At b s 1 w) (hs : s.size ≤ maxLen) (h1 : 1 ≤ s.size) (o : Out) (p : Nat) (hok : lifeS s = .inl (o, p)) :
    Calls Tryd.prog 140 #[.pointer (some ⟨b, 0, none⟩)] w fun e w' => e = .returned (o.val (.slice none 0 0)) ∧ At b s p w' ∧ Rd b w w' ∧ p ≤ s.size ∧ o.table = [] := by
  unfold lifeS at hok
  cases hA : inR s (ris s 1).2 47 47 with
  | false => simp [hA] at hok
  | true =>
  cases hB : inR s ((ris s 1).2 + 1) 83 83 with
  | false => simp [hA, hB] at hok
  | true =>
  simp [hA, hB] at hok
  obtain ⟨rfl, rfl⟩ := hok
  have H0 : Hid (At b s 1 w) := h
  have hlt := h.lt
  clear h
  have hb2 := (inR_true.1 hB).1
  go_enter Tryd.func140, Tryd.ntmps140
  go_wp2_with fail
  refine (bits_any b s 1 _ (H0.out.alloc _) hs h1).mono ?_
  rintro e w1 ⟨rfl, a1, r1, l1⟩
  have A1 : Hid (At b s (ris s 1).2 w1) := a1
  clear a1
  go_wp2_with fail
  refine (expect_yes b s (ris s 1).2 47 _ A1.out hs hA).mono ?_
  rintro e w2 ⟨rfl, a2, r2⟩
  have A2 : Hid (At b s ((ris s 1).2 + 1) w2) := a2
  clear a2
  go_wp2_with fail
  refine (expect_yes b s ((ris s 1).2 + 1) 83 _ A2.out hs hB).mono ?_
  rintro e w3 ⟨rfl, a3, r3⟩
  have A3 : Hid (At b s ((ris s 1).2 + 1 + 1) w3) := a3
  clear a3
  go_wp2_with fail
  refine (bits_any b s ((ris s 1).2 + 2) _ A3.out hs (by omega)).mono ?_
  rintro e w4 ⟨rfl, a4, r4, l4⟩
  have A4 : Hid (At b s (ris s ((ris s 1).2 + 2)).2 w4) := a4
  have R4 := ((r1.trans r2).trans r3).trans r4
  obtain ⟨hc, hf⟩ := R4.made hlt
  have HR : Hid (Rd b (w.alloc (.cells zeroCells 24)) w4) := R4
  have c0 := hc 0
  have c1 := hc 1
  have c2 := hc 2
  have c3 := hc 3
  have c4 := hc 4
  have c5 := hc 5
  have c6 := hc 6
  simp at c0 c1 c2 c3 c4 c5 c6
  clear hc a4 r1 r2 r3 r4 R4
  go_wp2
  refine bodyPost_ret (v := Out.val ⟨1, (ris s 1).1, (ris s ((ris s 1).2 + 2)).1, 0, 0, [], ⟨#[]⟩⟩ (.slice none 0 0)) (by simp [results, Tryd.results140, go_sem, Out.val, c0, c1, c2, c3, c4, c5, c6]) rfl ?_
  exact ⟨rfl, set7_at A4.out (by omega), set7_rd (HR.out.un) (by omega), l4, trivial⟩
end Go.Proofs.YtjngjnkecnnmeaaDoor

namespace Go.Proofs.YtjngjnkecnnmeaaDoor
open Go.RowKit

theorem hide {p : Prop} (h : p) : Hid p := h
theorem unhide {p : Prop} (h : Hid p) : p := h

/-- At block g a list of n numbers, the first k of which are f's. -/
structure Fill (g n k : Nat) (f : Nat → Int) (w : World) : Prop where
  lt : g < w.heap.size
  cells : ∀ j, j < n → ∃ v, w.cell? ⟨g, j, none⟩ = some v ∧ (j < k → v = .int .i64 (f j))
  fz : ∀ j, w.frozen? ⟨g, j, none⟩ = false

theorem Fill.start (w : World) (n : Nat) (f : Nat → Int) (z : Value) (t : TypeId) : Fill w.heap.size n 0 f (w.alloc (.cells (madeCells #[z] n) t)) := by
  refine ⟨by simp, fun j hj => ⟨(madeCells #[z] n)[j]'(by rw [size_madeCells]; exact hj), ?_, by omega⟩, fun j => by simp⟩
  rw [World.cell?_alloc_at _ _ _ _ rfl]
  exact Array.getElem?_eq_getElem (by rw [size_madeCells]; exact hj)
theorem Fill.step {g n k : Nat} {f : Nat → Int} {w : World} (h : Fill g n k f w) (hk : k < n) : Fill g n (k + 1) f (w.setCell ⟨g, k, none⟩ (.int .i64 (f k))) := by
  refine ⟨by rw [World.size_setCell]; exact h.lt, fun j hj => ?_, fun j => by rw [World.frozen?_setCell]; exact h.fz j⟩
  by_cases e : j = k
  · subst e
    obtain ⟨v, hv, -⟩ := h.cells j hj
    exact ⟨_, World.cell?_setCell_same (w := w) (a := ⟨g, j, none⟩) (v := _) (h := hv), fun _ => rfl⟩
  · obtain ⟨v, hv, hv'⟩ := h.cells j hj
    refine ⟨v, ?_, fun _ => hv' (by omega)⟩
    exact (World.cell?_setCell_other (w := w) (a := ⟨g, k, none⟩) (b := ⟨g, j, none⟩) (v := _) (h := fun q => e (congrArg Addr.off q).symm)).trans hv
theorem Fill.rd {b g n k : Nat} {f : Nat → Int} {w w' : World} (h : Fill g n k f w) (r : Rd b w w') (hb : g ≠ b) : Fill g n k f w' := by
  refine ⟨Nat.lt_of_lt_of_le h.lt r.size, fun j hj => ?_, fun j => ?_⟩
  · obtain ⟨v, hv, hv'⟩ := h.cells j hj
    exact ⟨v, by rw [r.cell g j h.lt hb]; exact hv, hv'⟩
  · rw [r.frozen g j h.lt hb]; exact h.fz j
theorem Fill.other {g n k : Nat} {f : Nat → Int} {w : World} (h : Fill g n k f w) {p : Addr} (hp : g ≠ p.block) (u : Value) : Fill g n k f (w.setCell p u) := by
  have e : (w.setCell p u).heap[g]? = w.heap[g]? := Below.heap_setCell _ _ _ _ hp
  refine ⟨by rw [World.size_setCell]; exact h.lt, fun j hj => ?_, fun j => ?_⟩
  · obtain ⟨v, hv, hv'⟩ := h.cells j hj
    exact ⟨v, (World.cell?_of_block (w := w) (a := ⟨g, j, none⟩) e).trans hv, hv'⟩
  · exact (World.frozen?_of_block (w := w) (a := ⟨g, j, none⟩) e).trans (h.fz j)
theorem Fill.tab {g n cap : Nat} {f : Nat → Int} {w : World} (h : Fill g n n f w) : Tab w (.slice (some ⟨g, 0, none⟩) n cap) ((List.range n).map f) := by
  refine Or.inr ⟨g, cap, by simp, h.lt, fun k hk => ?_⟩
  simp at hk
  obtain ⟨v, hv, hv'⟩ := h.cells k hk
  rw [hv, hv' hk]; simp
theorem Tab.other {w : World} {v : Value} {xs : List Int} (h : Tab w v xs) {p : Addr} (u : Value) (hp : ∀ g c, v = .slice (some ⟨g, 0, none⟩) xs.length c → g ≠ p.block) : Tab (w.setCell p u) v xs := by
  rcases h with h | ⟨g, cap, hv, hg, hc⟩
  · exact Or.inl h
  · have e : (w.setCell p u).heap[g]? = w.heap[g]? := Below.heap_setCell _ _ _ _ (hp g cap hv)
    exact Or.inr ⟨g, cap, hv, by rw [World.size_setCell]; exact hg, fun k hk => (World.cell?_of_block (w := w) (a := ⟨g, k, none⟩) e).trans (hc k hk)⟩

/-- How many windows: the product stops above 4096. -/
def entF (n : Nat) : Nat → Nat → Nat
  | 0, e => e
  | f + 1, e => if e ≤ 4096 then entF n f (e * (n * n)) else e
def entOf (n m : Nat) : Nat := entF n m n

theorem entOf_small (n m : Nat) (hn : 2 ≤ n) (hn' : n ≤ 4) (hm : m ≤ 2) : entOf n m = entries n m := by
  have h1 : n = 2 ∨ n = 3 ∨ n = 4 := by omega
  have h2 : m = 0 ∨ m = 1 ∨ m = 2 := by omega
  rcases h1 with rfl | rfl | rfl <;> rcases h2 with rfl | rfl | rfl <;> decide

theorem entF_stop {n e : Nat} (h : ¬ e ≤ 4096) : ∀ f, entF n f e = e
  | 0 => rfl
  | f + 1 => by simp [entF, h]

set_option maxHeartbeats 800000 in
theorem entries_any (n m : Nat) (N M : Int) (w : World) (hN : N = n) (hM : M = m) (hn : 2 ≤ n) (hn' : n ≤ 4) (hm : m ≤ 4611686018427387904) :
    Calls Tryd.prog 148 #[.int .i64 N, .int .i64 M] w fun e w' => e = .returned (.int .i64 ((entOf n m : Nat) : Int)) ∧ w' = w := by
  subst hN hM
  have h1 : n = 2 ∨ n = 3 ∨ n = 4 := by omega
  rcases h1 with rfl | rfl | rfl
  all_goals
    go_enter Tryd.func148, Tryd.ntmps148
    go_wp2
    go_loop [5, 6] (fun ev iv => ∃ k e : Nat, iv = .int .i64 (k : Int) ∧ ev = .int .i64 (e : Int) ∧ k ≤ m ∧ e ≤ 65536 ∧ entF _ (m - k) e = entOf _ m) (fun _ iv => m - (intOf iv).toNat)
    case atStart => exact ⟨0, _, rfl, rfl, by omega, by omega, rfl⟩
    case round =>
      obtain ⟨k, e, rfl, rfl, hk, he, hent⟩ := hrel
      have HE := hide hent
      clear hent
      by_cases hkm : (k : Int) < (m : Int)
      · by_cases hee : (e : Int) ≤ 4096
        · go_wp2
          have e1 := unhide HE
          rw [show m - k = (m - (k + 1)) + 1 by omega, entF, if_pos (by omega)] at e1
          refine ⟨⟨k + 1, _, by go_num, ?_, by omega, ?_, e1⟩, by simp [intOf]; omega⟩
          · go_num
          · omega
        · go_wp2
          go_ret
          have e1 := unhide HE
          rw [entF_stop (by omega)] at e1
          rw [← e1]
          exact ⟨rfl, rfl⟩
      · go_wp2
        go_ret
        have e1 := unhide HE
        rw [show m - k = 0 by omega, entF] at e1
        rw [← e1]
        exact ⟨rfl, rfl⟩
end Go.Proofs.YtjngjnkecnnmeaaDoor

namespace Go.Proofs.YtjngjnkecnnmeaaDoor
open Go.RowKit
set_option linter.unusedVariables false

/-- a to the n, or 5000 above 4096. -/
def powS (a n : Nat) : Nat := if a ^ n ≤ 4096 then a ^ n else 5000

theorem pow_grows {a k n : Nat} (ha : 1 ≤ a) (hk : k ≤ n) (h : 4096 < a ^ k) : powS a n = 5000 := by
  have : a ^ k ≤ a ^ n := Nat.pow_le_pow_right ha hk
  unfold powS
  rw [if_neg (by omega)]

set_option maxHeartbeats 800000 in
theorem power_2 (n : Nat) (w : World) (hn : n ≤ 1000000) :
    Calls Tryd.prog 60 #[.int .i64 2, .int .i64 (n : Int)] w fun e w' => e = .returned (.int .i64 ((powS 2 n : Nat) : Int)) ∧ w' = w := by
  go_enter Tryd.func60, Tryd.ntmps60
  go_wp2
  go_loop [5, 6] (fun pv iv => ∃ k p : Nat, iv = .int .i64 (k : Int) ∧ pv = .int .i64 (p : Int) ∧ k ≤ n ∧ p ≤ 4096 ∧ p = 2 ^ k) (fun _ iv => n - (intOf iv).toNat)
  case atStart => exact ⟨0, 1, rfl, rfl, by omega, by omega, rfl⟩
  case round =>
    obtain ⟨k, p, rfl, rfl, hk, hp, hpk⟩ := hrel
    have HP := hide' hpk
    have HQ := hide' (show p * 2 = 2 ^ (k + 1) by rw [Nat.pow_succ, ← hpk])
    clear hpk
    by_cases hkn : (k : Int) < (n : Int)
    · by_cases hc : (p : Int) * 2 ≤ 4096
      · have hc' : ¬ 4096 < (p : Int) * 2 := by omega
        go_wp2
        exact ⟨⟨k + 1, p * 2, by go_num, by go_num, by omega, by omega, HQ.out⟩, by simp [intOf]; omega⟩
      · have hc' : 4096 < (p : Int) * 2 := by omega
        have X := hide' (pow_grows (a := 2) (k := k + 1) (n := n) (by omega) (by omega) (by rw [← HQ.out]; omega))
        go_wp2
        go_ret
        rw [X.out]
        exact ⟨rfl, rfl⟩
    · have hkk : k = n := by omega
      have X := hide' (show powS 2 n = p by
        have h1 := HP.out
        rw [hkk] at h1
        unfold powS
        rw [← h1, if_pos hp])
      clear hkk
      go_wp2
      go_ret
      rw [X.out]
      exact ⟨rfl, rfl⟩

set_option maxHeartbeats 800000 in
theorem power_3 (n : Nat) (w : World) (hn : n ≤ 1000000) :
    Calls Tryd.prog 60 #[.int .i64 3, .int .i64 (n : Int)] w fun e w' => e = .returned (.int .i64 ((powS 3 n : Nat) : Int)) ∧ w' = w := by
  go_enter Tryd.func60, Tryd.ntmps60
  go_wp2
  go_loop [5, 6] (fun pv iv => ∃ k p : Nat, iv = .int .i64 (k : Int) ∧ pv = .int .i64 (p : Int) ∧ k ≤ n ∧ p ≤ 4096 ∧ p = 3 ^ k) (fun _ iv => n - (intOf iv).toNat)
  case atStart => exact ⟨0, 1, rfl, rfl, by omega, by omega, rfl⟩
  case round =>
    obtain ⟨k, p, rfl, rfl, hk, hp, hpk⟩ := hrel
    have HP := hide' hpk
    have HQ := hide' (show p * 3 = 3 ^ (k + 1) by rw [Nat.pow_succ, ← hpk])
    clear hpk
    by_cases hkn : (k : Int) < (n : Int)
    · by_cases hc : (p : Int) * 3 ≤ 4096
      · have hc' : ¬ 4096 < (p : Int) * 3 := by omega
        go_wp2
        exact ⟨⟨k + 1, p * 3, by go_num, by go_num, by omega, by omega, HQ.out⟩, by simp [intOf]; omega⟩
      · have hc' : 4096 < (p : Int) * 3 := by omega
        have X := hide' (pow_grows (a := 3) (k := k + 1) (n := n) (by omega) (by omega) (by rw [← HQ.out]; omega))
        go_wp2
        go_ret
        rw [X.out]
        exact ⟨rfl, rfl⟩
    · have hkk : k = n := by omega
      have X := hide' (show powS 3 n = p by
        have h1 := HP.out
        rw [hkk] at h1
        unfold powS
        rw [← h1, if_pos hp])
      clear hkk
      go_wp2
      go_ret
      rw [X.out]
      exact ⟨rfl, rfl⟩

set_option maxHeartbeats 800000 in
theorem power_4 (n : Nat) (w : World) (hn : n ≤ 1000000) :
    Calls Tryd.prog 60 #[.int .i64 4, .int .i64 (n : Int)] w fun e w' => e = .returned (.int .i64 ((powS 4 n : Nat) : Int)) ∧ w' = w := by
  go_enter Tryd.func60, Tryd.ntmps60
  go_wp2
  go_loop [5, 6] (fun pv iv => ∃ k p : Nat, iv = .int .i64 (k : Int) ∧ pv = .int .i64 (p : Int) ∧ k ≤ n ∧ p ≤ 4096 ∧ p = 4 ^ k) (fun _ iv => n - (intOf iv).toNat)
  case atStart => exact ⟨0, 1, rfl, rfl, by omega, by omega, rfl⟩
  case round =>
    obtain ⟨k, p, rfl, rfl, hk, hp, hpk⟩ := hrel
    have HP := hide' hpk
    have HQ := hide' (show p * 4 = 4 ^ (k + 1) by rw [Nat.pow_succ, ← hpk])
    clear hpk
    by_cases hkn : (k : Int) < (n : Int)
    · by_cases hc : (p : Int) * 4 ≤ 4096
      · have hc' : ¬ 4096 < (p : Int) * 4 := by omega
        go_wp2
        exact ⟨⟨k + 1, p * 4, by go_num, by go_num, by omega, by omega, HQ.out⟩, by simp [intOf]; omega⟩
      · have hc' : 4096 < (p : Int) * 4 := by omega
        have X := hide' (pow_grows (a := 4) (k := k + 1) (n := n) (by omega) (by omega) (by rw [← HQ.out]; omega))
        go_wp2
        go_ret
        rw [X.out]
        exact ⟨rfl, rfl⟩
    · have hkk : k = n := by omega
      have X := hide' (show powS 4 n = p by
        have h1 := HP.out
        rw [hkk] at h1
        unfold powS
        rw [← h1, if_pos hp])
      clear hkk
      go_wp2
      go_ret
      rw [X.out]
      exact ⟨rfl, rfl⟩

theorem power_any (a n : Nat) (A N : Int) (w : World) (hA : A = a) (hN : N = n) (ha : 2 ≤ a) (ha' : a ≤ 4) (hn : n ≤ 1000000) :
    Calls Tryd.prog 60 #[.int .i64 A, .int .i64 N] w fun e w' => e = .returned (.int .i64 ((powS a n : Nat) : Int)) ∧ w' = w := by
  subst hA hN
  have h1 : a = 2 ∨ a = 3 ∨ a = 4 := by omega
  rcases h1 with rfl | rfl | rfl
  · exact power_2 n w hn
  · exact power_3 n w hn
  · exact power_4 n w hn

/-- Two lists that read alike are the same. -/
theorem Tab.alloc' {w : World} {v : Value} {xs : List Int} (h : Tab w v xs) (o : Obj) : Tab (w.alloc o) v xs := by
  rcases h with h | ⟨g, cap, hv, hg, hc⟩
  · exact Or.inl h
  · have e : (w.alloc o).heap[g]? = w.heap[g]? := Below.heap_alloc _ _ _ hg
    exact Or.inr ⟨g, cap, hv, by rw [World.size_alloc]; omega, fun k hk => (World.cell?_of_block (w := w) (a := ⟨g, k, none⟩) e).trans (hc k hk)⟩

theorem Ints_nil (w : World) : Calls Tryd.prog 24 #[.slice none 0 0, .slice none 0 0] w fun e w' => e = .returned (.bool true) ∧ ∃ n, w' = w.drewN n := by
  go_enter Tryd.func24, Tryd.ntmps24
  go_wp2
  go_loop [5] (fun iv => iv = .int .i64 0) (fun _ => 0)
  case atStart => rfl
  case round =>
    subst hrel
    go_wp2
    go_ret
    exact ⟨rfl, 0, rfl⟩

set_option maxHeartbeats 800000 in
theorem Ints_two (xs : List Int) (a b : Option Addr) (n ca cb : Nat) (w : World) (hn : n = xs.length) (hm : n ≤ maxLen)
    (ha : ∀ k (h : k < xs.length), ∃ g, a = some ⟨g, 0, none⟩ ∧ w.cell? ⟨g, k, none⟩ = some (.int .i64 xs[k])) (hb : ∀ k (h : k < xs.length), ∃ g, b = some ⟨g, 0, none⟩ ∧ w.cell? ⟨g, k, none⟩ = some (.int .i64 xs[k])) :
    Calls Tryd.prog 24 #[.slice a n ca, .slice b n cb] w fun e w' => e = .returned (.bool true) ∧ ∃ m, w' = w.drewN m := by
  unfold maxLen at hm
  have HA := hide' ha
  have HB := hide' hb
  have HN := hide' hn
  clear ha hb hn
  go_enter Tryd.func24, Tryd.ntmps24
  go_wp2
  go_loopw [5] (fun iv wr => ∃ k m : Nat, iv = .int .i64 (k : Int) ∧ k ≤ n ∧ wr = w.drewN m) (fun iv _ => n - (intOf iv).toNat)
  case atStart => exact ⟨0, 0, rfl, by omega, rfl⟩
  case round =>
    obtain ⟨k, m, rfl, hk, rfl⟩ := hrel
    by_cases hkn : (k : Int) < (n : Int)
    · have hlt : k < xs.length := by have := HN.out; omega
      obtain ⟨ga, rfl, c1⟩ := HA.out k hlt
      obtain ⟨gb, rfl, c2⟩ := HB.out k hlt
      go_wp2
      go_quiet (fail)
      go_wp2
      exact ⟨⟨k + 1, m + nq, by go_num, by omega, rfl⟩, by simp [intOf]; omega⟩
    · go_wp2
      go_ret
      exact ⟨rfl, m, rfl⟩

theorem Tab.parts {w : World} {v : Value} {xs : List Int} (h : Tab w v xs) :
    ∃ a c, v = .slice a xs.length c ∧ ∀ k (h : k < xs.length), ∃ g, a = some ⟨g, 0, none⟩ ∧ w.cell? ⟨g, k, none⟩ = some (.int .i64 xs[k]) := by
  rcases h with ⟨rfl, rfl⟩ | ⟨g, cap, rfl, hg, hc⟩
  · exact ⟨none, 0, rfl, fun k h => absurd h (by simp)⟩
  · exact ⟨_, cap, rfl, fun k h => ⟨g, rfl, hc k h⟩⟩

theorem Ints_same (xs : List Int) (va vb : Value) (w : World) (ha : Tab w va xs) (hb : Tab w vb xs) (hm : xs.length ≤ maxLen) :
    Calls Tryd.prog 24 #[va, vb] w fun e w' => e = .returned (.bool true) ∧ ∃ m, w' = w.drewN m := by
  obtain ⟨a, ca, rfl, pa⟩ := ha.parts
  obtain ⟨b, cb, rfl, pb⟩ := hb.parts
  exact Ints_two xs a b xs.length ca cb w rfl hm pa pb

set_option maxHeartbeats 800000 in
theorem Same_same (o : Out) (va vb : Value) (w : World) (ha : Tab w va o.table) (hb : Tab w vb o.table) (hm : o.table.length ≤ maxLen) :
    Calls Tryd.prog 14 #[o.val va, o.val vb] w fun e w' => e = .returned (.bool true) ∧ Below w.heap.size w w' := by
  have TA := hide' (show Tab ((w.alloc (.cells #[.int .i64 o.kind, .int .i64 o.born, .int .i64 o.stay, .int .i64 o.states, .int .i64 o.radius, va, .string o.turns] 24)).alloc (.cells #[.int .i64 o.kind, .int .i64 o.born, .int .i64 o.stay, .int .i64 o.states, .int .i64 o.radius, vb, .string o.turns] 24)) va o.table from (ha.alloc' _).alloc' _)
  have TB := hide' (show Tab ((w.alloc (.cells #[.int .i64 o.kind, .int .i64 o.born, .int .i64 o.stay, .int .i64 o.states, .int .i64 o.radius, va, .string o.turns] 24)).alloc (.cells #[.int .i64 o.kind, .int .i64 o.born, .int .i64 o.stay, .int .i64 o.states, .int .i64 o.radius, vb, .string o.turns] 24)) vb o.table from (hb.alloc' _).alloc' _)
  obtain ⟨a, ca, rfl, -⟩ := ha.parts
  obtain ⟨b, cb, rfl, -⟩ := hb.parts
  unfold Out.val
  go_enter Tryd.func14, Tryd.ntmps14
  go_wp2_with fail
  refine (Ints_same o.table _ _ _ TA.out TB.out hm).mono ?_
  rintro e w1 ⟨rfl, m, rfl⟩
  go_wp2
  go_ret
  exact ⟨rfl, below_drewN (((Below.refl _ _).alloc (Nat.le_refl _) _).alloc (by simp) _) m⟩
end Go.Proofs.YtjngjnkecnnmeaaDoor

namespace Go.Proofs.YtjngjnkecnnmeaaDoor
open Go.RowKit
set_option linter.unusedVariables false

theorem info_int : (Tryd.prog.info? 3).map (fun i => (i.zero, i.size, i.bytes)) = some (some (.int .i64 0), 1, 8) := by kernel_rfl
theorem Tab.slice {w : World} {v : Value} {xs : List Int} (h : Tab w v xs) : ∃ a n c, v = .slice a n c := by
  rcases h with ⟨-, h⟩ | ⟨g, cap, h, -, -⟩
  · exact ⟨_, _, _, h⟩
  · exact ⟨_, _, _, h⟩
theorem ownsRow_block {w : World} {base : Nat} {e : TypeId} {v : Value} {n : Nat} {xs : List Value} (h : w.ownsRow base e 1 v n xs) : ∀ k, v.ownBlock = some k → base ≤ k := by
  intro k hk
  rcases h.2 with ⟨hv, -⟩ | ⟨g, cap, cur, hv, hg, -⟩
  · rw [hv] at hk; cases hk
  · rw [hv] at hk
    have : g = k := by simpa [Value.ownBlock] using hk
    omega
theorem ownsRow_slice {w : World} {base : Nat} {e : TypeId} {v : Value} {n : Nat} {xs : List Value} (h : w.ownsRow base e 1 v n xs) : ∃ a m c, v = .slice a m c := by
  rcases h.2 with ⟨hv, -⟩ | ⟨g, cap, cur, hv, -⟩
  · exact ⟨_, _, _, hv⟩
  · exact ⟨_, _, _, hv⟩
theorem ownsRow_tab {w : World} {base : Nat} {e : TypeId} {v : Value} {xs : List Int} (h : w.ownsRow base e 1 v xs.length (xs.map fun x => .int .i64 x)) : Tab w v xs := by
  rcases h.2 with ⟨hv, hn⟩ | ⟨g, cap, cur, hv, hg, hh, hc, hm, hs, ht⟩
  · exact Or.inl ⟨List.eq_nil_of_length_eq_zero hn, hv⟩
  · refine Or.inr ⟨g, cap, hv, ?_, fun k hk => ?_⟩
    · exact (Array.getElem?_eq_some_iff.1 hh).1
    · have h1 : (cur.toList.take (xs.length * 1))[k]? = some (.int .i64 xs[k]) := by
        rw [ht, List.getElem?_map, List.getElem?_eq_getElem hk]; rfl
      rw [List.getElem?_take] at h1
      simp only [World.cell?, hh]
      have : k < xs.length * 1 := by omega
      rw [if_pos this] at h1
      simpa using h1
theorem grownBy_drew {w w' : World} {r : Option Nat} (h : w.drew.grownBy w' r) : w.grownBy w' r := ⟨h.os, h.tape, h.output, h.size, h.block⟩
theorem num_size (s : ByteArray) (i : Nat) (h : i ≤ s.size) : (num s i).2 ≤ s.size := by
  have H : ∀ f i v, i + f = s.size → (numF s f i v).2 ≤ s.size := by
    intro f
    induction f with
    | zero => intro i v e; simp [numF]; omega
    | succ f ih =>
      intro i v e
      unfold numF
      split
      · exact ih _ _ (by omega)
      · simp; omega
  exact H _ _ _ (by omega)
theorem cell_all_new (w : World) (cs : Array Value) (u k : Nat) : (w.alloc (.cells cs u)).drew.cell? ⟨w.heap.size, k, none⟩ = cs[k]? := by
  have h : (w.alloc (.cells cs u)).heap[w.heap.size]? = some (.cells cs u) := by unfold World.alloc; simp
  show (w.alloc (.cells cs u)).cell? _ = _
  simp only [World.cell?, h]
  rfl
theorem cell_new_at (w : World) (cs : Array Value) (u k : Nat) : (w.alloc (.cells cs u)).cell? ⟨w.heap.size, k, none⟩ = cs[k]? := cell_all_new w cs u k
end Go.Proofs.YtjngjnkecnnmeaaDoor

namespace Go.Proofs.YtjngjnkecnnmeaaDoor

def blankAt (s : ByteArray) (i : Nat) : Bool := decide (i < s.size) && (decide (bt s i = 32) || decide (bt s i = 10))
theorem blankAt_true {s : ByteArray} {i : Nat} : blankAt s i = true ↔ i < s.size ∧ (bt s i = 32 ∨ bt s i = 10) := by simp [blankAt]
theorem blankAt_false {s : ByteArray} {i : Nat} : blankAt s i = false ↔ ¬ (i < s.size ∧ (bt s i = 32 ∨ bt s i = 10)) := by
  rw [← blankAt_true]; cases blankAt s i <;> simp

/-- Behind the blanks and bytes 10 from i on. -/
def skF (s : ByteArray) : Nat → Nat → Nat
  | 0, i => i
  | f + 1, i => if blankAt s i then skF s f (i + 1) else i
def sk (s : ByteArray) (i : Nat) : Nat := skF s (s.size - i) i

theorem sk_step {s : ByteArray} {i : Nat} (h : blankAt s i = true) : sk s i = sk s (i + 1) := by
  have hl := (blankAt_true.1 h).1
  unfold sk
  rw [show s.size - i = (s.size - (i + 1)) + 1 by omega]
  simp [skF, h]
theorem sk_stop {s : ByteArray} {i : Nat} (h : blankAt s i = false) : sk s i = i := by
  unfold sk
  cases s.size - i <;> simp [skF, h]
theorem skF_ge (s : ByteArray) : ∀ f i, i ≤ skF s f i := by
  intro f
  induction f with
  | zero => intro i; simp [skF]
  | succ f ih =>
    intro i
    simp only [skF]
    split
    · have := ih (i + 1); omega
    · omega
theorem sk_ge (s : ByteArray) (i : Nat) : i ≤ sk s i := skF_ge s _ i
theorem skF_le (s : ByteArray) : ∀ f i, i + f ≤ s.size → skF s f i ≤ i + f := by
  intro f
  induction f with
  | zero => intro i h; simp [skF]
  | succ f ih =>
    intro i h
    simp only [skF]
    split
    · have := ih (i + 1) (by omega); omega
    · omega
theorem sk_le {s : ByteArray} {i : Nat} (h : i ≤ s.size) : sk s i ≤ s.size := by
  have := skF_le s (s.size - i) i (by omega)
  unfold sk; omega
theorem skF_end (s : ByteArray) : ∀ f i, i + f = s.size → blankAt s (skF s f i) = false := by
  intro f
  induction f with
  | zero => intro i h; rw [blankAt_false]; simp [skF]; omega
  | succ f ih =>
    intro i h
    simp only [skF]
    split
    · exact ih (i + 1) (by omega)
    · rename_i hb; simpa using hb
theorem sk_end {s : ByteArray} {i : Nat} (h : i ≤ s.size) : blankAt s (sk s i) = false := skF_end s _ i (by omega)

/-- These bytes stand from i on: behind them; or where they don't. -/
def wordF (s : ByteArray) : List Nat → Nat → Nat ⊕ Nat
  | [], i => .inl i
  | c :: cs, i => if i < s.size ∧ bt s i = c then wordF s cs (i + 1) else .inr i

/-- Is what stands at i a number of at most six digits without a needless 0? -/
def numSix (s : ByteArray) (i : Nat) : Bool :=
  decide (i < (num s i).2) && !(decide (1 < (num s i).2 - i) && decide (bt s i = 48)) && decide ((num s i).2 - i ≤ 6)

def sideS (s : ByteArray) (ws : List Nat) (i : Nat) : (Nat × Nat) ⊕ (Nat × Nat) :=
  match wordF s ws i with
  | .inr j => .inr (j, 2)
  | .inl j => if !numSix s j then .inr (j, 2) else if 100 < (num s j).1 then .inr (j, 1) else .inl ((num s j).1, (num s j).2)

def headS (s : ByteArray) : (Nat × Nat × Nat) ⊕ (Nat × Nat) :=
  match sideS s [120, 32, 61, 32] 0 with
  | .inr e => .inr e
  | .inl (w, i) =>
    match sideS s [44, 32, 121, 32, 61, 32] i with
    | .inr e => .inr e
    | .inl (h, j) =>
      match wordF s [10] j with
      | .inr k => .inr (k, 2)
      | .inl k => .inl (w, h, k)

/-- n cells from p on are v. -/
def setRun (xs : List Int) (p : Nat) : Nat → Int → List Int
  | 0, _ => xs
  | n + 1, v => (setRun xs p n v).set (p + n) v
theorem setRun_length (xs : List Int) (p n : Nat) (v : Int) : (setRun xs p n v).length = xs.length := by
  induction n with
  | zero => rfl
  | succ n ih => simp [setRun, ih]

/-- What stands where a tag may: its number or 1, and the tag's place. -/
def dAt (s : ByteArray) (j : Nat) : Bool := inR s j 48 57
def tagN (s : ByteArray) (j : Nat) : Nat := if dAt s j then (num s j).1 else 1
def tagK (s : ByteArray) (j : Nat) : Nat := if dAt s j then (num s j).2 else j
def tagBad (s : ByteArray) (j : Nat) : Bool := dAt s j && (!numSix s j || decide ((num s j).1 < 2))

/-- One tag, at j: on, done, or wrong. -/
abbrev Go1 : Type := (Nat × Nat × Nat × List Int) ⊕ (List Int ⊕ (Nat × Nat))
abbrev Go1.on (i x y : Nat) (xs : List Int) : Go1 := Sum.inl (i, x, y, xs)
abbrev Go1.done (xs : List Int) : Go1 := Sum.inr (Sum.inl xs)
abbrev Go1.bad (a e : Nat) : Go1 := Sum.inr (Sum.inr (a, e))

def tag1 (s : ByteArray) (W H j x y : Nat) (xs : List Int) : Go1 :=
  if tagBad s j then .bad j 2
  else if s.size ≤ tagK s j then .bad (tagK s j) 2
  else if bt s (tagK s j) = 98 ∨ bt s (tagK s j) = 111 then
    if H ≤ y ∨ W < x + tagN s j then .bad j 1
    else .on (tagK s j + 1) (x + tagN s j) y (setRun xs (y * W + x) (tagN s j) (if bt s (tagK s j) = 111 then 1 else 0))
  else if bt s (tagK s j) = 36 then
    if H ≤ y + tagN s j then .bad j 1 else .on (tagK s j + 1) 0 (y + tagN s j) xs
  else if bt s (tagK s j) = 33 then
    if j ≠ tagK s j then .bad (tagK s j) 2
    else if sk s (tagK s j + 1) = s.size then .done xs else .bad (sk s (tagK s j + 1)) 2
  else .bad (tagK s j) 2

def tagsF (s : ByteArray) (W H : Nat) : Nat → Nat → Nat → Nat → List Int → List Int ⊕ (Nat × Nat)
  | 0, _, _, _, _ => .inr (0, 0)
  | f + 1, i, x, y, xs =>
    match tag1 s W H (sk s i) x y xs with
    | .inl (i', x', y', xs') => tagsF s W H f i' x' y' xs'
    | .inr (.inl xs') => .inl xs'
    | .inr (.inr (a, e)) => .inr (a, e)

/-- A pattern, or where it is wrong and how. -/
def runsS (s : ByteArray) : (Nat × Nat × List Int) ⊕ (Nat × Nat) :=
  if 40000 < s.size then .inr (0, 4)
  else match headS s with
    | .inr e => .inr e
    | .inl (w, h, i) =>
      match tagsF s w h (s.size + 1 - i) i 0 0 (List.replicate (w * h) 0) with
      | .inl xs => .inl (w, h, xs)
      | .inr e => .inr e

theorem numF_ge (s : ByteArray) : ∀ f i v, i ≤ (numF s f i v).2 := by
  intro f
  induction f with
  | zero => intro i v; simp [numF]
  | succ f ih =>
    intro i v
    simp only [numF]
    split
    · have := ih (i + 1) (v * 10 + (bt s i - 48)); omega
    · simp
theorem num_ge (s : ByteArray) (i : Nat) : i ≤ (num s i).2 := numF_ge s _ i 0
theorem num_gt {s : ByteArray} {i : Nat} (h : inR s i 48 57 = true) : i < (num s i).2 := by
  unfold num
  rw [numF_step h]
  exact numF_ge s _ (i + 1) _
theorem numF_bound (s : ByteArray) : ∀ f i v n, v < 10 ^ n → (numF s f i v).1 < 10 ^ (n + ((numF s f i v).2 - i)) := by
  intro f
  induction f with
  | zero => intro i v n h; simpa [numF] using h
  | succ f ih =>
    intro i v n h
    simp only [numF]
    split
    · rename_i hin
      have hb := inR_true.1 hin
      have h1 := ih (i + 1) (v * 10 + (bt s i - 48)) (n + 1) (by rw [Nat.pow_succ]; omega)
      have h2 := numF_ge s f (i + 1) (v * 10 + (bt s i - 48))
      rw [show n + ((numF s f (i + 1) (v * 10 + (bt s i - 48))).2 - i) = n + 1 + ((numF s f (i + 1) (v * 10 + (bt s i - 48))).2 - (i + 1)) by omega]
      exact h1
    · simpa using h
theorem num_bound (s : ByteArray) (i : Nat) (h : (num s i).2 - i ≤ 6) : (num s i).1 < 1000000 := by
  have := numF_bound s (s.size - i) i 0 0 (by simp)
  have h2 : 10 ^ (0 + ((numF s (s.size - i) i 0).2 - i)) ≤ 10 ^ 6 := Nat.pow_le_pow_right (by omega) (by unfold num at h; omega)
  unfold num
  omega
theorem tagK_ge (s : ByteArray) (j : Nat) : j ≤ tagK s j := by
  unfold tagK
  split
  · exact num_ge s j
  · omega
end Go.Proofs.YtjngjnkecnnmeaaDoor

namespace Go.Proofs.YtjngjnkecnnmeaaDoor
open Go.RowKit
set_option linter.unusedVariables false

/-- What the reader holds, its text aside. -/
structure Rv where
  i : Nat
  fl : Int
  wd : Int
  hi : Int
  cs : Value
  rt : Int
  dn : Int
  bg : Int
  tm : Int

def Rv.val (r : Rv) (s : ByteArray) : Nat → Value
  | 0 => .string s
  | 1 => .int .i64 (r.i : Int)
  | 2 => .int .i64 r.fl
  | 3 => .int .i64 r.wd
  | 4 => .int .i64 r.hi
  | 5 => r.cs
  | 6 => .int .i64 r.rt
  | 7 => .int .i64 r.dn
  | 8 => .int .i64 r.bg
  | 9 => .int .i64 r.tm
  | _ => .bool false

structure RAt (b : Nat) (s : ByteArray) (r : Rv) (w : World) : Prop where
  cell : ∀ k, k < 10 → w.cell? ⟨b, k, none⟩ = some (r.val s k)
  fz : ∀ k, k < 10 → w.frozen? ⟨b, k, none⟩ = false

theorem RAt.lt {b : Nat} {s : ByteArray} {r : Rv} {w : World} (h : RAt b s r w) : b < w.heap.size := by
  rcases Nat.lt_or_ge b w.heap.size with k | k
  · exact k
  · have := h.cell 0 (by omega); simp [World.cell?, Array.getElem?_eq_none k] at this
theorem RAt.block {b : Nat} {s : ByteArray} {r : Rv} {w w' : World} (h : RAt b s r w) (e : w'.heap[b]? = w.heap[b]?) : RAt b s r w' :=
  ⟨fun k hk => (World.cell?_of_block (w := w) (a := ⟨b, k, none⟩) e).trans (h.cell k hk), fun k hk => (World.frozen?_of_block (w := w) (a := ⟨b, k, none⟩) e).trans (h.fz k hk)⟩
theorem RAt.drewN {b : Nat} {s : ByteArray} {r : Rv} {w : World} (h : RAt b s r w) (n : Nat) : RAt b s r (w.drewN n) := h.block rfl
theorem RAt.alloc {b : Nat} {s : ByteArray} {r : Rv} {w : World} (h : RAt b s r w) (o : Obj) : RAt b s r (w.alloc o) := h.block (Below.heap_alloc _ _ _ h.lt)
theorem RAt.setOther {b : Nat} {s : ByteArray} {r : Rv} {w : World} (h : RAt b s r w) {p : Addr} (hp : b ≠ p.block) (u : Value) : RAt b s r (w.setCell p u) := h.block (Below.heap_setCell _ _ _ _ hp)
theorem RAt.below {b : Nat} {s : ByteArray} {r : Rv} {w w' : World} (h : RAt b s r w) (hb : Below w.heap.size w w') : RAt b s r w' := h.block (hb.block b h.lt)
theorem RAt.set {b : Nat} {s : ByteArray} {r r' : Rv} {w : World} (h : RAt b s r w) (k : Nat) (u : Value) (hk : k < 10) (h1 : r'.val s k = u) (h2 : ∀ j, j < 10 → j ≠ k → r'.val s j = r.val s j) : RAt b s r' (w.setCell ⟨b, k, none⟩ u) := by
  refine ⟨fun j hj => ?_, fun j hj => by rw [World.frozen?_setCell]; exact h.fz j hj⟩
  by_cases e : j = k
  · subst e; rw [h1]; exact World.cell?_setCell_same (w := w) (a := ⟨b, j, none⟩) (v := _) (h := h.cell j hj)
  · rw [h2 j hj e]; exact (World.cell?_setCell_other (w := w) (a := ⟨b, k, none⟩) (b := ⟨b, j, none⟩) (v := _) (h := fun q => e (congrArg Addr.off q).symm)).trans (h.cell j hj)

theorem RAt.set_i {b : Nat} {s : ByteArray} {r : Rv} {w : World} (h : RAt b s r w) (x : Nat) : RAt b s { r with i := x } (w.setCell ⟨b, 1, none⟩ (.int .i64 (x : Int))) :=
  h.set 1 _ (by omega) rfl fun j hj hn => by
    match j, hj, hn with
    | 0, _, hn => rfl
    | 1, _, hn => exact absurd rfl hn
    | 2, _, hn => rfl
    | 3, _, hn => rfl
    | 4, _, hn => rfl
    | 5, _, hn => rfl
    | 6, _, hn => rfl
    | 7, _, hn => rfl
    | 8, _, hn => rfl
    | 9, _, hn => rfl
theorem RAt.set_fl {b : Nat} {s : ByteArray} {r : Rv} {w : World} (h : RAt b s r w) (x : Int) : RAt b s { r with fl := x } (w.setCell ⟨b, 2, none⟩ (.int .i64 x)) :=
  h.set 2 _ (by omega) rfl fun j hj hn => by
    match j, hj, hn with
    | 0, _, hn => rfl
    | 1, _, hn => rfl
    | 2, _, hn => exact absurd rfl hn
    | 3, _, hn => rfl
    | 4, _, hn => rfl
    | 5, _, hn => rfl
    | 6, _, hn => rfl
    | 7, _, hn => rfl
    | 8, _, hn => rfl
    | 9, _, hn => rfl
theorem RAt.set_wd {b : Nat} {s : ByteArray} {r : Rv} {w : World} (h : RAt b s r w) (x : Int) : RAt b s { r with wd := x } (w.setCell ⟨b, 3, none⟩ (.int .i64 x)) :=
  h.set 3 _ (by omega) rfl fun j hj hn => by
    match j, hj, hn with
    | 0, _, hn => rfl
    | 1, _, hn => rfl
    | 2, _, hn => rfl
    | 3, _, hn => exact absurd rfl hn
    | 4, _, hn => rfl
    | 5, _, hn => rfl
    | 6, _, hn => rfl
    | 7, _, hn => rfl
    | 8, _, hn => rfl
    | 9, _, hn => rfl
theorem RAt.set_hi {b : Nat} {s : ByteArray} {r : Rv} {w : World} (h : RAt b s r w) (x : Int) : RAt b s { r with hi := x } (w.setCell ⟨b, 4, none⟩ (.int .i64 x)) :=
  h.set 4 _ (by omega) rfl fun j hj hn => by
    match j, hj, hn with
    | 0, _, hn => rfl
    | 1, _, hn => rfl
    | 2, _, hn => rfl
    | 3, _, hn => rfl
    | 4, _, hn => exact absurd rfl hn
    | 5, _, hn => rfl
    | 6, _, hn => rfl
    | 7, _, hn => rfl
    | 8, _, hn => rfl
    | 9, _, hn => rfl
theorem RAt.set_cs {b : Nat} {s : ByteArray} {r : Rv} {w : World} (h : RAt b s r w) (x : Value) : RAt b s { r with cs := x } (w.setCell ⟨b, 5, none⟩ x) :=
  h.set 5 _ (by omega) rfl fun j hj hn => by
    match j, hj, hn with
    | 0, _, hn => rfl
    | 1, _, hn => rfl
    | 2, _, hn => rfl
    | 3, _, hn => rfl
    | 4, _, hn => rfl
    | 5, _, hn => exact absurd rfl hn
    | 6, _, hn => rfl
    | 7, _, hn => rfl
    | 8, _, hn => rfl
    | 9, _, hn => rfl
theorem RAt.set_rt {b : Nat} {s : ByteArray} {r : Rv} {w : World} (h : RAt b s r w) (x : Int) : RAt b s { r with rt := x } (w.setCell ⟨b, 6, none⟩ (.int .i64 x)) :=
  h.set 6 _ (by omega) rfl fun j hj hn => by
    match j, hj, hn with
    | 0, _, hn => rfl
    | 1, _, hn => rfl
    | 2, _, hn => rfl
    | 3, _, hn => rfl
    | 4, _, hn => rfl
    | 5, _, hn => rfl
    | 6, _, hn => exact absurd rfl hn
    | 7, _, hn => rfl
    | 8, _, hn => rfl
    | 9, _, hn => rfl
theorem RAt.set_dn {b : Nat} {s : ByteArray} {r : Rv} {w : World} (h : RAt b s r w) (x : Int) : RAt b s { r with dn := x } (w.setCell ⟨b, 7, none⟩ (.int .i64 x)) :=
  h.set 7 _ (by omega) rfl fun j hj hn => by
    match j, hj, hn with
    | 0, _, hn => rfl
    | 1, _, hn => rfl
    | 2, _, hn => rfl
    | 3, _, hn => rfl
    | 4, _, hn => rfl
    | 5, _, hn => rfl
    | 6, _, hn => rfl
    | 7, _, hn => exact absurd rfl hn
    | 8, _, hn => rfl
    | 9, _, hn => rfl
theorem RAt.set_bg {b : Nat} {s : ByteArray} {r : Rv} {w : World} (h : RAt b s r w) (x : Int) : RAt b s { r with bg := x } (w.setCell ⟨b, 8, none⟩ (.int .i64 x)) :=
  h.set 8 _ (by omega) rfl fun j hj hn => by
    match j, hj, hn with
    | 0, _, hn => rfl
    | 1, _, hn => rfl
    | 2, _, hn => rfl
    | 3, _, hn => rfl
    | 4, _, hn => rfl
    | 5, _, hn => rfl
    | 6, _, hn => rfl
    | 7, _, hn => rfl
    | 8, _, hn => exact absurd rfl hn
    | 9, _, hn => rfl
theorem RAt.set_tm {b : Nat} {s : ByteArray} {r : Rv} {w : World} (h : RAt b s r w) (x : Int) : RAt b s { r with tm := x } (w.setCell ⟨b, 9, none⟩ (.int .i64 x)) :=
  h.set 9 _ (by omega) rfl fun j hj hn => by
    match j, hj, hn with
    | 0, _, hn => rfl
    | 1, _, hn => rfl
    | 2, _, hn => rfl
    | 3, _, hn => rfl
    | 4, _, hn => rfl
    | 5, _, hn => rfl
    | 6, _, hn => rfl
    | 7, _, hn => rfl
    | 8, _, hn => rfl
    | 9, _, hn => exact absurd rfl hn

/-- The ten cells, and that they may be written. -/
structure Ten (b : Nat) (s : ByteArray) (r : Rv) (w : World) : Prop where
  c0 : w.cell? ⟨b, 0, none⟩ = some (.string s)
  c1 : w.cell? ⟨b, 1, none⟩ = some (.int .i64 (r.i : Int))
  c2 : w.cell? ⟨b, 2, none⟩ = some (.int .i64 r.fl)
  c3 : w.cell? ⟨b, 3, none⟩ = some (.int .i64 r.wd)
  c4 : w.cell? ⟨b, 4, none⟩ = some (.int .i64 r.hi)
  c5 : w.cell? ⟨b, 5, none⟩ = some (r.cs)
  c6 : w.cell? ⟨b, 6, none⟩ = some (.int .i64 r.rt)
  c7 : w.cell? ⟨b, 7, none⟩ = some (.int .i64 r.dn)
  c8 : w.cell? ⟨b, 8, none⟩ = some (.int .i64 r.bg)
  c9 : w.cell? ⟨b, 9, none⟩ = some (.int .i64 r.tm)
  f1 : w.frozen? ⟨b, 1, none⟩ = false
  f2 : w.frozen? ⟨b, 2, none⟩ = false
  f3 : w.frozen? ⟨b, 3, none⟩ = false
  f4 : w.frozen? ⟨b, 4, none⟩ = false
  f5 : w.frozen? ⟨b, 5, none⟩ = false
  f6 : w.frozen? ⟨b, 6, none⟩ = false
  f7 : w.frozen? ⟨b, 7, none⟩ = false
  f8 : w.frozen? ⟨b, 8, none⟩ = false
  f9 : w.frozen? ⟨b, 9, none⟩ = false
theorem RAt.ten {b : Nat} {s : ByteArray} {r : Rv} {w : World} (h : RAt b s r w) : Ten b s r w :=
  ⟨h.cell 0 (by omega), h.cell 1 (by omega), h.cell 2 (by omega), h.cell 3 (by omega), h.cell 4 (by omega), h.cell 5 (by omega), h.cell 6 (by omega), h.cell 7 (by omega), h.cell 8 (by omega), h.cell 9 (by omega), h.fz 1 (by omega), h.fz 2 (by omega), h.fz 3 (by omega), h.fz 4 (by omega), h.fz 5 (by omega), h.fz 6 (by omega), h.fz 7 (by omega), h.fz 8 (by omega), h.fz 9 (by omega)⟩

/-- What a method of the reader leaves: the reader so, and nothing else turned. -/
def Left (b : Nat) (s : ByteArray) (r : Rv) (w w' : World) : Prop := RAt b s r w' ∧ Rd b w w'
end Go.Proofs.YtjngjnkecnnmeaaDoor

namespace Go.Proofs.YtjngjnkecnnmeaaDoor
open Go.RowKit
set_option linter.unusedVariables false

theorem pfail (b : Nat) (s : ByteArray) (r : Rv) (a : Nat) (A f : Int) (w : World) (hA : A = a) (h : RAt b s r w) :
    Calls Tryd.prog 85 #[.pointer (some ⟨b, 0, none⟩), .int .i64 A, .int .i64 f] w fun e w' => e = .returned (.bool false) ∧ RAt b s { r with i := a, fl := f } w' ∧ Rd b w w' := by
  subst hA
  have H := hide' h
  obtain ⟨c0, c1, c2, c3, c4, c5, c6, c7, c8, c9, f1, f2, f3, f4, f5, f6, f7, f8, f9⟩ := h.ten
  clear h
  go_enter Tryd.func85, Tryd.ntmps85
  go_wp2
  go_ret
  exact ⟨rfl, (H.out.set_i a).set_fl f, ((Rd.refl _ _).set _ _).set _ _⟩

theorem pnext_in (b : Nat) (s : ByteArray) (i : Nat) (w : World) (c0 : w.cell? ⟨b, 0, none⟩ = some (.string s)) (c1 : w.cell? ⟨b, 1, none⟩ = some (.int .i64 (i : Int))) (hi : i < s.size) :
    Calls Tryd.prog 89 #[.pointer (some ⟨b, 0, none⟩)] w fun e w' => e = .returned (.int .u8 (bt s i : Int)) ∧ ∃ n, w' = w.drewN n := by
  have n1 : ((i : Int) == (s.size : Int)) = false := by simp; omega
  rw [← bt_lt s i hi]
  go_enter Tryd.func89, Tryd.ntmps89
  go_wp2
  go_quiet (fail)
  go_wp2
  go_quiet (fail)
  go_wp2
  go_ret
  exact ⟨rfl, _, World.drewN_drewN _ _ _⟩

theorem pnext_end (b : Nat) (s : ByteArray) (i : Nat) (w : World) (c0 : w.cell? ⟨b, 0, none⟩ = some (.string s)) (c1 : w.cell? ⟨b, 1, none⟩ = some (.int .i64 (i : Int))) (hi : i = s.size) :
    Calls Tryd.prog 89 #[.pointer (some ⟨b, 0, none⟩)] w fun e w' => e = .returned (.int .u8 (bt s i : Int)) ∧ ∃ n, w' = w.drewN n := by
  have n1 : ((i : Int) == (s.size : Int)) = true := by simp; omega
  rw [show bt s i = 0 by simp [bt, hi]]
  clear hi
  go_enter Tryd.func89, Tryd.ntmps89
  go_wp2
  go_quiet (fail)
  go_wp2
  go_ret
  exact ⟨rfl, _, rfl⟩

theorem pnext (b : Nat) (s : ByteArray) (r : Rv) (w : World) (h : RAt b s r w) (hi : r.i ≤ s.size) :
    Calls Tryd.prog 89 #[.pointer (some ⟨b, 0, none⟩)] w fun e w' => e = .returned (.int .u8 (bt s r.i : Int)) ∧ ∃ n, w' = w.drewN n := by
  by_cases hl : r.i < s.size
  · exact pnext_in b s r.i w h.ten.c0 h.ten.c1 hl
  · exact pnext_end b s r.i w h.ten.c0 h.ten.c1 (by omega)
end Go.Proofs.YtjngjnkecnnmeaaDoor

namespace Go.Proofs.YtjngjnkecnnmeaaDoor
open Go.RowKit
set_option linter.unusedVariables false

theorem RAt.posOf {b : Nat} {s : ByteArray} {r : Rv} {w : World} (h : RAt b s r w) : posOf b w = r.i := by
  unfold Go.Proofs.YtjngjnkecnnmeaaDoor.posOf; rw [h.ten.c1]; simp

set_option maxHeartbeats 800000 in
theorem pskip (b : Nat) (s : ByteArray) (r : Rv) (w : World) (h : RAt b s r w) (hi : r.i ≤ s.size) (hs : s.size ≤ 40000) :
    Calls Tryd.prog 87 #[.pointer (some ⟨b, 0, none⟩)] w fun e w' => e = .returned (.tuple #[]) ∧ RAt b s { r with i := sk s r.i } w' ∧ Rd b w w' := by
  have H := hide' h
  clear h
  go_enter Tryd.func87, Tryd.ntmps87
  go_wp2
  go_loopw [] (fun wr => ∃ i, RAt b s { r with i := i } wr ∧ Rd b w wr ∧ i ≤ s.size ∧ sk s i = sk s r.i) (fun wr => s.size - posOf b wr)
  case atStart => exact ⟨r.i, H.out, Rd.refl _ _, hi, rfl⟩
  case round =>
    obtain ⟨i, ha, hr, hi', hsk⟩ := hrel
    have HA := hide' ha
    have HR := hide' hr
    have HS := hide' hsk
    obtain ⟨c0, c1, -, -, -, -, -, -, -, -, f1, -, -, -, -, -, -, -, -⟩ := ha.ten
    clear ha hr hsk
    dsimp only at c1
    by_cases q32 : bt s i = 32
    · have n1 : ((bt s i : Int) == 32) = true := by simp; omega
      have hlt : i < s.size := by
        rcases Nat.lt_or_ge i s.size with z | z
        · exact z
        · simp [bt, show ¬ i < s.size by omega] at q32
      have hb : blankAt s i = true := blankAt_true.2 ⟨hlt, Or.inl q32⟩
      have HB := hide' hb
      clear hb q32
      go_wp2_with fail
      refine (pnext b s _ _ HA.out hi').mono ?_
      rintro e w1 ⟨rfl, n, rfl⟩
      go_wp2
      go_roundw
      case rel => exact ⟨i + 1, by rw [show (i : Int) + 1 = ((i + 1 : Nat) : Int) by omega]; exact (HA.out.drewN n).set_i (i + 1), (HR.out.drewN n).set _ _, by omega, (sk_step HB.out).symm.trans HS.out⟩
      · rw [show (i : Int) + 1 = ((i + 1 : Nat) : Int) by omega, ((HA.out.drewN n).set_i (i + 1)).posOf, HA.out.posOf]
        dsimp only; omega
    · have n1 : ((bt s i : Int) == 32) = false := by simp; omega
      by_cases q10 : bt s i = 10
      · have n2 : ((bt s i : Int) == 10) = true := by simp; omega
        have hlt : i < s.size := by
          rcases Nat.lt_or_ge i s.size with z | z
          · exact z
          · simp [bt, show ¬ i < s.size by omega] at q10
        have hb : blankAt s i = true := blankAt_true.2 ⟨hlt, Or.inr q10⟩
        have HB := hide' hb
        clear hb q32 q10
        go_wp2_with fail
        refine (pnext b s _ _ HA.out hi').mono ?_
        rintro e w1 ⟨rfl, n, rfl⟩
        go_wp2_with fail
        refine (pnext b s _ _ (HA.out.drewN n) hi').mono ?_
        rintro e w1 ⟨rfl, n', rfl⟩
        go_wp2
        go_roundw
        case rel => exact ⟨i + 1, by rw [show (i : Int) + 1 = ((i + 1 : Nat) : Int) by omega]; exact (HA.out.drewN (n + n')).set_i (i + 1), (HR.out.drewN (n + n')).set _ _, by omega, (sk_step HB.out).symm.trans HS.out⟩
        · rw [show (i : Int) + 1 = ((i + 1 : Nat) : Int) by omega, ((HA.out.drewN (n + n')).set_i (i + 1)).posOf, HA.out.posOf]
          dsimp only; omega
      · have n2 : ((bt s i : Int) == 10) = false := by simp; omega
        have hb : blankAt s i = false := blankAt_false.2 (by omega)
        have HB := hide' hb
        clear hb q32 q10
        go_wp2_with fail
        refine (pnext b s _ _ HA.out hi').mono ?_
        rintro e w1 ⟨rfl, n, rfl⟩
        go_wp2_with fail
        refine (pnext b s _ _ (HA.out.drewN n) hi').mono ?_
        rintro e w1 ⟨rfl, n', rfl⟩
        go_wp2
        go_end0
        have e := (sk_stop HB.out).symm.trans HS.out
        rw [← e]
        exact ⟨rfl, HA.out.drewN _, HR.out.drewN _⟩

theorem digit_lo (s : ByteArray) (i : Nat) (h : bt s i < 48) : inR s i 48 57 = false := inR_false.2 (by omega)
theorem digit_hi (s : ByteArray) (i : Nat) (h : 57 < bt s i) : inR s i 48 57 = false := inR_false.2 (by omega)
theorem bt_pos {s : ByteArray} {i : Nat} (h : 0 < bt s i) : i < s.size := by
  rcases Nat.lt_or_ge i s.size with z | z
  · exact z
  · simp [bt, show ¬ i < s.size by omega] at h
theorem digit_in (s : ByteArray) (i : Nat) (h : 48 ≤ bt s i) (h' : bt s i ≤ 57) : inR s i 48 57 = true := inR_true.2 ⟨bt_pos (by omega), by omega, by omega⟩

set_option maxHeartbeats 800000 in
theorem pisDigit (b : Nat) (s : ByteArray) (r : Rv) (w : World) (h : RAt b s r w) (hi : r.i ≤ s.size) :
    Calls Tryd.prog 131 #[.pointer (some ⟨b, 0, none⟩)] w fun e w' => e = .returned (.bool (inR s r.i 48 57)) ∧ ∃ n, w' = w.drewN n := by
  have H := hide' h
  clear h
  by_cases q1 : bt s r.i < 48
  · have n1 : ¬ (48 : Int) ≤ (bt s r.i : Int) := by omega
    rw [digit_lo s r.i q1]
    clear q1
    go_enter Tryd.func131, Tryd.ntmps131
    go_wp2_with fail
    refine (pnext b s _ _ H.out hi).mono ?_
    rintro e w1 ⟨rfl, n, rfl⟩
    go_wp2
    go_ret
    exact ⟨rfl, n, rfl⟩
  · have n1 : (48 : Int) ≤ (bt s r.i : Int) := by omega
    by_cases q2 : 57 < bt s r.i
    · have n2 : ¬ (bt s r.i : Int) ≤ 57 := by omega
      rw [digit_hi s r.i q2]
      clear q1 q2
      go_enter Tryd.func131, Tryd.ntmps131
      go_wp2_with fail
      refine (pnext b s _ _ H.out hi).mono ?_
      rintro e w1 ⟨rfl, n, rfl⟩
      go_wp2_with fail
      refine (pnext b s _ _ (H.out.drewN n) hi).mono ?_
      rintro e w1 ⟨rfl, n', rfl⟩
      go_wp2
      go_ret
      exact ⟨by simp [n2], _, rfl⟩
    · have n2 : (bt s r.i : Int) ≤ 57 := by omega
      rw [digit_in s r.i (by omega) (by omega)]
      clear q1 q2
      go_enter Tryd.func131, Tryd.ntmps131
      go_wp2_with fail
      refine (pnext b s _ _ H.out hi).mono ?_
      rintro e w1 ⟨rfl, n, rfl⟩
      go_wp2_with fail
      refine (pnext b s _ _ (H.out.drewN n) hi).mono ?_
      rintro e w1 ⟨rfl, n', rfl⟩
      go_wp2
      go_ret
      exact ⟨by simp, _, rfl⟩
theorem pisDigit' (b : Nat) (s : ByteArray) (r : Rv) (w : World) (c : Bool) (hc : inR s r.i 48 57 = c) (h : RAt b s r w) (hi : r.i ≤ s.size) :
    Calls Tryd.prog 131 #[.pointer (some ⟨b, 0, none⟩)] w fun e w' => e = .returned (.bool c) ∧ ∃ n, w' = w.drewN n := by
  subst hc
  exact pisDigit b s r w h hi
end Go.Proofs.YtjngjnkecnnmeaaDoor

namespace Go.Proofs.YtjngjnkecnnmeaaDoor
open Go.RowKit
set_option linter.unusedVariables false

def NumPost (b : Nat) (s : ByteArray) (r : Rv) (w : World) (e : Ending) (w' : World) : Prop :=
  (numSix s r.i = true ∧ e = .returned (.tuple #[.int .i64 ((num s r.i).1 : Int), .bool true]) ∧ RAt b s { r with i := (num s r.i).2 } w' ∧ Rd b w w' ∧ (num s r.i).2 ≤ s.size) ∨
  (numSix s r.i = false ∧ e = .returned (.tuple #[.int .i64 0, .bool false]) ∧ RAt b s { r with fl := 2 } w' ∧ Rd b w w')

theorem numSix_true {s : ByteArray} {i : Nat} : numSix s i = true ↔ i < (num s i).2 ∧ ¬ (1 < (num s i).2 - i ∧ bt s i = 48) ∧ (num s i).2 - i ≤ 6 := by
  unfold numSix
  rw [Bool.and_eq_true, Bool.and_eq_true, decide_eq_true_eq, Bool.not_eq_true', decide_eq_true_eq, and_assoc]
  constructor <;> rintro ⟨a, c, d⟩ <;> refine ⟨a, ?_, d⟩ <;> simp at c ⊢ <;> omega
theorem numSix_false {s : ByteArray} {i : Nat} : numSix s i = false ↔ ¬ (i < (num s i).2 ∧ ¬ (1 < (num s i).2 - i ∧ bt s i = 48) ∧ (num s i).2 - i ≤ 6) := by
  rw [← numSix_true]; cases numSix s i <;> simp

set_option maxHeartbeats 1600000 in
theorem pnumber (b : Nat) (s : ByteArray) (r : Rv) (w : World) (h : RAt b s r w) (hi : r.i ≤ s.size) (hs : s.size ≤ 40000) :
    Calls Tryd.prog 132 #[.pointer (some ⟨b, 0, none⟩)] w (NumPost b s r w) := by
  have H := hide' h
  obtain ⟨i0, hI⟩ : ∃ i0, i0 = r.i := ⟨_, rfl⟩
  have hi0 : i0 ≤ s.size := by omega
  have HI := hide' hI
  have c1 : w.cell? ⟨b, 1, none⟩ = some (.int .i64 (i0 : Int)) := by rw [hI]; exact h.ten.c1
  clear h hI hi
  go_enter Tryd.func132, Tryd.ntmps132
  go_wp2
  have N := hide' (show ∃ k v i : Nat, True from ⟨0, 0, 0, trivial⟩)
  clear N
  go_loopw [5] (fun nv wr => ∃ v i : Nat, nv = .int .i64 (v : Int) ∧ RAt b s { r with i := i } wr ∧ Rd b w wr ∧ i0 ≤ i ∧ i ≤ s.size ∧ i - i0 ≤ 6 ∧ v < 1000000 ∧ v < 10 ^ (i - i0) ∧ (1 < i - i0 → ¬ bt s i0 = 48) ∧ numF s (s.size - i) i v = num s i0) (fun _ wr => s.size - posOf b wr)
  case atStart => exact ⟨0, i0, rfl, by rw [HI.out]; exact H.out, Rd.refl _ _, by omega, hi0, by omega, by omega, by simp, by omega, rfl⟩
  case round =>
    obtain ⟨v, i, rfl, ha, hr, hlo, hi, h6, hv, hv', hz, hnum⟩ := hrel
    have HR := hide' hr
    have HA := hide' ha
    have HN := hide' hnum
    have HV := hide' hv'
    have HZ := hide' hz
    have c1' := ha.ten.c1
    have c0' := ha.ten.c0
    have f1' := ha.ten.f1
    dsimp only at c1'
    clear ha hr hnum hv' hz c1
    cases hin : inR s i 48 57 with
    | false =>
      have e1 := HN.out
      rw [numF_stop hin] at e1
      have F := hide' (show (num s i0).2 = i by rw [← e1])
      have V := hide' (show (num s i0).1 = v by rw [← e1])
      clear e1
      by_cases q : i = i0
      · have n1 : ((i : Int) == (i0 : Int)) = true := by simp; omega
        have Q := hide' q
        clear q
        go_wp2_with fail
        refine (pisDigit' b s _ _ false hin HA.out hi).mono ?_
        rintro e w1 ⟨rfl, n, rfl⟩
        go_wp2_with fail
        refine (pfail b s _ i0 _ _ _ rfl (HA.out.drewN n)).mono ?_
        rintro e w1 ⟨rfl, a1, r1⟩
        go_wp2
        go_ret2
        right
        have hI := HI.out
        subst hI
        refine ⟨numSix_false.2 (by have := F.out; have := Q.out; omega), rfl, ?_, (HR.out.drewN n).trans r1⟩
        exact a1
      · have n1 : ((i : Int) == (i0 : Int)) = false := by simp; omega
        go_wp2_with fail
        refine (pisDigit' b s _ _ false hin HA.out hi).mono ?_
        rintro e w1 ⟨rfl, n, rfl⟩
        go_wp2
        go_ret2
        left
        have hI := HI.out
        subst hI
        have f := F.out
        have z := HZ.out
        refine ⟨numSix_true.2 (by rw [f]; omega), by rw [V.out]; rfl, ?_, HR.out.drewN n, by rw [f]; exact hi⟩
        rw [f]
        exact HA.out.drewN n
    | true =>
      have hb := inR_true.1 hin
      have hlt := hb.1
      have hlt0 : i0 < s.size := by omega
      have k1 : (48 : Int) ≤ (bt s i : Int) := hb.2.1
      have k2 : (bt s i : Int) ≤ 57 := hb.2.2
      have e1 := HN.out
      rw [numF_step hin] at e1
      have E1 := hide' e1
      have G := hide' (show i + 1 ≤ (num s i0).2 by rw [← e1]; exact numF_ge s _ _ _)
      clear e1 hb
      by_cases q1 : i0 < i
      · have n1 : (i0 : Int) < (i : Int) := by omega
        by_cases q2 : bt s i0 = 48
        · have n2 : ((s[i0].toNat : Int) == 48) = true := by have := bt_lt s i0 hlt0; simp; omega
          have Q2 := hide' q2
          clear q2
          go_wp2_with fail
          refine (pisDigit' b s _ _ true hin HA.out hi).mono ?_
          rintro e w1 ⟨rfl, n, rfl⟩
          go_wp2_with fail
          refine (pfail b s _ i0 _ _ _ rfl (HA.out.drewN _)).mono ?_
          rintro e w1 ⟨rfl, a1, r1⟩
          go_wp2
          go_ret2
          right
          have hI := HI.out
          subst hI
          exact ⟨numSix_false.2 (by have := G.out; have := Q2.out; omega), rfl, a1, (HR.out.drewN _).trans r1⟩
        · have n2 : ((s[i0].toNat : Int) == 48) = false := by have := bt_lt s i0 hlt0; simp; omega
          have Q2 := hide' q2
          clear q2
          by_cases q3 : i - i0 = 6
          · have n3 : ((i : Int) - (i0 : Int) == 6) = true := by simp; omega
            have Q3 := hide' q3
            clear q3
            go_wp2_with fail
            refine (pisDigit' b s _ _ true hin HA.out hi).mono ?_
            rintro e w1 ⟨rfl, n, rfl⟩
            go_wp2_with fail
            refine (pfail b s _ i0 _ _ _ rfl (HA.out.drewN _)).mono ?_
            rintro e w1 ⟨rfl, a1, r1⟩
            go_wp2
            go_ret2
            right
            have hI := HI.out
            subst hI
            exact ⟨numSix_false.2 (by have := G.out; have := Q3.out; omega), rfl, a1, (HR.out.drewN _).trans r1⟩
          · have n3 : ((i : Int) - (i0 : Int) == 6) = false := by simp; omega
            have hv2 : v < 100000 := by
              have h1 := HV.out
              have h2 : 10 ^ (i - i0) ≤ 10 ^ 5 := Nat.pow_le_pow_right (by omega) (by omega)
              omega
            go_wp2_with fail
            refine (pisDigit' b s _ _ true hin HA.out hi).mono ?_
            rintro e w1 ⟨rfl, n, rfl⟩
            go_wp2_with fail
            refine (pnext b s _ _ (HA.out.drewN _) hi).mono ?_
            rintro e w1 ⟨rfl, n', rfl⟩
            go_wp2
            go_roundw
            case rel =>
              have hn1 : i - i0 ≤ 5 := by omega
              refine ⟨v * 10 + (bt s i - 48), i + 1, by go_num, by rw [show (i : Int) + 1 = ((i + 1 : Nat) : Int) by omega]; exact (HA.out.drewN _).set_i (i + 1), (HR.out.drewN _).set _ _, by omega, by omega, by omega, by omega, ?_, ?_, E1.out⟩
              · have h1 := HV.out
                rw [show i + 1 - i0 = (i - i0) + 1 by omega, Nat.pow_succ]
                omega
              · exact fun _ => Q2.out
            · rw [show (i : Int) + 1 = ((i + 1 : Nat) : Int) by omega, ((HA.out.drewN _).set_i (i + 1)).posOf, HA.out.posOf]
              dsimp only; omega
      · have n1 : ¬ (i0 : Int) < (i : Int) := by omega
        have n3 : ((i : Int) - (i0 : Int) == 6) = false := by simp; omega
        have hv2 : v < 100000 := by
          have h1 := HV.out
          have h2 : 10 ^ (i - i0) ≤ 10 ^ 5 := Nat.pow_le_pow_right (by omega) (by omega)
          omega
        go_wp2_with fail
        refine (pisDigit' b s _ _ true hin HA.out hi).mono ?_
        rintro e w1 ⟨rfl, n, rfl⟩
        go_wp2_with fail
        refine (pnext b s _ _ (HA.out.drewN _) hi).mono ?_
        rintro e w1 ⟨rfl, n', rfl⟩
        go_wp2
        go_roundw
        case rel =>
          have hn1 : i - i0 ≤ 5 := by omega
          refine ⟨v * 10 + (bt s i - 48), i + 1, by go_num, by rw [show (i : Int) + 1 = ((i + 1 : Nat) : Int) by omega]; exact (HA.out.drewN _).set_i (i + 1), (HR.out.drewN _).set _ _, by omega, by omega, by omega, by omega, ?_, ?_, E1.out⟩
          · have h1 := HV.out
            rw [show i + 1 - i0 = (i - i0) + 1 by omega, Nat.pow_succ]
            omega
          · intro hh; omega
        · rw [show (i : Int) + 1 = ((i + 1 : Nat) : Int) by omega, ((HA.out.drewN _).set_i (i + 1)).posOf, HA.out.posOf]
          dsimp only; omega
end Go.Proofs.YtjngjnkecnnmeaaDoor

namespace Go.Proofs.YtjngjnkecnnmeaaDoor
open Go.RowKit
set_option linter.unusedVariables false

/-- A text's bytes. -/
def bts (t : ByteArray) : List Nat := (List.range t.size).map (bt t)
theorem bts_drop (t : ByteArray) (k : Nat) (h : k < t.size) : (bts t).drop k = bt t k :: (bts t).drop (k + 1) := by
  rw [List.drop_eq_getElem_cons (by simpa [bts] using h)]
  simp [bts]
theorem bts_end (t : ByteArray) : (bts t).drop t.size = [] := by simp [bts]

def WordPost (b : Nat) (s : ByteArray) (r : Rv) (ws : List Nat) (w : World) (e : Ending) (w' : World) : Prop :=
  (∃ j, wordF s ws r.i = .inl j ∧ e = .returned (.bool true) ∧ RAt b s { r with i := j } w' ∧ Rd b w w' ∧ j ≤ s.size) ∨
  (∃ j, wordF s ws r.i = .inr j ∧ e = .returned (.bool false) ∧ RAt b s { r with i := j, fl := 2 } w' ∧ Rd b w w')

set_option maxHeartbeats 1600000 in
theorem pexpect (b : Nat) (s t : ByteArray) (r : Rv) (w : World) (h : RAt b s r w) (hi : r.i ≤ s.size) (hs : s.size ≤ 40000) (ht : t.size ≤ 100) (hz : ∀ k, k < t.size → 0 < bt t k) :
    Calls Tryd.prog 130 #[.pointer (some ⟨b, 0, none⟩), .string t] w (WordPost b s r (bts t) w) := by
  have H := hide' h
  have HZ := hide' hz
  clear h hz
  go_enter Tryd.func130, Tryd.ntmps130
  go_wp2
  go_loopw [8] (fun kv wr => ∃ k i : Nat, kv = .int .i64 (k : Int) ∧ k ≤ t.size ∧ RAt b s { r with i := i } wr ∧ Rd b w wr ∧ i ≤ s.size ∧ wordF s ((bts t).drop k) i = wordF s (bts t) r.i) (fun kv _ => t.size - (intOf kv).toNat)
  case atStart => exact ⟨0, r.i, rfl, by omega, H.out, Rd.refl _ _, hi, rfl⟩
  case round =>
    obtain ⟨k, i, rfl, hk, ha, hr, hi', hw⟩ := hrel
    have HA := hide' ha
    have HR := hide' hr
    have HW := hide' hw
    have c1 := ha.ten.c1
    have f1 := ha.ten.f1
    dsimp only at c1
    clear ha hr hw
    by_cases q : k < t.size
    · have n1 : (k : Int) < (t.size : Int) := by omega
      have hbt := bt_lt t k q
      by_cases e : bt s i = bt t k
      · have n2 : ((bt s i : Int) == (t[k].toNat : Int)) = true := by simp; omega
        have hlt : i < s.size := bt_pos (by have := HZ.out k q; omega)
        have hw := HW.out
        rw [bts_drop t k q, wordF, if_pos ⟨hlt, e⟩] at hw
        have HW2 := hide' hw
        clear hw hbt e
        go_wp2
        go_quiet ((go_at_call 89; exact Calls.quiet_of (pnext b s _ _ (HA.out.drewN _) hi')))
        go_wp2
        go_roundw
        case rel => exact ⟨k + 1, i + 1, by go_num, by omega, by rw [show (i : Int) + 1 = ((i + 1 : Nat) : Int) by omega]; exact (HA.out.drewN _).set_i (i + 1), (HR.out.drewN _).set _ _, by omega, HW2.out⟩
        · simp [intOf]; omega
      · have n2 : ((bt s i : Int) == (t[k].toNat : Int)) = false := by simp; omega
        have hw := HW.out
        rw [bts_drop t k q, wordF, if_neg (fun h => e h.2)] at hw
        have HW2 := hide' hw
        clear hw hbt e
        go_wp2
        go_quiet ((go_at_call 89; exact Calls.quiet_of (pnext b s _ _ (HA.out.drewN _) hi')))
        go_wp2_with fail
        refine (pfail b s _ i _ _ _ rfl (HA.out.drewN _)).mono ?_
        rintro e w1 ⟨rfl, a1, r1⟩
        go_wp2
        go_ret
        right
        exact ⟨i, HW2.out.symm, rfl, a1, (HR.out.drewN _).trans r1⟩
    · have n1 : ¬ (k : Int) < (t.size : Int) := by omega
      have hw := HW.out
      rw [show k = t.size by omega, bts_end, wordF] at hw
      have HW2 := hide' hw
      clear hw
      go_wp2
      go_ret
      left
      exact ⟨i, HW2.out.symm, rfl, HA.out, HR.out, hi'⟩
end Go.Proofs.YtjngjnkecnnmeaaDoor

namespace Go.Proofs.YtjngjnkecnnmeaaDoor
open Go.RowKit
set_option linter.unusedVariables false

def sideB (n : Int) : Bool := decide (0 ≤ n) && decide (n ≤ 100)
theorem pisSide (n : Int) (w : World) :
    Calls Tryd.prog 70 #[.int .i64 n] w fun e w' => e = .returned (.bool (sideB n)) ∧ w' = w := by
  by_cases h1 : 0 ≤ n
  · by_cases h2 : n ≤ 100
    · rw [show sideB n = true by unfold sideB; simp; omega]
      go_enter Tryd.func70, Tryd.ntmps70
      go_wp2
      go_ret
      exact ⟨rfl, rfl⟩
    · rw [show sideB n = false by unfold sideB; simp; omega]
      go_enter Tryd.func70, Tryd.ntmps70
      go_wp2
      go_ret
      exact ⟨rfl, rfl⟩
  · rw [show sideB n = false by unfold sideB; simp; omega]
    go_enter Tryd.func70, Tryd.ntmps70
    go_wp2
    go_ret
    exact ⟨rfl, rfl⟩

def SidePost (b : Nat) (s : ByteArray) (r : Rv) (ws : List Nat) (w : World) (e : Ending) (w' : World) : Prop :=
  (∃ n j, sideS s ws r.i = .inl (n, j) ∧ e = .returned (.tuple #[.int .i64 (n : Int), .bool true]) ∧ RAt b s { r with i := j } w' ∧ Rd b w w' ∧ j ≤ s.size ∧ n ≤ 100) ∨
  (∃ (a f : Nat) (m : Int), sideS s ws r.i = .inr (a, f) ∧ e = .returned (.tuple #[.int .i64 m, .bool false]) ∧ RAt b s { r with i := a, fl := f } w' ∧ Rd b w w')

set_option maxHeartbeats 1600000 in
theorem pside (b : Nat) (s t : ByteArray) (r : Rv) (w : World) (h : RAt b s r w) (hi : r.i ≤ s.size) (hs : s.size ≤ 40000) (ht : t.size ≤ 100) (hz : ∀ k, k < t.size → 0 < bt t k) :
    Calls Tryd.prog 129 #[.pointer (some ⟨b, 0, none⟩), .string t] w (SidePost b s r (bts t) w) := by
  have H := hide' h
  have HZ := hide' hz
  clear h hz
  go_enter Tryd.func129, Tryd.ntmps129
  go_wp2_with fail
  refine (pexpect b s t r _ H.out hi hs ht HZ.out).mono ?_
  rintro e w1 (⟨j, hw, rfl, a1, r1, hj⟩ | ⟨j, hw, rfl, a1, r1⟩)
  · have A1 := hide' a1
    have R1 := hide' r1
    have HW := hide' hw
    have c1 := a1.ten.c1
    dsimp only at c1
    clear a1 r1 hw
    go_wp2_with fail
    refine (pnumber b s _ _ A1.out hj hs).mono ?_
    rintro e w2 (⟨hn, rfl, a2, r2, hj2⟩ | ⟨hn, rfl, a2, r2⟩)
    · have A2 := hide' a2
      have R2 := hide' r2
      have HN := hide' hn
      dsimp only at hn hj2
      clear a2 r2 hn
      by_cases q : (num s j).1 ≤ 100
      · have hq : sideB ((num s j).1 : Int) = true := by unfold sideB; simp; omega
        go_wp2_with fail
        refine (pisSide _ _).mono ?_
        rw [hq]
        rintro e w3 ⟨rfl, rfl⟩
        go_wp2
        go_ret2
        left
        refine ⟨(num s j).1, (num s j).2, ?_, rfl, A2.out, R1.out.trans R2.out, hj2, q⟩
        unfold sideS
        rw [HW.out]
        have hn : numSix s j = true := HN.out
        simp only [hn]
        rw [if_neg (by simp), if_neg (by omega)]
      · have hq : sideB ((num s j).1 : Int) = false := by unfold sideB; simp; omega
        go_wp2_with fail
        refine (pisSide _ _).mono ?_
        rw [hq]
        rintro e w3 ⟨rfl, rfl⟩
        go_wp2_with fail
        refine (pfail b s _ j _ _ _ rfl A2.out).mono ?_
        rintro e w4 ⟨rfl, a4, r4⟩
        go_wp2
        go_ret2
        right
        refine ⟨j, 1, _, ?_, rfl, a4, (R1.out.trans R2.out).trans r4⟩
        unfold sideS
        rw [HW.out]
        have hn : numSix s j = true := HN.out
        simp only [hn]
        rw [if_neg (by simp), if_pos (by omega)]
    · have R2 := hide' r2
      have A2 := hide' a2
      have HN := hide' hn
      clear r2 a2 hn
      go_wp2
      go_ret2
      right
      refine ⟨j, 2, _, ?_, rfl, A2.out, R1.out.trans R2.out⟩
      unfold sideS
      rw [HW.out]
      have hn : numSix s j = false := HN.out
      simp only [hn]
      rw [if_pos (by simp)]
  · have A1 := hide' a1
    have R1 := hide' r1
    have HW := hide' hw
    clear a1 r1 hw
    go_wp2
    go_ret2
    right
    exact ⟨j, 2, _, by unfold sideS; rw [HW.out], rfl, A1.out, R1.out⟩

/-- At block g these ints, writable. -/
structure Cel (w : World) (g : Nat) (xs : List Int) : Prop where
  lt : g < w.heap.size
  cells : ∀ k, k < xs.length → w.cell? ⟨g, k, none⟩ = some (.int .i64 (xs.getD k 0))
  fz : ∀ k, w.frozen? ⟨g, k, none⟩ = false
theorem Cel.block {w w' : World} {g : Nat} {xs : List Int} (h : Cel w g xs) (hs : w.heap.size ≤ w'.heap.size) (e : w'.heap[g]? = w.heap[g]?) : Cel w' g xs :=
  ⟨Nat.lt_of_lt_of_le h.lt hs, fun k hk => (World.cell?_of_block (w := w) (a := ⟨g, k, none⟩) e).trans (h.cells k hk), fun k => (World.frozen?_of_block (w := w) (a := ⟨g, k, none⟩) e).trans (h.fz k)⟩
theorem Cel.rd {w w' : World} {g b : Nat} {xs : List Int} (h : Cel w g xs) (hr : Rd b w w') (hb : g ≠ b) : Cel w' g xs := h.block hr.size (hr.block g h.lt hb)
theorem Cel.below {w w' : World} {g : Nat} {xs : List Int} (h : Cel w g xs) (hb : Below w.heap.size w w') : Cel w' g xs := h.block hb.size (hb.block g h.lt)
theorem Cel.set {w : World} {g : Nat} {xs : List Int} (h : Cel w g xs) (p : Nat) (x : Int) (hp : p < xs.length) : Cel (w.setCell ⟨g, p, none⟩ (.int .i64 x)) g (xs.set p x) := by
  refine ⟨by rw [World.size_setCell]; exact h.lt, fun k hk => ?_, fun k => by rw [World.frozen?_setCell]; exact h.fz k⟩
  rw [List.length_set] at hk
  by_cases e : k = p
  · subst e
    rw [show (xs.set k x).getD k 0 = x by simp [List.getD, hk]]
    exact World.cell?_setCell_same (w := w) (a := ⟨g, k, none⟩) (v := _) (h := h.cells k hk)
  · rw [show (xs.set p x).getD k 0 = xs.getD k 0 by simp [List.getD, Ne.symm e]]
    exact (World.cell?_setCell_other (w := w) (a := ⟨g, p, none⟩) (b := ⟨g, k, none⟩) (v := _) (h := fun q => e (congrArg Addr.off q).symm)).trans (h.cells k hk)

set_option maxHeartbeats 800000 in
theorem pblank (W H : Nat) (w : World) (hW : W ≤ 100) (hH : H ≤ 100) :
    Calls Tryd.prog 123 #[.int .i64 (W : Int), .int .i64 (H : Int)] w fun e w' => ∃ g, e = .returned (.agg #[.int .i64 (W : Int), .int .i64 (H : Int), .slice (some ⟨g, 0, none⟩) (W * H) (W * H)]) ∧ w.heap.size ≤ g ∧ Cel w' g (List.replicate (W * H) 0) ∧ Below w.heap.size w w' := by
  have hn : W * H ≤ 10000 := Nat.mul_le_mul hW hH
  have hc : (W : Int) * (H : Int) = ((W * H : Nat) : Int) := by simp
  have hmk := run_make_row' (P := Tryd.prog) 22 3 (.int .i64 0) 8 Tryd.underlying22 info_int rfl .i64 .i64 (W * H) (by omega) (by omega)
  obtain ⟨N, hN⟩ : ∃ N, W * H = N := ⟨_, rfl⟩
  rw [hN] at hn hc hmk ⊢
  clear hN
  go_enter Tryd.func123, Tryd.ntmps123
  go_wp2
  refine bodyPost_ret (v := .agg #[.int .i64 (W : Int), .int .i64 (H : Int), .slice (some ⟨w.heap.size + 1, 0, none⟩) N N]) (by simp [results, Tryd.results123, go_sem]) rfl ?_
  refine ⟨w.heap.size + 1, rfl, by omega, ⟨by simp, fun k hk => ?_, fun k => ?_⟩, ((Below.refl _ _).alloc (Nat.le_refl _) _).alloc (by simp) _⟩
  · rw [World.cell?_alloc_at _ _ _ _ (by simp)]
    rw [List.length_replicate] at hk
    rw [show (List.replicate N (0 : Int)).getD k 0 = 0 by simp [List.getD, hk]]
    rw [← Array.getElem?_toList, toList_madeCells_one]
    simp [hk]
  · simp
end Go.Proofs.YtjngjnkecnnmeaaDoor

namespace Go.Proofs.YtjngjnkecnnmeaaDoor
open Go.RowKit
set_option linter.unusedVariables false

theorem Cel.tab {w : World} {g n : Nat} {xs : List Int} (h : Cel w g xs) (hn : xs.length = n) : Tab w (.slice (some ⟨g, 0, none⟩) n n) xs := by
  subst hn
  exact Or.inr ⟨g, xs.length, rfl, h.lt, fun k hk => by rw [h.cells k hk]; simp [List.getD, hk]⟩

set_option maxHeartbeats 1600000 in
theorem Alike_same (W H : Int) (va vb : Value) (xs : List Int) (w : World) (ha : Tab w va xs) (hb : Tab w vb xs) (hm : xs.length ≤ maxLen) :
    Calls Tryd.prog 33 #[.agg #[.int .i64 W, .int .i64 H, va], .agg #[.int .i64 W, .int .i64 H, vb]] w fun e w' => e = .returned (.bool true) ∧ Below w.heap.size w w' := by
  have TA := hide' (show Tab ((w.alloc (.cells #[.int .i64 W, .int .i64 H, va] 51)).alloc (.cells #[.int .i64 W, .int .i64 H, vb] 51)) va xs from (ha.alloc' _).alloc' _)
  have TB := hide' (show Tab ((w.alloc (.cells #[.int .i64 W, .int .i64 H, va] 51)).alloc (.cells #[.int .i64 W, .int .i64 H, vb] 51)) vb xs from (hb.alloc' _).alloc' _)
  obtain ⟨a, ca, rfl, -⟩ := ha.parts
  obtain ⟨b, cb, rfl, -⟩ := hb.parts
  go_enter Tryd.func33, Tryd.ntmps33
  go_wp2_with fail
  refine (Ints_same xs _ _ _ TA.out TB.out hm).mono ?_
  rintro e w1 ⟨rfl, m, rfl⟩
  go_wp2
  go_ret
  exact ⟨rfl, below_drewN (((Below.refl _ _).alloc (Nat.le_refl _) _).alloc (by simp) _) m⟩
end Go.Proofs.YtjngjnkecnnmeaaDoor

