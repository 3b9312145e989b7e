/-
  What the last text of this claim leans on, part 1: Spec, Rd.
-/
import Derived.Test.YtjngjnkecnnmeaaDoorProg
import Derived.WalkKit
import Derived.WalkSpells
import Derived.WalkLawsBesides
import Derived.Deep.QuietTactic
import Derived.BigQuiet
namespace Go.Proofs.YtjngjnkecnnmeaaDoor

/-- Does a byte from lo to hi stand at i? -/
def inR (s : ByteArray) (i : Nat) (lo hi : Int) : Bool := if h : i < s.size then decide (lo ≤ (s[i].toNat : Int)) && decide ((s[i].toNat : Int) ≤ hi) else false

/-- The byte at i, 0 behind the end. -/
def bt (s : ByteArray) (i : Nat) : Nat := if h : i < s.size then s[i].toNat else 0

theorem bt_lt (s : ByteArray) (i : Nat) (h : i < s.size) : s[i].toNat = bt s i := by simp [bt, h]
theorem bt_le (s : ByteArray) (i : Nat) : bt s i ≤ 255 := by
  unfold bt
  split
  · have := (s[i]).toNat_lt; omega
  · omega
theorem inR_true {s : ByteArray} {i : Nat} {lo hi : Int} : inR s i lo hi = true ↔ i < s.size ∧ lo ≤ (bt s i : Int) ∧ (bt s i : Int) ≤ hi := by
  unfold inR bt
  by_cases h : i < s.size <;> simp [h]
theorem inR_false {s : ByteArray} {i : Nat} {lo hi : Int} : inR s i lo hi = false ↔ ¬ (i < s.size ∧ lo ≤ (bt s i : Int) ∧ (bt s i : Int) ≤ hi) := by
  rw [← inR_true]; cases inR s i lo hi <;> simp

/-- Digits that rise, as bits, and where they end. -/
def risF (s : ByteArray) : Nat → Nat → Nat → Nat → Nat × Nat
  | 0, i, _, acc => (acc, i)
  | f + 1, i, low, acc => if inR s i low 56 then risF s f (i + 1) (bt s i + 1) (acc + 2 ^ (bt s i - 48)) else (acc, i)
def ris (s : ByteArray) (i : Nat) : Nat × Nat := risF s (s.size - i) i 48 0

theorem risF_step {s : ByteArray} {i low acc : Nat} (h : inR s i low 56 = true) :
    risF s (s.size - i) i low acc = risF s (s.size - (i + 1)) (i + 1) (bt s i + 1) (acc + 2 ^ (bt s i - 48)) := by
  have hl := (inR_true.1 h).1
  rw [show s.size - i = (s.size - (i + 1)) + 1 by omega]
  simp [risF, h]
theorem risF_stop {s : ByteArray} {i low acc : Nat} (h : inR s i low 56 = false) : risF s (s.size - i) i low acc = (acc, i) := by
  cases s.size - i <;> simp [risF, h]

/-- Digits from i on as one number (added to what there was), and where they end. -/
def numF (s : ByteArray) : Nat → Nat → Nat → Nat × Nat
  | 0, i, v => (v, i)
  | f + 1, i, v => if inR s i 48 57 then numF s f (i + 1) (v * 10 + (bt s i - 48)) else (v, i)
def num (s : ByteArray) (i : Nat) : Nat × Nat := numF s (s.size - i) i 0

theorem numF_step {s : ByteArray} {i v : Nat} (h : inR s i 48 57 = true) :
    numF s (s.size - i) i v = numF s (s.size - (i + 1)) (i + 1) (v * 10 + (bt s i - 48)) := by
  have hl := (inR_true.1 h).1
  rw [show s.size - i = (s.size - (i + 1)) + 1 by omega]
  simp [numF, h]
theorem numF_stop {s : ByteArray} {i v : Nat} (h : inR s i 48 57 = false) : numF s (s.size - i) i v = (v, i) := by
  cases s.size - i <;> simp [numF, h]

/-- Is what stands at i a number from least to most, without a needless 0? -/
def numOk (s : ByteArray) (i least most : Nat) : Bool :=
  !(decide ((num s i).2 = i) || (decide (1 < (num s i).2 - i) && decide (bt s i = 48)) || decide ((num s i).1 < least) || decide (most < (num s i).1))

/-- A rule, as plain data. -/
structure Out where
  kind : Int
  born : Int
  stay : Int
  states : Int
  radius : Int
  table : List Int
  turns : ByteArray

/-- Of the digits of a table how many stand there, from i on. -/
def tabF (s : ByteArray) (hi : Int) : Nat → Nat → Nat
  | 0, _ => 0
  | f + 1, i => if inR s i 48 hi then tabF s hi f (i + 1) + 1 else 0

def lifeS (s : ByteArray) : (Out × Nat) ⊕ Nat :=
  if !inR s (ris s 1).2 47 47 then .inr (ris s 1).2
  else if !inR s ((ris s 1).2 + 1) 83 83 then .inr ((ris s 1).2 + 1)
  else .inl (⟨1, (ris s 1).1, (ris s ((ris s 1).2 + 2)).1, 0, 0, [], ⟨#[]⟩⟩, (ris s ((ris s 1).2 + 2)).2)

def bitOf (n i : Nat) : Int := ((n / 2 ^ i % 2 : Nat) : Int)

def numberedS (s : ByteArray) : (Out × Nat) ⊕ Nat :=
  if !numOk s 1 0 255 then .inr 1
  else .inl (⟨2, 0, 0, 2, 1, (List.range 8).map (bitOf (num s 1).1), ⟨#[]⟩⟩, (num s 1).2)

def entries (n m : Nat) : Nat := n ^ (2 * m + 1)

/-- The table of n states and radius m, from behind the blank at j. -/
def tabEnd (s : ByteArray) (n m j : Nat) : (Out × Nat) ⊕ Nat :=
  if tabF s (48 + n - 1) (entries n m) (j + 1) < entries n m then .inr (j + 1 + tabF s (48 + n - 1) (entries n m) (j + 1))
  else .inl (⟨2, 0, 0, n, m, (List.range (entries n m)).map (fun y => (bt s (j + 1 + y) : Int) - 48), ⟨#[]⟩⟩, j + 1 + entries n m)

def tabledS (s : ByteArray) : (Out × Nat) ⊕ Nat :=
  if !inR s 1 32 32 then .inr 1
  else if !numOk s 2 2 4 then .inr 2
  else if !inR s (num s 2).2 32 32 then .inr (num s 2).2
  else if !numOk s ((num s 2).2 + 1) 0 2 then .inr ((num s 2).2 + 1)
  else if !inR s (num s ((num s 2).2 + 1)).2 32 32 then .inr (num s ((num s 2).2 + 1)).2
  else tabEnd s (num s 2).1 (num s ((num s 2).2 + 1)).1 (num s ((num s 2).2 + 1)).2

/-- Signs from i on, at most so many. -/
def turnF (s : ByteArray) : Nat → Nat → Nat
  | 0, i => i
  | f + 1, i => if i < s.size ∧ (bt s i = 76 ∨ bt s i = 82) then turnF s f (i + 1) else i

def antS (s : ByteArray) : (Out × Nat) ⊕ Nat :=
  if !inR s 1 32 32 then .inr 1
  else if turnF s 26 2 = 2 then .inr 2
  else .inl (⟨3, 0, 0, 0, 0, [], s.extract 2 (turnF s 26 2)⟩, turnF s 26 2)

def kindS (s : ByteArray) : (Out × Nat) ⊕ Nat :=
  if s.size = 0 then .inr 0
  else if bt s 0 = 66 then lifeS s
  else if bt s 0 = 87 then numberedS s
  else if bt s 0 = 76 then tabledS s
  else if bt s 0 = 84 then antS s
  else .inr 0

def parseS (s : ByteArray) : Out ⊕ Nat :=
  match kindS s with
  | .inr a => .inr a
  | .inl (o, p) => if p = s.size then .inl o else .inr p

end Go.Proofs.YtjngjnkecnnmeaaDoor

namespace Go.Proofs.YtjngjnkecnnmeaaDoor
open Go.RowKit

/-- The reader at block b: its text s, its place i. -/
structure At (b : Nat) (s : ByteArray) (i : Nat) (w : World) : Prop where
  txt : w.cell? ⟨b, 0, none⟩ = some (.string s)
  pos : w.cell? ⟨b, 1, none⟩ = some (.int .i64 (i : Int))
  fz0 : w.frozen? ⟨b, 0, none⟩ = false
  fz1 : w.frozen? ⟨b, 1, none⟩ = false

/-- Of what was there, block b alone may have turned. -/
structure Rd (b : Nat) (w w' : World) : Prop where
  os : w'.os = w.os
  tape : w'.tape = w.tape
  output : w'.output = w.output
  size : w.heap.size ≤ w'.heap.size
  block : ∀ k, k < w.heap.size → k ≠ b → w'.heap[k]? = w.heap[k]?

theorem Rd.refl (b : Nat) (w : World) : Rd b w w := ⟨rfl, rfl, rfl, Nat.le_refl _, fun _ _ _ => rfl⟩
theorem Rd.trans {b : Nat} {a c d : World} (h : Rd b a c) (k : Rd b c d) : Rd b a d :=
  ⟨k.os.trans h.os, k.tape.trans h.tape, k.output.trans h.output, Nat.le_trans h.size k.size, fun i hi hb => (k.block i (Nat.lt_of_lt_of_le hi h.size) hb).trans (h.block i hi hb)⟩
theorem Rd.drewN {b : Nat} {a w : World} (h : Rd b a w) (n : Nat) : Rd b a (w.drewN n) := h.trans ⟨rfl, rfl, rfl, Nat.le_refl _, fun _ _ _ => rfl⟩
theorem Rd.drew {b : Nat} {a w : World} (h : Rd b a w) : Rd b a w.drew := h.trans ⟨rfl, rfl, rfl, Nat.le_refl _, fun _ _ _ => rfl⟩
theorem Rd.alloc {b : Nat} {a w : World} (h : Rd b a w) (o : Obj) : Rd b a (w.alloc o) :=
  h.trans ⟨rfl, rfl, rfl, by simp, fun k hk _ => Below.heap_alloc _ _ _ hk⟩
/-- A store into the reader. -/
theorem Rd.set {b : Nat} {a w : World} (h : Rd b a w) (o : Nat) (u : Value) : Rd b a (w.setCell ⟨b, o, none⟩ u) :=
  h.trans ⟨rfl, rfl, rfl, by simp [World.setCell], fun k _ hk => Below.heap_setCell _ _ _ _ hk⟩
/-- A store into a new block. -/
theorem Rd.setNew {b : Nat} {a w : World} (h : Rd b a w) {p : Addr} (hp : a.heap.size ≤ p.block) (u : Value) : Rd b a (w.setCell p u) := by
  refine ⟨h.os, h.tape, h.output, ?_, fun k hk hb => ?_⟩
  · have := h.size; simp [World.setCell]; exact this
  · rw [Below.heap_setCell _ _ _ _ (by omega)]; exact h.block k hk hb
theorem Rd.below {b B : Nat} {w w' : World} (h : Rd b w w') (hB : B ≤ b) (hs : B ≤ w.heap.size) : Below B w w' :=
  ⟨h.os, h.tape, h.output, h.size, fun k hk => h.block k (by omega) (by omega)⟩
theorem Rd.cell {b : Nat} {w w' : World} (h : Rd b w w') : ∀ k o, k < w.heap.size → k ≠ b → w'.cell? ⟨k, o, none⟩ = w.cell? ⟨k, o, none⟩ :=
  fun k _ hk hb => World.cell?_of_block (w := w) (h.block k hk hb)
theorem Rd.frozen {b : Nat} {w w' : World} (h : Rd b w w') : ∀ k o, k < w.heap.size → k ≠ b → w'.frozen? ⟨k, o, none⟩ = w.frozen? ⟨k, o, none⟩ :=
  fun k _ hk hb => World.frozen?_of_block (w := w) (h.block k hk hb)

theorem At.lt {b : Nat} {s : ByteArray} {i : Nat} {w : World} (h : At b s i w) : b < w.heap.size := by
  rcases Nat.lt_or_ge b w.heap.size with k | k
  · exact k
  · have := h.txt; simp [World.cell?, Array.getElem?_eq_none k] at this
theorem At.drewN {b : Nat} {s : ByteArray} {i : Nat} {w : World} (h : At b s i w) (n : Nat) : At b s i (w.drewN n) := ⟨h.txt, h.pos, h.fz0, h.fz1⟩
theorem At.alloc {b : Nat} {s : ByteArray} {i : Nat} {w : World} (h : At b s i w) (o : Obj) : At b s i (w.alloc o) := by
  have hl := h.lt
  have e : (w.alloc o).heap[b]? = w.heap[b]? := Below.heap_alloc _ _ _ hl
  exact ⟨(World.cell?_of_block (w := w) (a := ⟨b, 0, none⟩) e).trans h.txt, (World.cell?_of_block (w := w) (a := ⟨b, 1, none⟩) e).trans h.pos,
    (World.frozen?_of_block (w := w) (a := ⟨b, 0, none⟩) e).trans h.fz0, (World.frozen?_of_block (w := w) (a := ⟨b, 1, none⟩) e).trans h.fz1⟩
theorem At.setOther {b : Nat} {s : ByteArray} {i : Nat} {w : World} (h : At b s i w) {p : Addr} (hp : b ≠ p.block) (u : Value) : At b s i (w.setCell p u) := by
  have e : (w.setCell p u).heap[b]? = w.heap[b]? := Below.heap_setCell _ _ _ _ hp
  exact ⟨(World.cell?_of_block (w := w) (a := ⟨b, 0, none⟩) e).trans h.txt, (World.cell?_of_block (w := w) (a := ⟨b, 1, none⟩) e).trans h.pos,
    (World.frozen?_of_block (w := w) (a := ⟨b, 0, none⟩) e).trans h.fz0, (World.frozen?_of_block (w := w) (a := ⟨b, 1, none⟩) e).trans h.fz1⟩
theorem At.go {b : Nat} {s : ByteArray} {i : Nat} {w : World} (h : At b s i w) (j : Nat) : At b s j (w.setCell ⟨b, 1, none⟩ (.int .i64 (j : Int))) := by
  refine ⟨?_, ?_, ?_, ?_⟩
  · exact (World.cell?_setCell_other (w := w) (a := ⟨b, 1, none⟩) (b := ⟨b, 0, none⟩) (v := _) (h := by simp)).trans h.txt
  · exact World.cell?_setCell_same (w := w) (a := ⟨b, 1, none⟩) (v := _) (h := h.pos)
  · rw [World.frozen?_setCell]; exact h.fz0
  · rw [World.frozen?_setCell]; exact h.fz1

def oops : List PanicEntry := [{ v := .iface 87 (.int .i64 2), recovered := false }]

theorem ended_any (b : Nat) (s : ByteArray) (i : Nat) (w : World) (h : At b s i w) :
    Calls Tryd.prog 107 #[.pointer (some ⟨b, 0, none⟩)] w fun e w' => e = .returned (.bool ((i : Int) == (s.size : Int))) ∧ ∃ n, w' = w.drewN n := by
  obtain ⟨h0, h1, -, -⟩ := h
  go_enter Tryd.func107, Tryd.ntmps107
  go_wp2
  go_quiet (fail)
  go_wp2
  go_ret
  exact ⟨rfl, nq, rfl⟩

theorem ended_no (b : Nat) (s : ByteArray) (i : Nat) (w : World) (h : At b s i w) (hi : i < s.size) :
    Calls Tryd.prog 107 #[.pointer (some ⟨b, 0, none⟩)] w fun e w' => e = .returned (.bool false) ∧ ∃ n, w' = w.drewN n := by
  refine (ended_any b s i w h).mono fun e w' ⟨he, hw⟩ => ⟨?_, hw⟩
  rw [he, show ((i : Int) == (s.size : Int)) = false by simp; omega]
theorem ended_yes (b : Nat) (s : ByteArray) (i : Nat) (w : World) (h : At b s i w) (hi : i = s.size) :
    Calls Tryd.prog 107 #[.pointer (some ⟨b, 0, none⟩)] w fun e w' => e = .returned (.bool true) ∧ ∃ n, w' = w.drewN n := by
  refine (ended_any b s i w h).mono fun e w' ⟨he, hw⟩ => ⟨?_, hw⟩
  rw [he, show ((i : Int) == (s.size : Int)) = true by simp; omega]

theorem fail_any (b : Nat) (s : ByteArray) (i j : Nat) (w : World) (h : At b s i w) :
    Calls Tryd.prog 108 #[.pointer (some ⟨b, 0, none⟩), .int .i64 (j : Int)] w fun e w' => e = .panicked oops ∧ At b s j w' ∧ Rd b w w' := by
  have hgo := h.go j
  obtain ⟨h0, h1, f0, f1⟩ := h
  have H : Hid (At b s j (w.setCell ⟨b, 1, none⟩ (.int .i64 (j : Int)))) := hgo
  clear hgo
  go_enter Tryd.func108, Tryd.ntmps108
  go_wp2
  exact ⟨rfl, rfl, H.out, (Rd.refl _ _).set _ _⟩

set_option maxHeartbeats 400000 in
theorem within_yes (b : Nat) (s : ByteArray) (i : Nat) (lo hi : Int) (w : World) (h : At b s i w) (hi' : i < s.size) (hl : lo ≤ (s[i].toNat : Int)) (hh : (s[i].toNat : Int) ≤ hi) :
    Calls Tryd.prog 154 #[.pointer (some ⟨b, 0, none⟩), .int .u8 lo, .int .u8 hi] w fun e w' => e = .returned (.bool true) ∧ ∃ n, w' = w.drewN n := by
  have H : Hid (At b s i w) := h
  obtain ⟨h0, h1, -, -⟩ := h
  go_enter Tryd.func154, Tryd.ntmps154
  go_wp2
  go_quiet ((go_at_call 107; exact Calls.quiet_of (ended_no b s i _ (H.out.drewN _) hi')))
  go_wp2
  go_ret
  exact ⟨rfl, nq, rfl⟩

set_option maxHeartbeats 400000 in
theorem within_end (b : Nat) (s : ByteArray) (i : Nat) (lo hi : Int) (w : World) (h : At b s i w) (hi' : i = s.size) :
    Calls Tryd.prog 154 #[.pointer (some ⟨b, 0, none⟩), .int .u8 lo, .int .u8 hi] w fun e w' => e = .returned (.bool false) ∧ ∃ n, w' = w.drewN n := by
  have H : Hid (At b s i w) := h
  have H' : Hid (i = s.size) := hi'
  clear h hi'
  go_enter Tryd.func154, Tryd.ntmps154
  go_wp2
  go_quiet ((go_at_call 107; exact Calls.quiet_of (ended_yes b s i _ (H.out.drewN _) H'.out)))
  go_wp2
  go_ret
  exact ⟨rfl, nq, rfl⟩

set_option maxHeartbeats 400000 in
theorem within_low (b : Nat) (s : ByteArray) (i : Nat) (lo hi : Int) (w : World) (h : At b s i w) (hi' : i < s.size) (hl : decide (lo ≤ (s[i].toNat : Int)) = false) :
    Calls Tryd.prog 154 #[.pointer (some ⟨b, 0, none⟩), .int .u8 lo, .int .u8 hi] w fun e w' => e = .returned (.bool false) ∧ ∃ n, w' = w.drewN n := by
  have H : Hid (At b s i w) := h
  obtain ⟨h0, h1, -, -⟩ := h
  go_enter Tryd.func154, Tryd.ntmps154
  go_wp2
  go_quiet ((go_at_call 107; exact Calls.quiet_of (ended_no b s i _ (H.out.drewN _) hi')))
  go_wp2
  go_ret
  exact ⟨rfl, nq, rfl⟩

set_option maxHeartbeats 400000 in
theorem within_high (b : Nat) (s : ByteArray) (i : Nat) (lo hi : Int) (w : World) (h : At b s i w) (hi' : i < s.size) (hl : lo ≤ (s[i].toNat : Int)) (hh : decide ((s[i].toNat : Int) ≤ hi) = false) :
    Calls Tryd.prog 154 #[.pointer (some ⟨b, 0, none⟩), .int .u8 lo, .int .u8 hi] w fun e w' => e = .returned (.bool false) ∧ ∃ n, w' = w.drewN n := by
  have H : Hid (At b s i w) := h
  obtain ⟨h0, h1, -, -⟩ := h
  go_enter Tryd.func154, Tryd.ntmps154
  go_wp2
  go_quiet ((go_at_call 107; exact Calls.quiet_of (ended_no b s i _ (H.out.drewN _) hi')))
  go_wp2
  go_ret
  exact ⟨rfl, nq, rfl⟩

theorem within_is (b : Nat) (s : ByteArray) (i : Nat) (lo hi : Int) (w : World) (h : At b s i w) (hi' : i ≤ s.size) :
    Calls Tryd.prog 154 #[.pointer (some ⟨b, 0, none⟩), .int .u8 lo, .int .u8 hi] w fun e w' => e = .returned (.bool (inR s i lo hi)) ∧ ∃ n, w' = w.drewN n := by
  by_cases hlt : i < s.size
  · cases hl : decide (lo ≤ (s[i].toNat : Int)) with
    | false => rw [show inR s i lo hi = false by simp [inR, hlt, hl]]; exact within_low b s i lo hi w h hlt hl
    | true =>
      cases hh : decide ((s[i].toNat : Int) ≤ hi) with
      | false => rw [show inR s i lo hi = false by simp [inR, hlt, hh]]; exact within_high b s i lo hi w h hlt (by simpa using hl) hh
      | true => rw [show inR s i lo hi = true by simp [inR, hlt, hl, hh]]; exact within_yes b s i lo hi w h hlt (by simpa using hl) (by simpa using hh)
  · rw [show inR s i lo hi = false by simp [inR, hlt]]; exact within_end b s i lo hi w h (by omega)

set_option maxHeartbeats 400000 in
theorem take_no (b : Nat) (s : ByteArray) (i : Nat) (lo hi : Int) (w : World) (h : At b s i w) (hi' : i ≤ s.size) (hn : inR s i lo hi = false) :
    Calls Tryd.prog 139 #[.pointer (some ⟨b, 0, none⟩), .int .u8 lo, .int .u8 hi] w fun e w' => e = .panicked oops ∧ At b s i w' ∧ Rd b w w' := by
  have H : Hid (At b s i w) := h
  obtain ⟨h0, h1, f0, f1⟩ := h
  go_enter Tryd.func139, Tryd.ntmps139
  go_wp2_with fail
  refine (within_is b s i lo hi _ H.out hi').mono ?_
  rw [hn]
  rintro e w' ⟨rfl, n, rfl⟩
  go_wp2_with fail
  refine (fail_any b s i i _ (H.out.drewN _)).mono ?_
  rintro e w' ⟨rfl, ha, hr⟩
  go_wp2
  exact ⟨rfl, rfl, ha, (Rd.drewN (Rd.refl _ _) _).trans hr⟩

set_option maxHeartbeats 400000 in
theorem take_yes (b : Nat) (s : ByteArray) (i : Nat) (lo hi : Int) (w : World) (h : At b s i w) (hs : s.size ≤ maxLen) (hi' : i < s.size) (hn : inR s i lo hi = true) :
    Calls Tryd.prog 139 #[.pointer (some ⟨b, 0, none⟩), .int .u8 lo, .int .u8 hi] w fun e w' => e = .returned (.int .u8 (s[i].toNat : Int)) ∧ At b s (i + 1) w' ∧ Rd b w w' := by
  have H : Hid (At b s i w) := h
  have hgo := h.go (i + 1)
  have G : Hid (At b s (i + 1) (w.setCell ⟨b, 1, none⟩ (.int .i64 ((i + 1 : Nat) : Int)))) := hgo
  have g0 := hgo.txt
  have g1 := hgo.pos
  rw [show ((i + 1 : Nat) : Int) = (i : Int) + 1 by omega] at g0 g1
  clear hgo
  obtain ⟨h0, h1, f0, f1⟩ := h
  unfold maxLen at hs
  go_enter Tryd.func139, Tryd.ntmps139
  go_wp2_with fail
  refine (within_is b s i lo hi _ H.out (Nat.le_of_lt hi')).mono ?_
  rw [hn]
  rintro e w' ⟨rfl, n, rfl⟩
  go_wp2
  go_quiet (fail)
  go_wp2
  go_ret
  rw [show (i : Int) + 1 = ((i + 1 : Nat) : Int) by omega]
  exact ⟨rfl, ((H.out.drewN n).go (i + 1)).drewN nq, (((Rd.refl _ _).drewN n).set _ _).drewN nq⟩

theorem expect_no (b : Nat) (s : ByteArray) (i : Nat) (c : Int) (w : World) (h : At b s i w) (hi' : i ≤ s.size) (hn : inR s i c c = false) :
    Calls Tryd.prog 156 #[.pointer (some ⟨b, 0, none⟩), .int .u8 c] w fun e w' => e = .panicked oops ∧ At b s i w' ∧ Rd b w w' := by
  go_enter Tryd.func156, Tryd.ntmps156
  go_wp2_with fail
  refine (take_no b s i c c _ h hi' hn).mono ?_
  rintro e w' ⟨rfl, ha, hr⟩
  go_wp2
  exact ⟨rfl, rfl, ha, hr⟩
theorem expect_yes (b : Nat) (s : ByteArray) (i : Nat) (c : Int) (w : World) (h : At b s i w) (hs : s.size ≤ maxLen) (hn : inR s i c c = true) :
    Calls Tryd.prog 156 #[.pointer (some ⟨b, 0, none⟩), .int .u8 c] w fun e w' => e = .returned (.tuple #[]) ∧ At b s (i + 1) w' ∧ Rd b w w' := by
  go_enter Tryd.func156, Tryd.ntmps156
  go_wp2_with fail
  refine (take_yes b s i c c _ h hs (inR_true.1 hn).1 hn).mono ?_
  rintro e w' ⟨rfl, ha, hr⟩
  go_wp2
  go_end0
  exact ⟨rfl, ha, hr⟩
end Go.Proofs.YtjngjnkecnnmeaaDoor

