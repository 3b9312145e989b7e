/-
  What the last text of this claim leans on, part 2: Rd, Rb, Rn.
-/
import Derived.Test.YtljdidimoagnhaaDoorProg
import Derived.Test.YtljdidimoagnhaaDoorJv1
import Derived.WalkKit
import Derived.WalkSpells
import Derived.WalkLawsBesides
import Derived.Deep.QuietTactic
import Derived.BigQuiet
import Derived.Laws.BitsAllLaws
namespace Go.Proofs.YtljdidimoagnhaaDoor
open Go.RowKit

/-- The reader at block b: its text s, its place i. -/
structure At (b : Nat) (s : ByteArray) (i : Nat) (w : World) : Prop where
  txt : w.cell? ⟨b, 0, none⟩ = some (.string s)
  pos : w.cell? ⟨b, 1, none⟩ = some (.int .i64 (i : Int))
  fz0 : w.frozen? ⟨b, 0, none⟩ = false
  fz1 : w.frozen? ⟨b, 1, none⟩ = false

/-- Of what was there, block b alone may have turned. -/
structure Rd (b : Nat) (w w' : World) : Prop where
  os : w'.os = w.os
  tape : w'.tape = w.tape
  output : w'.output = w.output
  size : w.heap.size ≤ w'.heap.size
  block : ∀ k, k < w.heap.size → k ≠ b → w'.heap[k]? = w.heap[k]?

theorem Rd.refl (b : Nat) (w : World) : Rd b w w := ⟨rfl, rfl, rfl, Nat.le_refl _, fun _ _ _ => rfl⟩
theorem Rd.trans {b : Nat} {a c d : World} (h : Rd b a c) (k : Rd b c d) : Rd b a d :=
  ⟨k.os.trans h.os, k.tape.trans h.tape, k.output.trans h.output, Nat.le_trans h.size k.size, fun i hi hb => (k.block i (Nat.lt_of_lt_of_le hi h.size) hb).trans (h.block i hi hb)⟩
theorem Rd.drewN {b : Nat} {a w : World} (h : Rd b a w) (n : Nat) : Rd b a (w.drewN n) := h.trans ⟨rfl, rfl, rfl, Nat.le_refl _, fun _ _ _ => rfl⟩
theorem Rd.drew {b : Nat} {a w : World} (h : Rd b a w) : Rd b a w.drew := h.trans ⟨rfl, rfl, rfl, Nat.le_refl _, fun _ _ _ => rfl⟩
theorem Rd.alloc {b : Nat} {a w : World} (h : Rd b a w) (o : Obj) : Rd b a (w.alloc o) :=
  h.trans ⟨rfl, rfl, rfl, by simp, fun k hk _ => Below.heap_alloc _ _ _ hk⟩
/-- A store into the reader. -/
theorem Rd.set {b : Nat} {a w : World} (h : Rd b a w) (o : Nat) (u : Value) : Rd b a (w.setCell ⟨b, o, none⟩ u) :=
  h.trans ⟨rfl, rfl, rfl, by simp [World.setCell], fun k _ hk => Below.heap_setCell _ _ _ _ hk⟩
/-- A store into a new block. -/
theorem Rd.setNew {b : Nat} {a w : World} (h : Rd b a w) {p : Addr} (hp : a.heap.size ≤ p.block) (u : Value) : Rd b a (w.setCell p u) := by
  refine ⟨h.os, h.tape, h.output, ?_, fun k hk hb => ?_⟩
  · have := h.size; simp [World.setCell]; exact this
  · rw [Below.heap_setCell _ _ _ _ (by omega)]; exact h.block k hk hb
theorem Rd.below {b B : Nat} {w w' : World} (h : Rd b w w') (hB : B ≤ b) (hs : B ≤ w.heap.size) : Below B w w' :=
  ⟨h.os, h.tape, h.output, h.size, fun k hk => h.block k (by omega) (by omega)⟩
theorem Rd.cell {b : Nat} {w w' : World} (h : Rd b w w') : ∀ k o, k < w.heap.size → k ≠ b → w'.cell? ⟨k, o, none⟩ = w.cell? ⟨k, o, none⟩ :=
  fun k _ hk hb => World.cell?_of_block (w := w) (h.block k hk hb)
theorem Rd.frozen {b : Nat} {w w' : World} (h : Rd b w w') : ∀ k o, k < w.heap.size → k ≠ b → w'.frozen? ⟨k, o, none⟩ = w.frozen? ⟨k, o, none⟩ :=
  fun k _ hk hb => World.frozen?_of_block (w := w) (h.block k hk hb)

theorem At.lt {b : Nat} {s : ByteArray} {i : Nat} {w : World} (h : At b s i w) : b < w.heap.size := by
  rcases Nat.lt_or_ge b w.heap.size with k | k
  · exact k
  · have := h.txt; simp [World.cell?, Array.getElem?_eq_none k] at this
theorem At.drewN {b : Nat} {s : ByteArray} {i : Nat} {w : World} (h : At b s i w) (n : Nat) : At b s i (w.drewN n) := ⟨h.txt, h.pos, h.fz0, h.fz1⟩
theorem At.alloc {b : Nat} {s : ByteArray} {i : Nat} {w : World} (h : At b s i w) (o : Obj) : At b s i (w.alloc o) := by
  have hl := h.lt
  have e : (w.alloc o).heap[b]? = w.heap[b]? := Below.heap_alloc _ _ _ hl
  exact ⟨(World.cell?_of_block (w := w) (a := ⟨b, 0, none⟩) e).trans h.txt, (World.cell?_of_block (w := w) (a := ⟨b, 1, none⟩) e).trans h.pos,
    (World.frozen?_of_block (w := w) (a := ⟨b, 0, none⟩) e).trans h.fz0, (World.frozen?_of_block (w := w) (a := ⟨b, 1, none⟩) e).trans h.fz1⟩
theorem At.setOther {b : Nat} {s : ByteArray} {i : Nat} {w : World} (h : At b s i w) {p : Addr} (hp : b ≠ p.block) (u : Value) : At b s i (w.setCell p u) := by
  have e : (w.setCell p u).heap[b]? = w.heap[b]? := Below.heap_setCell _ _ _ _ hp
  exact ⟨(World.cell?_of_block (w := w) (a := ⟨b, 0, none⟩) e).trans h.txt, (World.cell?_of_block (w := w) (a := ⟨b, 1, none⟩) e).trans h.pos,
    (World.frozen?_of_block (w := w) (a := ⟨b, 0, none⟩) e).trans h.fz0, (World.frozen?_of_block (w := w) (a := ⟨b, 1, none⟩) e).trans h.fz1⟩
theorem At.go {b : Nat} {s : ByteArray} {i : Nat} {w : World} (h : At b s i w) (j : Nat) : At b s j (w.setCell ⟨b, 1, none⟩ (.int .i64 (j : Int))) := by
  refine ⟨?_, ?_, ?_, ?_⟩
  · exact (World.cell?_setCell_other (w := w) (a := ⟨b, 1, none⟩) (b := ⟨b, 0, none⟩) (v := _) (h := by simp)).trans h.txt
  · exact World.cell?_setCell_same (w := w) (a := ⟨b, 1, none⟩) (v := _) (h := h.pos)
  · rw [World.frozen?_setCell]; exact h.fz0
  · rw [World.frozen?_setCell]; exact h.fz1

def oops : List PanicEntry := [{ v := .iface 97 (.int .i64 2), recovered := false }]

theorem ended_any (b : Nat) (s : ByteArray) (i : Nat) (w : World) (h : At b s i w) :
    Calls Tryd.prog 137 #[.pointer (some ⟨b, 0, none⟩)] w fun e w' => e = .returned (.bool ((i : Int) == (s.size : Int))) ∧ ∃ n, w' = w.drewN n := by
  obtain ⟨h0, h1, -, -⟩ := h
  go_enter Tryd.func137, Tryd.ntmps137
  go_wp2
  go_quiet (fail)
  go_wp2
  go_ret
  exact ⟨rfl, nq, rfl⟩

theorem ended_no (b : Nat) (s : ByteArray) (i : Nat) (w : World) (h : At b s i w) (hi : i < s.size) :
    Calls Tryd.prog 137 #[.pointer (some ⟨b, 0, none⟩)] w fun e w' => e = .returned (.bool false) ∧ ∃ n, w' = w.drewN n := by
  refine (ended_any b s i w h).mono fun e w' ⟨he, hw⟩ => ⟨?_, hw⟩
  rw [he, show ((i : Int) == (s.size : Int)) = false by simp; omega]
theorem ended_yes (b : Nat) (s : ByteArray) (i : Nat) (w : World) (h : At b s i w) (hi : i = s.size) :
    Calls Tryd.prog 137 #[.pointer (some ⟨b, 0, none⟩)] w fun e w' => e = .returned (.bool true) ∧ ∃ n, w' = w.drewN n := by
  refine (ended_any b s i w h).mono fun e w' ⟨he, hw⟩ => ⟨?_, hw⟩
  rw [he, show ((i : Int) == (s.size : Int)) = true by simp; omega]

theorem fail_any (b : Nat) (s : ByteArray) (i j : Nat) (w : World) (h : At b s i w) :
    Calls Tryd.prog 138 #[.pointer (some ⟨b, 0, none⟩), .int .i64 (j : Int)] w fun e w' => e = .panicked oops ∧ At b s j w' ∧ Rd b w w' := by
  have hgo := h.go j
  obtain ⟨h0, h1, f0, f1⟩ := h
  have H : Hid (At b s j (w.setCell ⟨b, 1, none⟩ (.int .i64 (j : Int)))) := hgo
  clear hgo
  go_enter Tryd.func138, Tryd.ntmps138
  go_wp2
  exact ⟨rfl, rfl, H.out, (Rd.refl _ _).set _ _⟩

set_option maxHeartbeats 400000 in
theorem within_yes (b : Nat) (s : ByteArray) (i : Nat) (lo hi : Int) (w : World) (h : At b s i w) (hi' : i < s.size) (hl : lo ≤ (s[i].toNat : Int)) (hh : (s[i].toNat : Int) ≤ hi) :
    Calls Tryd.prog 206 #[.pointer (some ⟨b, 0, none⟩), .int .u8 lo, .int .u8 hi] w fun e w' => e = .returned (.bool true) ∧ ∃ n, w' = w.drewN n := by
  have H : Hid (At b s i w) := h
  obtain ⟨h0, h1, -, -⟩ := h
  go_enter Tryd.func206, Tryd.ntmps206
  go_wp2
  go_quiet ((go_at_call 137; exact Calls.quiet_of (ended_no b s i _ (H.out.drewN _) hi')))
  go_wp2
  go_ret
  exact ⟨rfl, nq, rfl⟩

set_option maxHeartbeats 400000 in
theorem within_end (b : Nat) (s : ByteArray) (i : Nat) (lo hi : Int) (w : World) (h : At b s i w) (hi' : i = s.size) :
    Calls Tryd.prog 206 #[.pointer (some ⟨b, 0, none⟩), .int .u8 lo, .int .u8 hi] w fun e w' => e = .returned (.bool false) ∧ ∃ n, w' = w.drewN n := by
  have H : Hid (At b s i w) := h
  have H' : Hid (i = s.size) := hi'
  clear h hi'
  go_enter Tryd.func206, Tryd.ntmps206
  go_wp2
  go_quiet ((go_at_call 137; exact Calls.quiet_of (ended_yes b s i _ (H.out.drewN _) H'.out)))
  go_wp2
  go_ret
  exact ⟨rfl, nq, rfl⟩

set_option maxHeartbeats 400000 in
theorem within_low (b : Nat) (s : ByteArray) (i : Nat) (lo hi : Int) (w : World) (h : At b s i w) (hi' : i < s.size) (hl : decide (lo ≤ (s[i].toNat : Int)) = false) :
    Calls Tryd.prog 206 #[.pointer (some ⟨b, 0, none⟩), .int .u8 lo, .int .u8 hi] w fun e w' => e = .returned (.bool false) ∧ ∃ n, w' = w.drewN n := by
  have H : Hid (At b s i w) := h
  obtain ⟨h0, h1, -, -⟩ := h
  go_enter Tryd.func206, Tryd.ntmps206
  go_wp2
  go_quiet ((go_at_call 137; exact Calls.quiet_of (ended_no b s i _ (H.out.drewN _) hi')))
  go_wp2
  go_ret
  exact ⟨rfl, nq, rfl⟩

set_option maxHeartbeats 400000 in
theorem within_high (b : Nat) (s : ByteArray) (i : Nat) (lo hi : Int) (w : World) (h : At b s i w) (hi' : i < s.size) (hl : lo ≤ (s[i].toNat : Int)) (hh : decide ((s[i].toNat : Int) ≤ hi) = false) :
    Calls Tryd.prog 206 #[.pointer (some ⟨b, 0, none⟩), .int .u8 lo, .int .u8 hi] w fun e w' => e = .returned (.bool false) ∧ ∃ n, w' = w.drewN n := by
  have H : Hid (At b s i w) := h
  obtain ⟨h0, h1, -, -⟩ := h
  go_enter Tryd.func206, Tryd.ntmps206
  go_wp2
  go_quiet ((go_at_call 137; exact Calls.quiet_of (ended_no b s i _ (H.out.drewN _) hi')))
  go_wp2
  go_ret
  exact ⟨rfl, nq, rfl⟩

theorem within_is (b : Nat) (s : ByteArray) (i : Nat) (lo hi : Int) (w : World) (h : At b s i w) (hi' : i ≤ s.size) :
    Calls Tryd.prog 206 #[.pointer (some ⟨b, 0, none⟩), .int .u8 lo, .int .u8 hi] w fun e w' => e = .returned (.bool (inR s i lo hi)) ∧ ∃ n, w' = w.drewN n := by
  by_cases hlt : i < s.size
  · cases hl : decide (lo ≤ (s[i].toNat : Int)) with
    | false => rw [show inR s i lo hi = false by simp [inR, hlt, hl]]; exact within_low b s i lo hi w h hlt hl
    | true =>
      cases hh : decide ((s[i].toNat : Int) ≤ hi) with
      | false => rw [show inR s i lo hi = false by simp [inR, hlt, hh]]; exact within_high b s i lo hi w h hlt (by simpa using hl) hh
      | true => rw [show inR s i lo hi = true by simp [inR, hlt, hl, hh]]; exact within_yes b s i lo hi w h hlt (by simpa using hl) (by simpa using hh)
  · rw [show inR s i lo hi = false by simp [inR, hlt]]; exact within_end b s i lo hi w h (by omega)

set_option maxHeartbeats 400000 in
theorem take_no (b : Nat) (s : ByteArray) (i : Nat) (lo hi : Int) (w : World) (h : At b s i w) (hi' : i ≤ s.size) (hn : inR s i lo hi = false) :
    Calls Tryd.prog 185 #[.pointer (some ⟨b, 0, none⟩), .int .u8 lo, .int .u8 hi] w fun e w' => e = .panicked oops ∧ At b s i w' ∧ Rd b w w' := by
  have H : Hid (At b s i w) := h
  obtain ⟨h0, h1, f0, f1⟩ := h
  go_enter Tryd.func185, Tryd.ntmps185
  go_wp2_with fail
  refine (within_is b s i lo hi _ H.out hi').mono ?_
  rw [hn]
  rintro e w' ⟨rfl, n, rfl⟩
  go_wp2_with fail
  refine (fail_any b s i i _ (H.out.drewN _)).mono ?_
  rintro e w' ⟨rfl, ha, hr⟩
  go_wp2
  exact ⟨rfl, rfl, ha, (Rd.drewN (Rd.refl _ _) _).trans hr⟩

set_option maxHeartbeats 400000 in
theorem take_yes (b : Nat) (s : ByteArray) (i : Nat) (lo hi : Int) (w : World) (h : At b s i w) (hs : s.size ≤ maxLen) (hi' : i < s.size) (hn : inR s i lo hi = true) :
    Calls Tryd.prog 185 #[.pointer (some ⟨b, 0, none⟩), .int .u8 lo, .int .u8 hi] w fun e w' => e = .returned (.int .u8 (s[i].toNat : Int)) ∧ At b s (i + 1) w' ∧ Rd b w w' := by
  have H : Hid (At b s i w) := h
  have hgo := h.go (i + 1)
  have G : Hid (At b s (i + 1) (w.setCell ⟨b, 1, none⟩ (.int .i64 ((i + 1 : Nat) : Int)))) := hgo
  have g0 := hgo.txt
  have g1 := hgo.pos
  rw [show ((i + 1 : Nat) : Int) = (i : Int) + 1 by omega] at g0 g1
  clear hgo
  obtain ⟨h0, h1, f0, f1⟩ := h
  unfold maxLen at hs
  go_enter Tryd.func185, Tryd.ntmps185
  go_wp2_with fail
  refine (within_is b s i lo hi _ H.out (Nat.le_of_lt hi')).mono ?_
  rw [hn]
  rintro e w' ⟨rfl, n, rfl⟩
  go_wp2
  go_quiet (fail)
  go_wp2
  go_ret
  rw [show (i : Int) + 1 = ((i + 1 : Nat) : Int) by omega]
  exact ⟨rfl, ((H.out.drewN n).go (i + 1)).drewN nq, (((Rd.refl _ _).drewN n).set _ _).drewN nq⟩

theorem expect_no (b : Nat) (s : ByteArray) (i : Nat) (c : Int) (w : World) (h : At b s i w) (hi' : i ≤ s.size) (hn : inR s i c c = false) :
    Calls Tryd.prog 208 #[.pointer (some ⟨b, 0, none⟩), .int .u8 c] w fun e w' => e = .panicked oops ∧ At b s i w' ∧ Rd b w w' := by
  go_enter Tryd.func208, Tryd.ntmps208
  go_wp2_with fail
  refine (take_no b s i c c _ h hi' hn).mono ?_
  rintro e w' ⟨rfl, ha, hr⟩
  go_wp2
  exact ⟨rfl, rfl, ha, hr⟩
theorem expect_yes (b : Nat) (s : ByteArray) (i : Nat) (c : Int) (w : World) (h : At b s i w) (hs : s.size ≤ maxLen) (hn : inR s i c c = true) :
    Calls Tryd.prog 208 #[.pointer (some ⟨b, 0, none⟩), .int .u8 c] w fun e w' => e = .returned (.tuple #[]) ∧ At b s (i + 1) w' ∧ Rd b w w' := by
  go_enter Tryd.func208, Tryd.ntmps208
  go_wp2_with fail
  refine (take_yes b s i c c _ h hs (inR_true.1 hn).1 hn).mono ?_
  rintro e w' ⟨rfl, ha, hr⟩
  go_wp2
  go_end0
  exact ⟨rfl, ha, hr⟩
end Go.Proofs.YtljdidimoagnhaaDoor

namespace Go.Proofs.YtljdidimoagnhaaDoor
open Go.RowKit

theorem i64_or_nat (a b : Nat) (ha : a < 4294967296) (hb : b < 4294967296) : bits .or .i64 (a : Int) (b : Int) = ((a ||| b : Nat) : Int) := by
  have hx : a ||| b < 2 ^ 32 := Nat.or_lt_two_pow (by omega) (by omega)
  show IntKind.i64.wrap ((BitVec.ofInt 64 (a : Int) ||| BitVec.ofInt 64 (b : Int)).toNat : Int) = _
  rw [BitVec.toNat_or, ofInt_u64 a (by omega), ofInt_u64 b (by omega)]
  simp [IntKind.wrap, IntKind.bits, IntKind.signed]
  omega
theorem or_pow (a k : Nat) (hk : k ≤ 8) (ha : a < 2 ^ k) : bits .or .i64 (a : Int) (wrap64 (2 ^ k)) = ((a + 2 ^ k : Nat) : Int) := by
  have hp : 2 ^ k ≤ 2 ^ 8 := Nat.pow_le_pow_right (by omega) hk
  have e : wrap64 (2 ^ k) = ((2 ^ k : Nat) : Int) := by
    rw [show ((2 : Int) ^ k) = ((2 ^ k : Nat) : Int) by simp]
    unfold wrap64; omega
  rw [e, i64_or_nat a (2 ^ k) (by omega) (by omega)]
  have h2 := Nat.two_pow_add_eq_or_of_lt ha 1
  simp only [Nat.mul_one] at h2
  rw [Nat.or_comm, ← h2, Nat.add_comm]

set_option maxHeartbeats 400000 in
theorem bits_any (b : Nat) (s : ByteArray) (i0 : Nat) (w : World) (h : At b s i0 w) (hs : s.size ≤ maxLen) (hi0 : i0 ≤ s.size) :
    Calls Tryd.prog 207 #[.pointer (some ⟨b, 0, none⟩)] w fun e w' => e = .returned (.int .i64 ((ris s i0).1 : Int)) ∧ At b s (ris s i0).2 w' ∧ Rd b w w' ∧ (ris s i0).2 ≤ s.size := by
  go_enter Tryd.func207, Tryd.ntmps207
  go_wp2
  go_loopw [3, 4] (fun bv lv wr => ∃ acc low i : Nat, bv = .int .i64 (acc : Int) ∧ lv = .int .u8 (low : Int) ∧ At b s i wr ∧ Rd b w wr ∧ i ≤ s.size ∧ 48 ≤ low ∧ low ≤ 57 ∧ acc < 2 ^ (low - 48) ∧ risF s (s.size - i) i low acc = ris s i0) (fun _ lv _ => (57 - intOf lv).toNat)
  case atStart => exact ⟨0, 48, i0, rfl, rfl, h, Rd.refl _ _, hi0, by omega, by omega, by decide, rfl⟩
  case round =>
    obtain ⟨acc, low, i, rfl, rfl, ha, hr, hi, hl1, hl2, hacc, hris⟩ := hrel
    have HR : Hid (risF s (s.size - i) i low acc = ris s i0) := hris
    have HA : Hid (At b s i wr) := ha
    clear hris h ha
    cases hin : inR s i low 56 with
    | false =>
      go_wp2_with fail
      refine (within_is b s i low 56 _ HA.out hi).mono ?_
      rw [hin]
      rintro e w' ⟨rfl, n, rfl⟩
      go_wp2
      go_ret
      have e1 := HR.out
      rw [risF_stop hin] at e1
      rw [← e1]
      exact ⟨rfl, HA.out.drewN n, hr.drewN n, hi⟩
    | true =>
      have hlt := (inR_true.1 hin).1
      have hb := (inR_true.1 hin).2
      rw [← bt_lt s i hlt] at hb
      go_wp2_with fail
      refine (within_is b s i low 56 _ HA.out hi).mono ?_
      rw [hin]
      rintro e w' ⟨rfl, n, rfl⟩
      go_wp2_with fail
      refine (take_yes b s i low 56 _ (HA.out.drewN _) hs hlt hin).mono ?_
      rintro e w' ⟨rfl, ha2, hr2⟩
      go_wp2
      have e1 := HR.out
      rw [risF_step hin] at e1
      have e2 := bt_lt s i hlt
      rw [e2] at hb ⊢
      refine ⟨⟨acc + 2 ^ (bt s i - 48), bt s i + 1, i + 1, by rw [or_pow _ _ (by omega) (Nat.lt_of_lt_of_le hacc (Nat.pow_le_pow_right (by omega) (by omega)))], rfl, ha2, (hr.drewN n).trans hr2, by omega, by omega, by omega, ?_, e1⟩, by simp [intOf]; omega⟩
      have hp : 2 ^ (low - 48) ≤ 2 ^ (bt s i - 48) := Nat.pow_le_pow_right (by omega) (by omega)
      rw [show bt s i + 1 - 48 = (bt s i - 48) + 1 by omega, Nat.pow_succ]
      omega
end Go.Proofs.YtljdidimoagnhaaDoor

namespace Go.Proofs.YtljdidimoagnhaaDoor
open Go.RowKit

def posOf (b : Nat) (w : World) : Nat := match w.cell? ⟨b, 1, none⟩ with | some (.int _ q) => q.toNat | _ => 0
theorem At.posOf {b : Nat} {s : ByteArray} {i : Nat} {w : World} (h : At b s i w) : posOf b w = i := by
  unfold Go.Proofs.YtljdidimoagnhaaDoor.posOf; rw [h.pos]; simp

/-- The number as it is kept: right up to most, and above it whatever is above. -/
structure Cap (most v k : Nat) : Prop where
  eq : v ≤ most → k = v
  gt : most < v → most < k
  le : k ≤ 10 * most + 9

theorem Cap.below {most v k d : Nat} (h : Cap most v k) (hd : d ≤ 9) (hk : k ≤ most) : Cap most (v * 10 + d) (10 * k + d) := by
  have h1 := h.eq
  have h2 := h.gt
  refine ⟨?_, ?_, by omega⟩ <;> omega
theorem Cap.above {most v k d : Nat} (h : Cap most v k) (hk : most < k) : Cap most (v * 10 + d) k := by
  have h1 := h.eq
  have h2 := h.gt
  have h3 := h.le
  refine ⟨?_, ?_, by omega⟩ <;> omega

/-- How the number's reading ends, by the places and what was kept. -/
structure NumEnd (s : ByteArray) (b i0 most : Nat) (w wr : World) (k i : Nat) : Prop where
  hat : At b s i wr
  rd : Rd b w wr
  lo : i0 ≤ i
  hi : i ≤ s.size
  fin : (num s i0).2 = i
  cap : Cap most (num s i0).1 k

theorem ok_cases {s : ByteArray} {b i0 least most : Nat} {w wr : World} {k i : Nat} (h : NumEnd s b i0 most w wr k i) (hok : numOk s i0 least most = true) :
    ¬ i = i0 ∧ (¬ 1 < i - i0 ∨ ¬ bt s i0 = 48) ∧ least ≤ k ∧ k ≤ most ∧ k = (num s i0).1 := by
  have h1 := h.fin
  have h2 := h.cap.eq
  simp [numOk, h1] at hok
  obtain ⟨⟨⟨a, b'⟩, c⟩, d⟩ := hok
  have := h2 d
  exact ⟨a, by omega, by omega, by omega, this⟩
theorem no_cases {s : ByteArray} {b i0 least most : Nat} {w wr : World} {k i : Nat} (h : NumEnd s b i0 most w wr k i) (hok : numOk s i0 least most = false) :
    i = i0 ∨ (1 < i - i0 ∧ bt s i0 = 48) ∨ (¬ i = i0 ∧ (¬ 1 < i - i0 ∨ ¬ bt s i0 = 48) ∧ (k < least ∨ (least ≤ k ∧ most < k))) := by
  have h1 := h.fin
  have h2 := h.cap.eq
  have h3 := h.cap.gt
  by_cases c1 : i = i0
  · exact Or.inl c1
  by_cases c2 : 1 < i - i0 ∧ bt s i0 = 48
  · exact Or.inr (Or.inl c2)
  refine Or.inr (Or.inr ⟨c1, by omega, ?_⟩)
  have hn : (num s i0).1 < least ∨ most < (num s i0).1 := by
    rcases Nat.lt_or_ge (num s i0).1 least with q | q
    · exact Or.inl q
    rcases Nat.lt_or_ge most (num s i0).1 with p | p
    · exact Or.inr p
    simp [numOk, h1, c1] at hok
    omega
  rcases hn with q | q
  · by_cases hm : (num s i0).1 ≤ most
    · have := h2 hm; omega
    · have := h3 (by omega); omega
  · have := h3 q; omega

set_option maxHeartbeats 800000 in
theorem number_ok (b : Nat) (s : ByteArray) (i0 least most : Nat) (L M : Int) (w : World) (h : At b s i0 w) (hs : s.size ≤ maxLen) (hi0 : i0 ≤ s.size) (hL : L = least) (hM : M = most) (hm : most ≤ 255) (hok : numOk s i0 least most = true) :
    Calls Tryd.prog 209 #[.pointer (some ⟨b, 0, none⟩), .int .i64 L, .int .i64 M] w fun e w' => e = .returned (.int .i64 ((num s i0).1 : Int)) ∧ At b s (num s i0).2 w' ∧ Rd b w w' ∧ (num s i0).2 ≤ s.size := by
  subst hL hM
  have H0 : Hid (At b s i0 w) := h
  obtain ⟨p0, p1, q0, q1⟩ := h
  go_enter Tryd.func209, Tryd.ntmps209
  go_wp2
  go_loopw [8] (fun nv wr => ∃ k v i : Nat, nv = .int .i64 (k : Int) ∧ At b s i wr ∧ Rd b w wr ∧ i0 ≤ i ∧ i ≤ s.size ∧ Cap most v k ∧ numF s (s.size - i) i v = num s i0) (fun _ wr => s.size - posOf b wr)
  case atStart => exact ⟨0, 0, i0, rfl, H0.out, Rd.refl _ _, by omega, hi0, ⟨by omega, by omega, by omega⟩, rfl⟩
  case round =>
    obtain ⟨k, v, i, rfl, ha, hr, hlo, hi, hcap, hnum⟩ := hrel
    have HR : Hid (numF s (s.size - i) i v = num s i0) := hnum
    have HA : Hid (At b s i wr) := ha
    have hk := hcap.le
    have HC : Hid (Cap most v k) := hcap
    clear hnum ha hcap p0 p1 q0 q1
    cases hin : inR s i 48 57 with
    | false =>
      have hE : NumEnd s b i0 most w wr k i := by
        have e1 := HR.out
        rw [numF_stop hin] at e1
        exact ⟨HA.out, hr, hlo, hi, by rw [← e1], by rw [← e1]; exact HC.out⟩
      obtain ⟨a1, a2, a3, a4, a5⟩ := ok_cases hE hok
      have HE : Hid (NumEnd s b i0 most w wr k i) := hE
      have HK : Hid (k = (num s i0).1) := a5
      have hi0lt : i0 < s.size := by omega
      clear hE a5 hok
      obtain ⟨g0, g1, g2, g3⟩ := HA.out
      have hs' := hs
      unfold maxLen at hs'
      have n1 : ((i : Int) == (i0 : Int)) = false := by simp; omega
      go_wp2_with fail
      refine (within_is b s i 48 57 _ HA.out hi).mono ?_
      rw [hin]
      rintro e w' ⟨rfl, n, rfl⟩
      by_cases c : 1 < i - i0
      · have c' : 1 < (i : Int) - (i0 : Int) := by omega
        have d : ((s[i0].toNat : Int) == 48) = false := by
          have := bt_lt s i0 hi0lt
          simp; omega
        go_wp2
        go_ret
        rw [← HK.out, HE.out.fin]
        exact ⟨rfl, HA.out.drewN n, hr.drewN n, hi⟩
      · have c' : ¬ 1 < (i : Int) - (i0 : Int) := by omega
        go_wp2
        go_ret
        rw [← HK.out, HE.out.fin]
        exact ⟨rfl, HA.out.drewN n, hr.drewN n, hi⟩
    | true =>
      have hlt := (inR_true.1 hin).1
      have hb := (inR_true.1 hin).2
      rw [← bt_lt s i hlt] at hb
      go_wp2_with fail
      refine (within_is b s i 48 57 _ HA.out hi).mono ?_
      rw [hin]
      rintro e w' ⟨rfl, n, rfl⟩
      go_wp2_with fail
      refine (take_yes b s i 48 57 _ (HA.out.drewN _) hs hlt hin).mono ?_
      rintro e w' ⟨rfl, ha2, hr2⟩
      have HA2 : Hid (At b s (i + 1) w') := ha2
      clear ha2
      have e1 := HR.out
      rw [numF_step hin] at e1
      have e2 := bt_lt s i hlt
      have HE1 : Hid (numF s (s.size - (i + 1)) (i + 1) (v * 10 + (bt s i - 48)) = num s i0) := e1
      clear e1
      by_cases c : (k : Int) ≤ (most : Int)
      · go_wp2
        refine ⟨⟨10 * k + (bt s i - 48), _, i + 1, ?_, HA2.out, (hr.drewN n).trans hr2, by omega, by omega, HC.out.below (by omega) (by omega), HE1.out⟩, ?_⟩
        · rw [show (10 * (k : Int) + ((bt s i : Int) - 48)) = ((10 * k + (bt s i - 48) : Nat) : Int) by omega]
        · rw [HA.out.posOf, HA2.out.posOf]; omega
      · go_wp2
        refine ⟨⟨k, _, i + 1, rfl, HA2.out, (hr.drewN n).trans hr2, by omega, by omega, HC.out.above (by omega), HE1.out⟩, ?_⟩
        rw [HA.out.posOf, HA2.out.posOf]; omega

set_option maxHeartbeats 800000 in
theorem number_no (b : Nat) (s : ByteArray) (i0 least most : Nat) (L M : Int) (w : World) (h : At b s i0 w) (hs : s.size ≤ maxLen) (hi0 : i0 ≤ s.size) (hL : L = least) (hM : M = most) (hm : most ≤ 255) (hok : numOk s i0 least most = false) :
    Calls Tryd.prog 209 #[.pointer (some ⟨b, 0, none⟩), .int .i64 L, .int .i64 M] w fun e w' => e = .panicked oops ∧ At b s i0 w' ∧ Rd b w w' := by
  subst hL hM
  have H0 : Hid (At b s i0 w) := h
  obtain ⟨p0, p1, q0, q1⟩ := h
  go_enter Tryd.func209, Tryd.ntmps209
  go_wp2
  go_loopw [8] (fun nv wr => ∃ k v i : Nat, nv = .int .i64 (k : Int) ∧ At b s i wr ∧ Rd b w wr ∧ i0 ≤ i ∧ i ≤ s.size ∧ Cap most v k ∧ numF s (s.size - i) i v = num s i0) (fun _ wr => s.size - posOf b wr)
  case atStart => exact ⟨0, 0, i0, rfl, H0.out, Rd.refl _ _, by omega, hi0, ⟨by omega, by omega, by omega⟩, rfl⟩
  case round =>
    obtain ⟨k, v, i, rfl, ha, hr, hlo, hi, hcap, hnum⟩ := hrel
    have HR : Hid (numF s (s.size - i) i v = num s i0) := hnum
    have HA : Hid (At b s i wr) := ha
    have hk := hcap.le
    have HC : Hid (Cap most v k) := hcap
    clear hnum ha hcap p0 p1 q0 q1
    cases hin : inR s i 48 57 with
    | false =>
      have hE : NumEnd s b i0 most w wr k i := by
        have e1 := HR.out
        rw [numF_stop hin] at e1
        exact ⟨HA.out, hr, hlo, hi, by rw [← e1], by rw [← e1]; exact HC.out⟩
      have hc := no_cases hE hok
      clear hE hok
      obtain ⟨g0, g1, g2, g3⟩ := HA.out
      have hs' := hs
      unfold maxLen at hs'
      go_wp2_with fail
      refine (within_is b s i 48 57 _ HA.out hi).mono ?_
      rw [hin]
      rintro e w' ⟨rfl, n, rfl⟩
      rcases hc with c1 | ⟨c2, c3⟩ | ⟨c1, c2, c3⟩
      · have n1 : ((i : Int) == (i0 : Int)) = true := by simp; omega
        have c' : ¬ 1 < (i : Int) - (i0 : Int) := by omega
        have C1 : Hid (i = i0) := c1
        clear c1
        go_wp2_with fail
        refine (fail_any b s i i0 _ (HA.out.drewN n)).mono ?_
        rintro e w' ⟨rfl, ha2, hr2⟩
        go_wp2
        exact ⟨rfl, rfl, ha2, (hr.drewN n).trans hr2⟩
      · have n1 : ((i : Int) == (i0 : Int)) = false := by simp; omega
        have c' : 1 < (i : Int) - (i0 : Int) := by omega
        have hi0lt : i0 < s.size := by omega
        have d : ((s[i0].toNat : Int) == 48) = true := by
          have := bt_lt s i0 hi0lt
          simp; omega
        clear c3
        go_wp2_with fail
        refine (fail_any b s i i0 _ (HA.out.drewN n)).mono ?_
        rintro e w' ⟨rfl, ha2, hr2⟩
        go_wp2
        exact ⟨rfl, rfl, ha2, (hr.drewN n).trans hr2⟩
      · have n1 : ((i : Int) == (i0 : Int)) = false := by simp; omega
        have hi0lt : i0 < s.size := by omega
        clear c1
        by_cases c : 1 < i - i0
        · have c' : 1 < (i : Int) - (i0 : Int) := by omega
          have d : ((s[i0].toNat : Int) == 48) = false := by
            have := bt_lt s i0 hi0lt
            simp; omega
          clear c2
          rcases c3 with c4 | ⟨c4, c5⟩
          · have c6 : (k : Int) < (least : Int) := by omega
            go_wp2_with fail
            refine (fail_any b s i i0 _ (HA.out.drewN n)).mono ?_
            rintro e w' ⟨rfl, ha2, hr2⟩
            go_wp2
            exact ⟨rfl, rfl, ha2, (hr.drewN n).trans hr2⟩
          · have c6 : ¬ (k : Int) < (least : Int) := by omega
            have c7 : (most : Int) < (k : Int) := by omega
            go_wp2_with fail
            refine (fail_any b s i i0 _ (HA.out.drewN n)).mono ?_
            rintro e w' ⟨rfl, ha2, hr2⟩
            go_wp2
            exact ⟨rfl, rfl, ha2, (hr.drewN n).trans hr2⟩
        · have c' : ¬ 1 < (i : Int) - (i0 : Int) := by omega
          clear c2
          rcases c3 with c4 | ⟨c4, c5⟩
          · have c6 : (k : Int) < (least : Int) := by omega
            go_wp2_with fail
            refine (fail_any b s i i0 _ (HA.out.drewN n)).mono ?_
            rintro e w' ⟨rfl, ha2, hr2⟩
            go_wp2
            exact ⟨rfl, rfl, ha2, (hr.drewN n).trans hr2⟩
          · have c6 : ¬ (k : Int) < (least : Int) := by omega
            have c7 : (most : Int) < (k : Int) := by omega
            go_wp2_with fail
            refine (fail_any b s i i0 _ (HA.out.drewN n)).mono ?_
            rintro e w' ⟨rfl, ha2, hr2⟩
            go_wp2
            exact ⟨rfl, rfl, ha2, (hr.drewN n).trans hr2⟩
    | true =>
      have hlt := (inR_true.1 hin).1
      have hb := (inR_true.1 hin).2
      rw [← bt_lt s i hlt] at hb
      go_wp2_with fail
      refine (within_is b s i 48 57 _ HA.out hi).mono ?_
      rw [hin]
      rintro e w' ⟨rfl, n, rfl⟩
      go_wp2_with fail
      refine (take_yes b s i 48 57 _ (HA.out.drewN _) hs hlt hin).mono ?_
      rintro e w' ⟨rfl, ha2, hr2⟩
      have HA2 : Hid (At b s (i + 1) w') := ha2
      clear ha2
      have e1 := HR.out
      rw [numF_step hin] at e1
      have e2 := bt_lt s i hlt
      have HE1 : Hid (numF s (s.size - (i + 1)) (i + 1) (v * 10 + (bt s i - 48)) = num s i0) := e1
      clear e1
      by_cases c : (k : Int) ≤ (most : Int)
      · go_wp2
        refine ⟨⟨10 * k + (bt s i - 48), _, i + 1, ?_, HA2.out, (hr.drewN n).trans hr2, by omega, by omega, HC.out.below (by omega) (by omega), HE1.out⟩, ?_⟩
        · rw [show (10 * (k : Int) + ((bt s i : Int) - 48)) = ((10 * k + (bt s i - 48) : Nat) : Int) by omega]
        · rw [HA.out.posOf, HA2.out.posOf]; omega
      · go_wp2
        refine ⟨⟨k, _, i + 1, rfl, HA2.out, (hr.drewN n).trans hr2, by omega, by omega, HC.out.above (by omega), HE1.out⟩, ?_⟩
        rw [HA.out.posOf, HA2.out.posOf]; omega
end Go.Proofs.YtljdidimoagnhaaDoor

