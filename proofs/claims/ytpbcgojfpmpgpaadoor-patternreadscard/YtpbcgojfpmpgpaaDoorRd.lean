/-
  The reader of package rules in memory: where it lies, what a call on it may turn. Small readers of bytes: ended, fail, within, take, expect.
-/
import Derived.Test.YtpbcgojfpmpgpaaDoorProg
import Derived.Test.YtpbcgojfpmpgpaaDoorSpec
import Derived.WalkKit
import Derived.WalkSpells
import Derived.WalkLawsBesides
import Derived.Deep.QuietTactic
import Derived.BigQuiet
namespace Go.Proofs.YtpbcgojfpmpgpaaDoor
open Go.RowKit

/-- The reader at block b: its text s, its place i. -/
structure At (b : Nat) (s : ByteArray) (i : Nat) (w : World) : Prop where
  txt : w.cell? ⟨b, 0, none⟩ = some (.string s)
  pos : w.cell? ⟨b, 1, none⟩ = some (.int .i64 (i : Int))
  fz0 : w.frozen? ⟨b, 0, none⟩ = false
  fz1 : w.frozen? ⟨b, 1, none⟩ = false

/-- Of what was there, block b alone may have turned. -/
structure Rd (b : Nat) (w w' : World) : Prop where
  os : w'.os = w.os
  tape : w'.tape = w.tape
  output : w'.output = w.output
  size : w.heap.size ≤ w'.heap.size
  block : ∀ k, k < w.heap.size → k ≠ b → w'.heap[k]? = w.heap[k]?

theorem Rd.refl (b : Nat) (w : World) : Rd b w w := ⟨rfl, rfl, rfl, Nat.le_refl _, fun _ _ _ => rfl⟩
theorem Rd.trans {b : Nat} {a c d : World} (h : Rd b a c) (k : Rd b c d) : Rd b a d :=
  ⟨k.os.trans h.os, k.tape.trans h.tape, k.output.trans h.output, Nat.le_trans h.size k.size, fun i hi hb => (k.block i (Nat.lt_of_lt_of_le hi h.size) hb).trans (h.block i hi hb)⟩
theorem Rd.drewN {b : Nat} {a w : World} (h : Rd b a w) (n : Nat) : Rd b a (w.drewN n) := h.trans ⟨rfl, rfl, rfl, Nat.le_refl _, fun _ _ _ => rfl⟩
theorem Rd.drew {b : Nat} {a w : World} (h : Rd b a w) : Rd b a w.drew := h.trans ⟨rfl, rfl, rfl, Nat.le_refl _, fun _ _ _ => rfl⟩
theorem Rd.alloc {b : Nat} {a w : World} (h : Rd b a w) (o : Obj) : Rd b a (w.alloc o) :=
  h.trans ⟨rfl, rfl, rfl, by simp, fun k hk _ => Below.heap_alloc _ _ _ hk⟩
/-- A store into the reader. -/
theorem Rd.set {b : Nat} {a w : World} (h : Rd b a w) (o : Nat) (u : Value) : Rd b a (w.setCell ⟨b, o, none⟩ u) :=
  h.trans ⟨rfl, rfl, rfl, by simp [World.setCell], fun k _ hk => Below.heap_setCell _ _ _ _ hk⟩
/-- A store into a new block. -/
theorem Rd.setNew {b : Nat} {a w : World} (h : Rd b a w) {p : Addr} (hp : a.heap.size ≤ p.block) (u : Value) : Rd b a (w.setCell p u) := by
  refine ⟨h.os, h.tape, h.output, ?_, fun k hk hb => ?_⟩
  · have := h.size; simp [World.setCell]; exact this
  · rw [Below.heap_setCell _ _ _ _ (by omega)]; exact h.block k hk hb
theorem Rd.below {b B : Nat} {w w' : World} (h : Rd b w w') (hB : B ≤ b) (hs : B ≤ w.heap.size) : Below B w w' :=
  ⟨h.os, h.tape, h.output, h.size, fun k hk => h.block k (by omega) (by omega)⟩
theorem Rd.cell {b : Nat} {w w' : World} (h : Rd b w w') : ∀ k o, k < w.heap.size → k ≠ b → w'.cell? ⟨k, o, none⟩ = w.cell? ⟨k, o, none⟩ :=
  fun k _ hk hb => World.cell?_of_block (w := w) (h.block k hk hb)
theorem Rd.frozen {b : Nat} {w w' : World} (h : Rd b w w') : ∀ k o, k < w.heap.size → k ≠ b → w'.frozen? ⟨k, o, none⟩ = w.frozen? ⟨k, o, none⟩ :=
  fun k _ hk hb => World.frozen?_of_block (w := w) (h.block k hk hb)

theorem At.lt {b : Nat} {s : ByteArray} {i : Nat} {w : World} (h : At b s i w) : b < w.heap.size := by
  rcases Nat.lt_or_ge b w.heap.size with k | k
  · exact k
  · have := h.txt; simp [World.cell?, Array.getElem?_eq_none k] at this
theorem At.drewN {b : Nat} {s : ByteArray} {i : Nat} {w : World} (h : At b s i w) (n : Nat) : At b s i (w.drewN n) := ⟨h.txt, h.pos, h.fz0, h.fz1⟩
theorem At.alloc {b : Nat} {s : ByteArray} {i : Nat} {w : World} (h : At b s i w) (o : Obj) : At b s i (w.alloc o) := by
  have hl := h.lt
  have e : (w.alloc o).heap[b]? = w.heap[b]? := Below.heap_alloc _ _ _ hl
  exact ⟨(World.cell?_of_block (w := w) (a := ⟨b, 0, none⟩) e).trans h.txt, (World.cell?_of_block (w := w) (a := ⟨b, 1, none⟩) e).trans h.pos,
    (World.frozen?_of_block (w := w) (a := ⟨b, 0, none⟩) e).trans h.fz0, (World.frozen?_of_block (w := w) (a := ⟨b, 1, none⟩) e).trans h.fz1⟩
theorem At.setOther {b : Nat} {s : ByteArray} {i : Nat} {w : World} (h : At b s i w) {p : Addr} (hp : b ≠ p.block) (u : Value) : At b s i (w.setCell p u) := by
  have e : (w.setCell p u).heap[b]? = w.heap[b]? := Below.heap_setCell _ _ _ _ hp
  exact ⟨(World.cell?_of_block (w := w) (a := ⟨b, 0, none⟩) e).trans h.txt, (World.cell?_of_block (w := w) (a := ⟨b, 1, none⟩) e).trans h.pos,
    (World.frozen?_of_block (w := w) (a := ⟨b, 0, none⟩) e).trans h.fz0, (World.frozen?_of_block (w := w) (a := ⟨b, 1, none⟩) e).trans h.fz1⟩
theorem At.go {b : Nat} {s : ByteArray} {i : Nat} {w : World} (h : At b s i w) (j : Nat) : At b s j (w.setCell ⟨b, 1, none⟩ (.int .i64 (j : Int))) := by
  refine ⟨?_, ?_, ?_, ?_⟩
  · exact (World.cell?_setCell_other (w := w) (a := ⟨b, 1, none⟩) (b := ⟨b, 0, none⟩) (v := _) (h := by simp)).trans h.txt
  · exact World.cell?_setCell_same (w := w) (a := ⟨b, 1, none⟩) (v := _) (h := h.pos)
  · rw [World.frozen?_setCell]; exact h.fz0
  · rw [World.frozen?_setCell]; exact h.fz1

def oops : List PanicEntry := [{ v := .iface 72 (.int .i64 2), recovered := false }]

theorem ended_any (b : Nat) (s : ByteArray) (i : Nat) (w : World) (h : At b s i w) :
    Calls Tryd.prog 79 #[.pointer (some ⟨b, 0, none⟩)] w fun e w' => e = .returned (.bool ((i : Int) == (s.size : Int))) ∧ ∃ n, w' = w.drewN n := by
  obtain ⟨h0, h1, -, -⟩ := h
  go_enter Tryd.func79, Tryd.ntmps79
  go_wp2
  go_quiet (fail)
  go_wp2
  go_ret
  exact ⟨rfl, nq, rfl⟩

theorem ended_no (b : Nat) (s : ByteArray) (i : Nat) (w : World) (h : At b s i w) (hi : i < s.size) :
    Calls Tryd.prog 79 #[.pointer (some ⟨b, 0, none⟩)] w fun e w' => e = .returned (.bool false) ∧ ∃ n, w' = w.drewN n := by
  refine (ended_any b s i w h).mono fun e w' ⟨he, hw⟩ => ⟨?_, hw⟩
  rw [he, show ((i : Int) == (s.size : Int)) = false by simp; omega]
theorem ended_yes (b : Nat) (s : ByteArray) (i : Nat) (w : World) (h : At b s i w) (hi : i = s.size) :
    Calls Tryd.prog 79 #[.pointer (some ⟨b, 0, none⟩)] w fun e w' => e = .returned (.bool true) ∧ ∃ n, w' = w.drewN n := by
  refine (ended_any b s i w h).mono fun e w' ⟨he, hw⟩ => ⟨?_, hw⟩
  rw [he, show ((i : Int) == (s.size : Int)) = true by simp; omega]

theorem fail_any (b : Nat) (s : ByteArray) (i j : Nat) (w : World) (h : At b s i w) :
    Calls Tryd.prog 80 #[.pointer (some ⟨b, 0, none⟩), .int .i64 (j : Int)] w fun e w' => e = .panicked oops ∧ At b s j w' ∧ Rd b w w' := by
  have hgo := h.go j
  obtain ⟨h0, h1, f0, f1⟩ := h
  have H : Hid (At b s j (w.setCell ⟨b, 1, none⟩ (.int .i64 (j : Int)))) := hgo
  clear hgo
  go_enter Tryd.func80, Tryd.ntmps80
  go_wp2
  exact ⟨rfl, rfl, H.out, (Rd.refl _ _).set _ _⟩

set_option maxHeartbeats 400000 in
theorem within_yes (b : Nat) (s : ByteArray) (i : Nat) (lo hi : Int) (w : World) (h : At b s i w) (hi' : i < s.size) (hl : lo ≤ (s[i].toNat : Int)) (hh : (s[i].toNat : Int) ≤ hi) :
    Calls Tryd.prog 122 #[.pointer (some ⟨b, 0, none⟩), .int .u8 lo, .int .u8 hi] w fun e w' => e = .returned (.bool true) ∧ ∃ n, w' = w.drewN n := by
  have H : Hid (At b s i w) := h
  obtain ⟨h0, h1, -, -⟩ := h
  go_enter Tryd.func122, Tryd.ntmps122
  go_wp2
  go_quiet ((go_at_call 79; exact Calls.quiet_of (ended_no b s i _ (H.out.drewN _) hi')))
  go_wp2
  go_ret
  exact ⟨rfl, nq, rfl⟩

set_option maxHeartbeats 400000 in
theorem within_end (b : Nat) (s : ByteArray) (i : Nat) (lo hi : Int) (w : World) (h : At b s i w) (hi' : i = s.size) :
    Calls Tryd.prog 122 #[.pointer (some ⟨b, 0, none⟩), .int .u8 lo, .int .u8 hi] w fun e w' => e = .returned (.bool false) ∧ ∃ n, w' = w.drewN n := by
  have H : Hid (At b s i w) := h
  have H' : Hid (i = s.size) := hi'
  clear h hi'
  go_enter Tryd.func122, Tryd.ntmps122
  go_wp2
  go_quiet ((go_at_call 79; exact Calls.quiet_of (ended_yes b s i _ (H.out.drewN _) H'.out)))
  go_wp2
  go_ret
  exact ⟨rfl, nq, rfl⟩

set_option maxHeartbeats 400000 in
theorem within_low (b : Nat) (s : ByteArray) (i : Nat) (lo hi : Int) (w : World) (h : At b s i w) (hi' : i < s.size) (hl : decide (lo ≤ (s[i].toNat : Int)) = false) :
    Calls Tryd.prog 122 #[.pointer (some ⟨b, 0, none⟩), .int .u8 lo, .int .u8 hi] w fun e w' => e = .returned (.bool false) ∧ ∃ n, w' = w.drewN n := by
  have H : Hid (At b s i w) := h
  obtain ⟨h0, h1, -, -⟩ := h
  go_enter Tryd.func122, Tryd.ntmps122
  go_wp2
  go_quiet ((go_at_call 79; exact Calls.quiet_of (ended_no b s i _ (H.out.drewN _) hi')))
  go_wp2
  go_ret
  exact ⟨rfl, nq, rfl⟩

set_option maxHeartbeats 400000 in
theorem within_high (b : Nat) (s : ByteArray) (i : Nat) (lo hi : Int) (w : World) (h : At b s i w) (hi' : i < s.size) (hl : lo ≤ (s[i].toNat : Int)) (hh : decide ((s[i].toNat : Int) ≤ hi) = false) :
    Calls Tryd.prog 122 #[.pointer (some ⟨b, 0, none⟩), .int .u8 lo, .int .u8 hi] w fun e w' => e = .returned (.bool false) ∧ ∃ n, w' = w.drewN n := by
  have H : Hid (At b s i w) := h
  obtain ⟨h0, h1, -, -⟩ := h
  go_enter Tryd.func122, Tryd.ntmps122
  go_wp2
  go_quiet ((go_at_call 79; exact Calls.quiet_of (ended_no b s i _ (H.out.drewN _) hi')))
  go_wp2
  go_ret
  exact ⟨rfl, nq, rfl⟩

theorem within_is (b : Nat) (s : ByteArray) (i : Nat) (lo hi : Int) (w : World) (h : At b s i w) (hi' : i ≤ s.size) :
    Calls Tryd.prog 122 #[.pointer (some ⟨b, 0, none⟩), .int .u8 lo, .int .u8 hi] w fun e w' => e = .returned (.bool (inR s i lo hi)) ∧ ∃ n, w' = w.drewN n := by
  by_cases hlt : i < s.size
  · cases hl : decide (lo ≤ (s[i].toNat : Int)) with
    | false => rw [show inR s i lo hi = false by simp [inR, hlt, hl]]; exact within_low b s i lo hi w h hlt hl
    | true =>
      cases hh : decide ((s[i].toNat : Int) ≤ hi) with
      | false => rw [show inR s i lo hi = false by simp [inR, hlt, hh]]; exact within_high b s i lo hi w h hlt (by simpa using hl) hh
      | true => rw [show inR s i lo hi = true by simp [inR, hlt, hl, hh]]; exact within_yes b s i lo hi w h hlt (by simpa using hl) (by simpa using hh)
  · rw [show inR s i lo hi = false by simp [inR, hlt]]; exact within_end b s i lo hi w h (by omega)

set_option maxHeartbeats 400000 in
theorem take_no (b : Nat) (s : ByteArray) (i : Nat) (lo hi : Int) (w : World) (h : At b s i w) (hi' : i ≤ s.size) (hn : inR s i lo hi = false) :
    Calls Tryd.prog 107 #[.pointer (some ⟨b, 0, none⟩), .int .u8 lo, .int .u8 hi] w fun e w' => e = .panicked oops ∧ At b s i w' ∧ Rd b w w' := by
  have H : Hid (At b s i w) := h
  obtain ⟨h0, h1, f0, f1⟩ := h
  go_enter Tryd.func107, Tryd.ntmps107
  go_wp2_with fail
  refine (within_is b s i lo hi _ H.out hi').mono ?_
  rw [hn]
  rintro e w' ⟨rfl, n, rfl⟩
  go_wp2_with fail
  refine (fail_any b s i i _ (H.out.drewN _)).mono ?_
  rintro e w' ⟨rfl, ha, hr⟩
  go_wp2
  exact ⟨rfl, rfl, ha, (Rd.drewN (Rd.refl _ _) _).trans hr⟩

set_option maxHeartbeats 400000 in
theorem take_yes (b : Nat) (s : ByteArray) (i : Nat) (lo hi : Int) (w : World) (h : At b s i w) (hs : s.size ≤ maxLen) (hi' : i < s.size) (hn : inR s i lo hi = true) :
    Calls Tryd.prog 107 #[.pointer (some ⟨b, 0, none⟩), .int .u8 lo, .int .u8 hi] w fun e w' => e = .returned (.int .u8 (s[i].toNat : Int)) ∧ At b s (i + 1) w' ∧ Rd b w w' := by
  have H : Hid (At b s i w) := h
  have hgo := h.go (i + 1)
  have G : Hid (At b s (i + 1) (w.setCell ⟨b, 1, none⟩ (.int .i64 ((i + 1 : Nat) : Int)))) := hgo
  have g0 := hgo.txt
  have g1 := hgo.pos
  rw [show ((i + 1 : Nat) : Int) = (i : Int) + 1 by omega] at g0 g1
  clear hgo
  obtain ⟨h0, h1, f0, f1⟩ := h
  unfold maxLen at hs
  go_enter Tryd.func107, Tryd.ntmps107
  go_wp2_with fail
  refine (within_is b s i lo hi _ H.out (Nat.le_of_lt hi')).mono ?_
  rw [hn]
  rintro e w' ⟨rfl, n, rfl⟩
  go_wp2
  go_quiet (fail)
  go_wp2
  go_ret
  rw [show (i : Int) + 1 = ((i + 1 : Nat) : Int) by omega]
  exact ⟨rfl, ((H.out.drewN n).go (i + 1)).drewN nq, (((Rd.refl _ _).drewN n).set _ _).drewN nq⟩

theorem expect_no (b : Nat) (s : ByteArray) (i : Nat) (c : Int) (w : World) (h : At b s i w) (hi' : i ≤ s.size) (hn : inR s i c c = false) :
    Calls Tryd.prog 124 #[.pointer (some ⟨b, 0, none⟩), .int .u8 c] w fun e w' => e = .panicked oops ∧ At b s i w' ∧ Rd b w w' := by
  go_enter Tryd.func124, Tryd.ntmps124
  go_wp2_with fail
  refine (take_no b s i c c _ h hi' hn).mono ?_
  rintro e w' ⟨rfl, ha, hr⟩
  go_wp2
  exact ⟨rfl, rfl, ha, hr⟩
theorem expect_yes (b : Nat) (s : ByteArray) (i : Nat) (c : Int) (w : World) (h : At b s i w) (hs : s.size ≤ maxLen) (hn : inR s i c c = true) :
    Calls Tryd.prog 124 #[.pointer (some ⟨b, 0, none⟩), .int .u8 c] w fun e w' => e = .returned (.tuple #[]) ∧ At b s (i + 1) w' ∧ Rd b w w' := by
  go_enter Tryd.func124, Tryd.ntmps124
  go_wp2_with fail
  refine (take_yes b s i c c _ h hs (inR_true.1 hn).1 hn).mono ?_
  rintro e w' ⟨rfl, ha, hr⟩
  go_wp2
  go_end0
  exact ⟨rfl, ha, hr⟩
end Go.Proofs.YtpbcgojfpmpgpaaDoor
