/-
  What the last text of this claim leans on, part 1: Spec, Rd, Rb, Rn, Ref1, Rk, Fill, Ref2, Ow, Rk2, Rk3, Clone, Rk4.
-/
import Derived.Test.YtemhcpldflcfbaaGreatDoorProg
import Derived.WalkKit
import Derived.WalkSpells
import Derived.WalkLawsBesides
import Derived.Deep.QuietTactic
import Derived.BigQuiet
import Derived.Laws.BitsAllLaws
import Derived.Deep.OwnRows
import Derived.Deep.AppendLies
import Derived.Deep.RegionHeld3
import Derived.Deep.RegionLaw
import Derived.Deep.RegionWith
import Derived.Laws.IdiomStrings
import Derived.Laws.MakeOwn
import Derived.Lib.BufferWrite
import Derived.Lib.Hide
import Derived.Lib.Walk
import Derived.WalkSmall
import Derived.Lib.Strings
import Derived.Lib.UnsafeStr
namespace Go.Proofs.YtemhcpldflcfbaaGreatDoor
def inR (s : ByteArray) (i : Nat) (lo hi : Int) : Bool := if h : i < s.size then decide (lo ≤ (s[i].toNat : Int)) && decide ((s[i].toNat : Int) ≤ hi) else false
def bt (s : ByteArray) (i : Nat) : Nat := if h : i < s.size then s[i].toNat else 0
theorem bt_lt (s : ByteArray) (i : Nat) (h : i < s.size) : s[i].toNat = bt s i := by simp [bt, h]
def numF (s : ByteArray) : Nat → Nat → Nat → Nat × Nat
 | 0, i, v => (v, i)
 | f + 1, i, v => if inR s i 48 57 then numF s f (i + 1) (v * 10 + (bt s i - 48)) else (v, i)
def num (s : ByteArray) (i : Nat) : Nat × Nat := numF s (s.size - i) i 0
structure Out where
 kind : Int
 born : Int
 stay : Int
 states : Int
 radius : Int
 table : List Int
 turns : ByteArray
def entries (n m : Nat) : Nat := n ^ (2 * m + 1)
open Go.RowKit
structure At (b : Nat) (s : ByteArray) (i : Nat) (w : World) : Prop where
 txt : w.cell? ⟨b, 0, none⟩ = some (.string s)
 pos : w.cell? ⟨b, 1, none⟩ = some (.int .i64 (i : Int))
 fz0 : w.frozen? ⟨b, 0, none⟩ = false
 fz1 : w.frozen? ⟨b, 1, none⟩ = false
structure Rd (b : Nat) (w w' : World) : Prop where
 os : w'.os = w.os
 tape : w'.tape = w.tape
 output : w'.output = w.output
 size : w.heap.size ≤ w'.heap.size
 block : ∀ k, k < w.heap.size → k ≠ b → w'.heap[k]? = w.heap[k]?
theorem Rd.refl (b : Nat) (w : World) : Rd b w w := ⟨rfl, rfl, rfl, Nat.le_refl _, fun _ _ _ => rfl⟩
theorem Rd.trans {b : Nat} {a c d : World} (h : Rd b a c) (k : Rd b c d) : Rd b a d :=
 ⟨k.os.trans h.os, k.tape.trans h.tape, k.output.trans h.output, Nat.le_trans h.size k.size, fun i hi hb => (k.block i (Nat.lt_of_lt_of_le hi h.size) hb).trans (h.block i hi hb)⟩
theorem Rd.drewN {b : Nat} {a w : World} (h : Rd b a w) (n : Nat) : Rd b a (w.drewN n) := h.trans ⟨rfl, rfl, rfl, Nat.le_refl _, fun _ _ _ => rfl⟩
theorem Rd.drew {b : Nat} {a w : World} (h : Rd b a w) : Rd b a w.drew := h.trans ⟨rfl, rfl, rfl, Nat.le_refl _, fun _ _ _ => rfl⟩
theorem Rd.alloc {b : Nat} {a w : World} (h : Rd b a w) (o : Obj) : Rd b a (w.alloc o) :=
 h.trans ⟨rfl, rfl, rfl, by simp, fun k hk _ => Below.heap_alloc _ _ _ hk⟩
theorem Rd.set {b : Nat} {a w : World} (h : Rd b a w) (o : Nat) (u : Value) : Rd b a (w.setCell ⟨b, o, none⟩ u) :=
 h.trans ⟨rfl, rfl, rfl, by simp [World.setCell], fun k _ hk => Below.heap_setCell _ _ _ _ hk⟩
theorem Rd.below {b B : Nat} {w w' : World} (h : Rd b w w') (hB : B ≤ b) (hs : B ≤ w.heap.size) : Below B w w' :=
 ⟨h.os, h.tape, h.output, h.size, fun k hk => h.block k (by omega) (by omega)⟩
theorem Rd.cell {b : Nat} {w w' : World} (h : Rd b w w') : ∀ k o, k < w.heap.size → k ≠ b → w'.cell? ⟨k, o, none⟩ = w.cell? ⟨k, o, none⟩ :=
 fun k _ hk hb => World.cell?_of_block (w := w) (h.block k hk hb)
theorem Rd.frozen {b : Nat} {w w' : World} (h : Rd b w w') : ∀ k o, k < w.heap.size → k ≠ b → w'.frozen? ⟨k, o, none⟩ = w.frozen? ⟨k, o, none⟩ :=
 fun k _ hk hb => World.frozen?_of_block (w := w) (h.block k hk hb)
theorem At.lt {b : Nat} {s : ByteArray} {i : Nat} {w : World} (h : At b s i w) : b < w.heap.size := by
 rcases Nat.lt_or_ge b w.heap.size with k | k
 ·exact k
 ·have := h.txt; simp [World.cell?, Array.getElem?_eq_none k] at this
theorem At.drewN {b : Nat} {s : ByteArray} {i : Nat} {w : World} (h : At b s i w) (n : Nat) : At b s i (w.drewN n) := ⟨h.txt, h.pos, h.fz0, h.fz1⟩
theorem At.alloc {b : Nat} {s : ByteArray} {i : Nat} {w : World} (h : At b s i w) (o : Obj) : At b s i (w.alloc o) := by
 have hl := h.lt
 have e : (w.alloc o).heap[b]? = w.heap[b]? := Below.heap_alloc _ _ _ hl
 exact ⟨(World.cell?_of_block (w := w) (a := ⟨b, 0, none⟩) e).trans h.txt, (World.cell?_of_block (w := w) (a := ⟨b, 1, none⟩) e).trans h.pos,
  (World.frozen?_of_block (w := w) (a := ⟨b, 0, none⟩) e).trans h.fz0, (World.frozen?_of_block (w := w) (a := ⟨b, 1, none⟩) e).trans h.fz1⟩
theorem At.go {b : Nat} {s : ByteArray} {i : Nat} {w : World} (h : At b s i w) (j : Nat) : At b s j (w.setCell ⟨b, 1, none⟩ (.int .i64 (j : Int))) := by
 refine ⟨?_, ?_, ?_, ?_⟩
 ·exact (World.cell?_setCell_other (w := w) (a := ⟨b, 1, none⟩) (b := ⟨b, 0, none⟩) (v := _) (h := by simp)).trans h.txt
 ·exact World.cell?_setCell_same (w := w) (a := ⟨b, 1, none⟩) (v := _) (h := h.pos)
 ·rw [World.frozen?_setCell]; exact h.fz0
 ·rw [World.frozen?_setCell]; exact h.fz1

structure Cap (most v k : Nat) : Prop where
 eq : v ≤ most → k = v
 gt : most < v → most < k
 le : k ≤ 10 * most + 9
theorem Cap.below {most v k d : Nat} (h : Cap most v k) (hd : d ≤ 9) (hk : k ≤ most) : Cap most (v * 10 + d) (10 * k + d) := by
 have h1 := h.eq
 have h2 := h.gt
 refine ⟨?_, ?_, by omega⟩ <;> omega
theorem Cap.above {most v k d : Nat} (h : Cap most v k) (hk : most < k) : Cap most (v * 10 + d) k := by
 have h1 := h.eq
 have h2 := h.gt
 have h3 := h.le
 refine ⟨?_, ?_, by omega⟩ <;> omega
set_option linter.unusedVariables false
theorem hide' {p : Prop} (h : p) : Hid p := h
def Tab (w : World) (v : Value) (xs : List Int) : Prop :=
 (xs = [] ∧ v = .slice none 0 0) ∨ ∃ g cap, v = .slice (some ⟨g, 0, none⟩) xs.length cap ∧ g < w.heap.size ∧ ∀ k (h : k < xs.length), w.cell? ⟨g, k, none⟩ = some (.int .i64 xs[k])
def Fresh (w : World) (v : Value) : Prop := ∀ g k c, v = .slice (some ⟨g, 0, none⟩) k c → w.heap.size ≤ g
theorem Fresh.nil (w : World) : Fresh w (.slice none 0 0) := fun _ _ _ h => by injection h with h1; cases h1
theorem Fresh.mk {w : World} {g k c : Nat} (h : w.heap.size ≤ g) : Fresh w (.slice (some ⟨g, 0, none⟩) k c) := fun g' _ _ q => by
 injection q with q1; injection q1 with q2; injection q2 with q3; omega
def Out.val (o : Out) (v : Value) : Value := .agg #[.int .i64 o.kind, .int .i64 o.born, .int .i64 o.stay, .int .i64 o.states, .int .i64 o.radius, v, .string o.turns]
def zeroCells : Array Value := #[.int .i64 0, .int .i64 0, .int .i64 0, .int .i64 0, .int .i64 0, .slice none 0 0, .string ⟨#[]⟩]
theorem Rd.made {b : Nat} {w w' : World} {C : Array Value} {t : TypeId} (h : Rd b (w.alloc (.cells C t)) w') (hb : b < w.heap.size) :
  (∀ j, w'.cell? ⟨w.heap.size, j, none⟩ = C[j]?) ∧ (∀ j, w'.frozen? ⟨w.heap.size, j, none⟩ = false) := by
 refine ⟨fun j => ?_, fun j => ?_⟩
 ·rw [h.cell w.heap.size j (by simp) (by omega)]; simp
 ·rw [h.frozen w.heap.size j (by simp) (by omega)]; simp
theorem hide {p : Prop} (h : p) : Hid p := h
theorem unhide {p : Prop} (h : Hid p) : p := h
structure Fill (g n k : Nat) (f : Nat → Int) (w : World) : Prop where
 lt : g < w.heap.size
 cells : ∀ j, j < n → ∃ v, w.cell? ⟨g, j, none⟩ = some v ∧ (j < k → v = .int .i64 (f j))
 fz : ∀ j, w.frozen? ⟨g, j, none⟩ = false
theorem Fill.start (w : World) (n : Nat) (f : Nat → Int) (z : Value) (t : TypeId) : Fill w.heap.size n 0 f (w.alloc (.cells (madeCells #[z] n) t)) := by
 refine ⟨by simp, fun j hj => ⟨(madeCells #[z] n)[j]'(by rw [size_madeCells]; exact hj), ?_, by omega⟩, fun j => by simp⟩
 rw [World.cell?_alloc_at _ _ _ _ rfl]
 exact Array.getElem?_eq_getElem (by rw [size_madeCells]; exact hj)
theorem Fill.step {g n k : Nat} {f : Nat → Int} {w : World} (h : Fill g n k f w) (hk : k < n) : Fill g n (k + 1) f (w.setCell ⟨g, k, none⟩ (.int .i64 (f k))) := by
 refine ⟨by rw [World.size_setCell]; exact h.lt, fun j hj => ?_, fun j => by rw [World.frozen?_setCell]; exact h.fz j⟩
 by_cases e : j = k
 ·subst e
  obtain ⟨v, hv, -⟩ := h.cells j hj
  exact ⟨_, World.cell?_setCell_same (w := w) (a := ⟨g, j, none⟩) (v := _) (h := hv), fun _ => rfl⟩
 ·obtain ⟨v, hv, hv'⟩ := h.cells j hj
  refine ⟨v, ?_, fun _ => hv' (by omega)⟩
  exact (World.cell?_setCell_other (w := w) (a := ⟨g, k, none⟩) (b := ⟨g, j, none⟩) (v := _) (h := fun q => e (congrArg Addr.off q).symm)).trans hv
theorem Fill.rd {b g n k : Nat} {f : Nat → Int} {w w' : World} (h : Fill g n k f w) (r : Rd b w w') (hb : g ≠ b) : Fill g n k f w' := by
 refine ⟨Nat.lt_of_lt_of_le h.lt r.size, fun j hj => ?_, fun j => ?_⟩
 ·obtain ⟨v, hv, hv'⟩ := h.cells j hj
  exact ⟨v, by rw [r.cell g j h.lt hb]; exact hv, hv'⟩
 ·rw [r.frozen g j h.lt hb]; exact h.fz j
theorem Fill.other {g n k : Nat} {f : Nat → Int} {w : World} (h : Fill g n k f w) {p : Addr} (hp : g ≠ p.block) (u : Value) : Fill g n k f (w.setCell p u) := by
 have e : (w.setCell p u).heap[g]? = w.heap[g]? := Below.heap_setCell _ _ _ _ hp
 refine ⟨by rw [World.size_setCell]; exact h.lt, fun j hj => ?_, fun j => ?_⟩
 ·obtain ⟨v, hv, hv'⟩ := h.cells j hj
  exact ⟨v, (World.cell?_of_block (w := w) (a := ⟨g, j, none⟩) e).trans hv, hv'⟩
 ·exact (World.frozen?_of_block (w := w) (a := ⟨g, j, none⟩) e).trans (h.fz j)
theorem Fill.tab {g n cap : Nat} {f : Nat → Int} {w : World} (h : Fill g n n f w) : Tab w (.slice (some ⟨g, 0, none⟩) n cap) ((List.range n).map f) := by
 refine Or.inr ⟨g, cap, by simp, h.lt, fun k hk => ?_⟩
 simp at hk
 obtain ⟨v, hv, hv'⟩ := h.cells k hk
 rw [hv, hv' hk]; simp
theorem Tab.other {w : World} {v : Value} {xs : List Int} (h : Tab w v xs) {p : Addr} (u : Value) (hp : ∀ g c, v = .slice (some ⟨g, 0, none⟩) xs.length c → g ≠ p.block) : Tab (w.setCell p u) v xs := by
 rcases h with h | ⟨g, cap, hv, hg, hc⟩
 ·exact Or.inl h
 ·have e : (w.setCell p u).heap[g]? = w.heap[g]? := Below.heap_setCell _ _ _ _ (hp g cap hv)
  exact Or.inr ⟨g, cap, hv, by rw [World.size_setCell]; exact hg, fun k hk => (World.cell?_of_block (w := w) (a := ⟨g, k, none⟩) e).trans (hc k hk)⟩
def entF (n : Nat) : Nat → Nat → Nat
 | 0, e => e
 | f + 1, e => if e ≤ 4096 then entF n f (e * (n * n)) else e
def entOf (n m : Nat) : Nat := entF n m n
theorem entF_stop {n e : Nat} (h : ¬ e ≤ 4096) : ∀ f, entF n f e = e
 | 0 => rfl
 | f + 1 => by simp [entF, h]
def powS (a n : Nat) : Nat := if a ^ n ≤ 4096 then a ^ n else 5000
theorem pow_grows {a k n : Nat} (ha : 1 ≤ a) (hk : k ≤ n) (h : 4096 < a ^ k) : powS a n = 5000 := by
 have : a ^ k ≤ a ^ n := Nat.pow_le_pow_right ha hk
 unfold powS
 rw [if_neg (by omega)]
set_option maxHeartbeats 800000 in
theorem power_2 (n : Nat) (w : World) (hn : n ≤ 1000000) :
  Calls Tryz.prog 22 #[.int .i64 2, .int .i64 (n : Int)] w fun e w' => e = .returned (.int .i64 ((powS 2 n : Nat) : Int)) ∧ w' = w := by
 go_enter Tryz.func22, Tryz.ntmps22
 go_wp2
 go_loop [5, 6] (fun pv iv => ∃ k p : Nat, iv = .int .i64 (k : Int) ∧ pv = .int .i64 (p : Int) ∧ k ≤ n ∧ p ≤ 4096 ∧ p = 2 ^ k) (fun _ iv => n - (intOf iv).toNat)
 case atStart => exact ⟨0, 1, rfl, rfl, by omega, by omega, rfl⟩
 case round =>
  obtain ⟨k, p, rfl, rfl, hk, hp, hpk⟩ := hrel
  have HP := hide' hpk
  have HQ := hide' (show p * 2 = 2 ^ (k + 1) by rw [Nat.pow_succ, ← hpk])
  clear hpk
  by_cases hkn : (k : Int) < (n : Int)
  ·by_cases hc : (p : Int) * 2 ≤ 4096
   ·have hc' : ¬ 4096 < (p : Int) * 2 := by omega
    go_wp2
    exact ⟨⟨k + 1, p * 2, by go_num, by go_num, by omega, by omega, HQ.out⟩, by simp [intOf]; omega⟩
   ·have hc' : 4096 < (p : Int) * 2 := by omega
    have X := hide' (pow_grows (a := 2) (k := k + 1) (n := n) (by omega) (by omega) (by rw [← HQ.out]; omega))
    go_wp2
    go_ret
    rw [X.out]
    exact ⟨rfl, rfl⟩
  ·have hkk : k = n := by omega
   have X := hide' (show powS 2 n = p by
    have h1 := HP.out
    rw [hkk] at h1
    unfold powS
    rw [← h1, if_pos hp])
   clear hkk
   go_wp2
   go_ret
   rw [X.out]
   exact ⟨rfl, rfl⟩
set_option maxHeartbeats 800000 in
theorem power_3 (n : Nat) (w : World) (hn : n ≤ 1000000) :
  Calls Tryz.prog 22 #[.int .i64 3, .int .i64 (n : Int)] w fun e w' => e = .returned (.int .i64 ((powS 3 n : Nat) : Int)) ∧ w' = w := by
 go_enter Tryz.func22, Tryz.ntmps22
 go_wp2
 go_loop [5, 6] (fun pv iv => ∃ k p : Nat, iv = .int .i64 (k : Int) ∧ pv = .int .i64 (p : Int) ∧ k ≤ n ∧ p ≤ 4096 ∧ p = 3 ^ k) (fun _ iv => n - (intOf iv).toNat)
 case atStart => exact ⟨0, 1, rfl, rfl, by omega, by omega, rfl⟩
 case round =>
  obtain ⟨k, p, rfl, rfl, hk, hp, hpk⟩ := hrel
  have HP := hide' hpk
  have HQ := hide' (show p * 3 = 3 ^ (k + 1) by rw [Nat.pow_succ, ← hpk])
  clear hpk
  by_cases hkn : (k : Int) < (n : Int)
  ·by_cases hc : (p : Int) * 3 ≤ 4096
   ·have hc' : ¬ 4096 < (p : Int) * 3 := by omega
    go_wp2
    exact ⟨⟨k + 1, p * 3, by go_num, by go_num, by omega, by omega, HQ.out⟩, by simp [intOf]; omega⟩
   ·have hc' : 4096 < (p : Int) * 3 := by omega
    have X := hide' (pow_grows (a := 3) (k := k + 1) (n := n) (by omega) (by omega) (by rw [← HQ.out]; omega))
    go_wp2
    go_ret
    rw [X.out]
    exact ⟨rfl, rfl⟩
  ·have hkk : k = n := by omega
   have X := hide' (show powS 3 n = p by
    have h1 := HP.out
    rw [hkk] at h1
    unfold powS
    rw [← h1, if_pos hp])
   clear hkk
   go_wp2
   go_ret
   rw [X.out]
   exact ⟨rfl, rfl⟩
set_option maxHeartbeats 800000 in
theorem power_4 (n : Nat) (w : World) (hn : n ≤ 1000000) :
  Calls Tryz.prog 22 #[.int .i64 4, .int .i64 (n : Int)] w fun e w' => e = .returned (.int .i64 ((powS 4 n : Nat) : Int)) ∧ w' = w := by
 go_enter Tryz.func22, Tryz.ntmps22
 go_wp2
 go_loop [5, 6] (fun pv iv => ∃ k p : Nat, iv = .int .i64 (k : Int) ∧ pv = .int .i64 (p : Int) ∧ k ≤ n ∧ p ≤ 4096 ∧ p = 4 ^ k) (fun _ iv => n - (intOf iv).toNat)
 case atStart => exact ⟨0, 1, rfl, rfl, by omega, by omega, rfl⟩
 case round =>
  obtain ⟨k, p, rfl, rfl, hk, hp, hpk⟩ := hrel
  have HP := hide' hpk
  have HQ := hide' (show p * 4 = 4 ^ (k + 1) by rw [Nat.pow_succ, ← hpk])
  clear hpk
  by_cases hkn : (k : Int) < (n : Int)
  ·by_cases hc : (p : Int) * 4 ≤ 4096
   ·have hc' : ¬ 4096 < (p : Int) * 4 := by omega
    go_wp2
    exact ⟨⟨k + 1, p * 4, by go_num, by go_num, by omega, by omega, HQ.out⟩, by simp [intOf]; omega⟩
   ·have hc' : 4096 < (p : Int) * 4 := by omega
    have X := hide' (pow_grows (a := 4) (k := k + 1) (n := n) (by omega) (by omega) (by rw [← HQ.out]; omega))
    go_wp2
    go_ret
    rw [X.out]
    exact ⟨rfl, rfl⟩
  ·have hkk : k = n := by omega
   have X := hide' (show powS 4 n = p by
    have h1 := HP.out
    rw [hkk] at h1
    unfold powS
    rw [← h1, if_pos hp])
   clear hkk
   go_wp2
   go_ret
   rw [X.out]
   exact ⟨rfl, rfl⟩
theorem power_any (a n : Nat) (A N : Int) (w : World) (hA : A = a) (hN : N = n) (ha : 2 ≤ a) (ha' : a ≤ 4) (hn : n ≤ 1000000) :
  Calls Tryz.prog 22 #[.int .i64 A, .int .i64 N] w fun e w' => e = .returned (.int .i64 ((powS a n : Nat) : Int)) ∧ w' = w := by
 subst hA hN
 have h1 : a = 2 ∨ a = 3 ∨ a = 4 := by omega
 rcases h1 with rfl | rfl | rfl
 ·exact power_2 n w hn
 ·exact power_3 n w hn
 ·exact power_4 n w hn
theorem Tab.alloc' {w : World} {v : Value} {xs : List Int} (h : Tab w v xs) (o : Obj) : Tab (w.alloc o) v xs := by
 rcases h with h | ⟨g, cap, hv, hg, hc⟩
 ·exact Or.inl h
 ·have e : (w.alloc o).heap[g]? = w.heap[g]? := Below.heap_alloc _ _ _ hg
  exact Or.inr ⟨g, cap, hv, by rw [World.size_alloc]; omega, fun k hk => (World.cell?_of_block (w := w) (a := ⟨g, k, none⟩) e).trans (hc k hk)⟩
set_option maxHeartbeats 800000 in
theorem Ints_two (xs : List Int) (a b : Option Addr) (n ca cb : Nat) (w : World) (hn : n = xs.length) (hm : n ≤ maxLen)
  (ha : ∀ k (h : k < xs.length), ∃ g, a = some ⟨g, 0, none⟩ ∧ w.cell? ⟨g, k, none⟩ = some (.int .i64 xs[k])) (hb : ∀ k (h : k < xs.length), ∃ g, b = some ⟨g, 0, none⟩ ∧ w.cell? ⟨g, k, none⟩ = some (.int .i64 xs[k])) :
  Calls Tryz.prog 72 #[.slice a n ca, .slice b n cb] w fun e w' => e = .returned (.bool true) ∧ ∃ m, w' = w.drewN m := by
 unfold maxLen at hm
 have HA := hide' ha
 have HB := hide' hb
 have HN := hide' hn
 clear ha hb hn
 go_enter Tryz.func72, Tryz.ntmps72
 go_wp2
 go_loopw [5] (fun iv wr => ∃ k m : Nat, iv = .int .i64 (k : Int) ∧ k ≤ n ∧ wr = w.drewN m) (fun iv _ => n - (intOf iv).toNat)
 case atStart => exact ⟨0, 0, rfl, by omega, rfl⟩
 case round =>
  obtain ⟨k, m, rfl, hk, rfl⟩ := hrel
  by_cases hkn : (k : Int) < (n : Int)
  ·have hlt : k < xs.length := by have := HN.out; omega
   obtain ⟨ga, rfl, c1⟩ := HA.out k hlt
   obtain ⟨gb, rfl, c2⟩ := HB.out k hlt
   go_wp2
   go_quiet (fail)
   go_wp2
   exact ⟨⟨k + 1, m + nq, by go_num, by omega, rfl⟩, by simp [intOf]; omega⟩
  ·go_wp2
   go_ret
   exact ⟨rfl, m, rfl⟩
theorem Tab.parts {w : World} {v : Value} {xs : List Int} (h : Tab w v xs) :
  ∃ a c, v = .slice a xs.length c ∧ ∀ k (h : k < xs.length), ∃ g, a = some ⟨g, 0, none⟩ ∧ w.cell? ⟨g, k, none⟩ = some (.int .i64 xs[k]) := by
 rcases h with ⟨rfl, rfl⟩ | ⟨g, cap, rfl, hg, hc⟩
 ·exact ⟨none, 0, rfl, fun k h => absurd h (by simp)⟩
 ·exact ⟨_, cap, rfl, fun k h => ⟨g, rfl, hc k h⟩⟩
theorem Ints_same (xs : List Int) (va vb : Value) (w : World) (ha : Tab w va xs) (hb : Tab w vb xs) (hm : xs.length ≤ maxLen) :
  Calls Tryz.prog 72 #[va, vb] w fun e w' => e = .returned (.bool true) ∧ ∃ m, w' = w.drewN m := by
 obtain ⟨a, ca, rfl, pa⟩ := ha.parts
 obtain ⟨b, cb, rfl, pb⟩ := hb.parts
 exact Ints_two xs a b xs.length ca cb w rfl hm pa pb
theorem info_int : (Tryz.prog.info? 3).map (fun i => (i.zero, i.size, i.bytes)) = some (some (.int .i64 0), 1, 8) := by kernel_rfl
theorem Tab.slice {w : World} {v : Value} {xs : List Int} (h : Tab w v xs) : ∃ a n c, v = .slice a n c := by
 rcases h with ⟨-, h⟩ | ⟨g, cap, h, -, -⟩
 ·exact ⟨_, _, _, h⟩
 ·exact ⟨_, _, _, h⟩
theorem ownsRow_block {w : World} {base : Nat} {e : TypeId} {v : Value} {n : Nat} {xs : List Value} (h : w.ownsRow base e 1 v n xs) : ∀ k, v.ownBlock = some k → base ≤ k := by
 intro k hk
 rcases h.2 with ⟨hv, -⟩ | ⟨g, cap, cur, hv, hg, -⟩
 ·rw [hv] at hk; cases hk
 ·rw [hv] at hk
  have : g = k := by simpa [Value.ownBlock] using hk
  omega
theorem ownsRow_slice {w : World} {base : Nat} {e : TypeId} {v : Value} {n : Nat} {xs : List Value} (h : w.ownsRow base e 1 v n xs) : ∃ a m c, v = .slice a m c := by
 rcases h.2 with ⟨hv, -⟩ | ⟨g, cap, cur, hv, -⟩
 ·exact ⟨_, _, _, hv⟩
 ·exact ⟨_, _, _, hv⟩
theorem ownsRow_tab {w : World} {base : Nat} {e : TypeId} {v : Value} {xs : List Int} (h : w.ownsRow base e 1 v xs.length (xs.map fun x => .int .i64 x)) : Tab w v xs := by
 rcases h.2 with ⟨hv, hn⟩ | ⟨g, cap, cur, hv, hg, hh, hc, hm, hs, ht⟩
 ·exact Or.inl ⟨List.eq_nil_of_length_eq_zero hn, hv⟩
 ·refine Or.inr ⟨g, cap, hv, ?_, fun k hk => ?_⟩
  ·exact (Array.getElem?_eq_some_iff.1 hh).1
  ·have h1 : (cur.toList.take (xs.length * 1))[k]? = some (.int .i64 xs[k]) := by
    rw [ht, List.getElem?_map, List.getElem?_eq_getElem hk]; rfl
   rw [List.getElem?_take] at h1
   simp only [World.cell?, hh]
   have : k < xs.length * 1 := by omega
   rw [if_pos this] at h1
   simpa using h1
theorem grownBy_drew {w w' : World} {r : Option Nat} (h : w.drew.grownBy w' r) : w.grownBy w' r := ⟨h.os, h.tape, h.output, h.size, h.block⟩
theorem cell_all_new (w : World) (cs : Array Value) (u k : Nat) : (w.alloc (.cells cs u)).drew.cell? ⟨w.heap.size, k, none⟩ = cs[k]? := by
 have h : (w.alloc (.cells cs u)).heap[w.heap.size]? = some (.cells cs u) := by unfold World.alloc; simp
 show (w.alloc (.cells cs u)).cell? _ = _
 simp only [World.cell?, h]
 rfl
theorem cell_new_at (w : World) (cs : Array Value) (u k : Nat) : (w.alloc (.cells cs u)).cell? ⟨w.heap.size, k, none⟩ = cs[k]? := cell_all_new w cs u k



theorem isTurn_any (c : Int) (w : World) :
  Calls Tryz.prog 106 #[.int .u8 c] w fun e w' => e = .returned (.bool (c == 76 || c == 82)) ∧ w' = w := by
 cases h1 : (c == 76)
 ·cases h2 : (c == 82)
  ·go_enter Tryz.func106, Tryz.ntmps106
   go_wp2
   go_ret
   exact ⟨rfl, rfl⟩
  ·go_enter Tryz.func106, Tryz.ntmps106
   go_wp2
   go_ret
   exact ⟨rfl, rfl⟩
 ·go_enter Tryz.func106, Tryz.ntmps106
  go_wp2
  go_ret
  exact ⟨rfl, rfl⟩
theorem isTurn_yes (c : Int) (w : World) (h : c = 76 ∨ c = 82) :
  Calls Tryz.prog 106 #[.int .u8 c] w fun e w' => e = .returned (.bool true) ∧ w' = w := by
 refine (isTurn_any c w).mono fun e w' ⟨he, hw⟩ => ⟨?_, hw⟩
 rw [he, show (c == 76 || c == 82) = true by simp; omega]
theorem isTurn_no (c : Int) (w : World) (h : ¬ (c = 76 ∨ c = 82)) :
  Calls Tryz.prog 106 #[.int .u8 c] w fun e w' => e = .returned (.bool false) ∧ w' = w := by
 refine (isTurn_any c w).mono fun e w' ⟨he, hw⟩ => ⟨?_, hw⟩
 rw [he, show (c == 76 || c == 82) = false by simp; omega]
theorem Rd.of_below {b : Nat} {w w' : World} (h : Below w.heap.size w w') : Rd b w w' := ⟨h.os, h.tape, h.output, h.size, fun k hk _ => h.block k hk⟩
theorem At.below {b : Nat} {s : ByteArray} {i : Nat} {w w' : World} (h : At b s i w) (hb : Below w.heap.size w w') : At b s i w' := by
 have e := hb.block b h.lt
 exact ⟨(World.cell?_of_block (w := w) (a := ⟨b, 0, none⟩) e).trans h.txt, (World.cell?_of_block (w := w) (a := ⟨b, 1, none⟩) e).trans h.pos,
  (World.frozen?_of_block (w := w) (a := ⟨b, 0, none⟩) e).trans h.fz0, (World.frozen?_of_block (w := w) (a := ⟨b, 1, none⟩) e).trans h.fz1⟩
theorem At.drew {b : Nat} {s : ByteArray} {i : Nat} {w : World} (h : At b s i w) : At b s i w.drew := ⟨h.txt, h.pos, h.fz0, h.fz1⟩
end Go.Proofs.YtemhcpldflcfbaaGreatDoor
