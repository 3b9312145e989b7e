/-
  What the last text of this claim leans on, part 2: Ref2, Ow, PSpec, Pa1, Pa2, Pa3, Pa4, Pa5, Pa6, Al1, Wa1, In1.
-/
import Derived.Test.YtjjdjdodhedihaaDoorJl1
import Derived.Deep.AppendLies
import Derived.Deep.OwnRows
import Derived.Deep.RegionHeld3
import Derived.Deep.RegionLaw
import Derived.Deep.RegionWith
import Derived.Laws.IdiomStrings
import Derived.Laws.MakeOwn
import Derived.Lib.BufferWrite
import Derived.Lib.Hide
import Derived.Lib.Walk
import Derived.WalkKit
import Derived.WalkSmall
namespace Go.Proofs.YtjjdjdodhedihaaDoor
open Go.RowKit
set_option linter.unusedVariables false

/-- a to the n, or 5000 above 4096. -/
def powS (a n : Nat) : Nat := if a ^ n ≤ 4096 then a ^ n else 5000

theorem pow_grows {a k n : Nat} (ha : 1 ≤ a) (hk : k ≤ n) (h : 4096 < a ^ k) : powS a n = 5000 := by
  have : a ^ k ≤ a ^ n := Nat.pow_le_pow_right ha hk
  unfold powS
  rw [if_neg (by omega)]

set_option maxHeartbeats 800000 in
theorem power_2 (n : Nat) (w : World) (hn : n ≤ 1000000) :
    Calls Tryd.prog 86 #[.int .i64 2, .int .i64 (n : Int)] w fun e w' => e = .returned (.int .i64 ((powS 2 n : Nat) : Int)) ∧ w' = w := by
  go_enter Tryd.func86, Tryd.ntmps86
  go_wp2
  go_loop [5, 6] (fun pv iv => ∃ k p : Nat, iv = .int .i64 (k : Int) ∧ pv = .int .i64 (p : Int) ∧ k ≤ n ∧ p ≤ 4096 ∧ p = 2 ^ k) (fun _ iv => n - (intOf iv).toNat)
  case atStart => exact ⟨0, 1, rfl, rfl, by omega, by omega, rfl⟩
  case round =>
    obtain ⟨k, p, rfl, rfl, hk, hp, hpk⟩ := hrel
    have HP := hide' hpk
    have HQ := hide' (show p * 2 = 2 ^ (k + 1) by rw [Nat.pow_succ, ← hpk])
    clear hpk
    by_cases hkn : (k : Int) < (n : Int)
    · by_cases hc : (p : Int) * 2 ≤ 4096
      · have hc' : ¬ 4096 < (p : Int) * 2 := by omega
        go_wp2
        exact ⟨⟨k + 1, p * 2, by go_num, by go_num, by omega, by omega, HQ.out⟩, by simp [intOf]; omega⟩
      · have hc' : 4096 < (p : Int) * 2 := by omega
        have X := hide' (pow_grows (a := 2) (k := k + 1) (n := n) (by omega) (by omega) (by rw [← HQ.out]; omega))
        go_wp2
        go_ret
        rw [X.out]
        exact ⟨rfl, rfl⟩
    · have hkk : k = n := by omega
      have X := hide' (show powS 2 n = p by
        have h1 := HP.out
        rw [hkk] at h1
        unfold powS
        rw [← h1, if_pos hp])
      clear hkk
      go_wp2
      go_ret
      rw [X.out]
      exact ⟨rfl, rfl⟩

set_option maxHeartbeats 800000 in
theorem power_3 (n : Nat) (w : World) (hn : n ≤ 1000000) :
    Calls Tryd.prog 86 #[.int .i64 3, .int .i64 (n : Int)] w fun e w' => e = .returned (.int .i64 ((powS 3 n : Nat) : Int)) ∧ w' = w := by
  go_enter Tryd.func86, Tryd.ntmps86
  go_wp2
  go_loop [5, 6] (fun pv iv => ∃ k p : Nat, iv = .int .i64 (k : Int) ∧ pv = .int .i64 (p : Int) ∧ k ≤ n ∧ p ≤ 4096 ∧ p = 3 ^ k) (fun _ iv => n - (intOf iv).toNat)
  case atStart => exact ⟨0, 1, rfl, rfl, by omega, by omega, rfl⟩
  case round =>
    obtain ⟨k, p, rfl, rfl, hk, hp, hpk⟩ := hrel
    have HP := hide' hpk
    have HQ := hide' (show p * 3 = 3 ^ (k + 1) by rw [Nat.pow_succ, ← hpk])
    clear hpk
    by_cases hkn : (k : Int) < (n : Int)
    · by_cases hc : (p : Int) * 3 ≤ 4096
      · have hc' : ¬ 4096 < (p : Int) * 3 := by omega
        go_wp2
        exact ⟨⟨k + 1, p * 3, by go_num, by go_num, by omega, by omega, HQ.out⟩, by simp [intOf]; omega⟩
      · have hc' : 4096 < (p : Int) * 3 := by omega
        have X := hide' (pow_grows (a := 3) (k := k + 1) (n := n) (by omega) (by omega) (by rw [← HQ.out]; omega))
        go_wp2
        go_ret
        rw [X.out]
        exact ⟨rfl, rfl⟩
    · have hkk : k = n := by omega
      have X := hide' (show powS 3 n = p by
        have h1 := HP.out
        rw [hkk] at h1
        unfold powS
        rw [← h1, if_pos hp])
      clear hkk
      go_wp2
      go_ret
      rw [X.out]
      exact ⟨rfl, rfl⟩

set_option maxHeartbeats 800000 in
theorem power_4 (n : Nat) (w : World) (hn : n ≤ 1000000) :
    Calls Tryd.prog 86 #[.int .i64 4, .int .i64 (n : Int)] w fun e w' => e = .returned (.int .i64 ((powS 4 n : Nat) : Int)) ∧ w' = w := by
  go_enter Tryd.func86, Tryd.ntmps86
  go_wp2
  go_loop [5, 6] (fun pv iv => ∃ k p : Nat, iv = .int .i64 (k : Int) ∧ pv = .int .i64 (p : Int) ∧ k ≤ n ∧ p ≤ 4096 ∧ p = 4 ^ k) (fun _ iv => n - (intOf iv).toNat)
  case atStart => exact ⟨0, 1, rfl, rfl, by omega, by omega, rfl⟩
  case round =>
    obtain ⟨k, p, rfl, rfl, hk, hp, hpk⟩ := hrel
    have HP := hide' hpk
    have HQ := hide' (show p * 4 = 4 ^ (k + 1) by rw [Nat.pow_succ, ← hpk])
    clear hpk
    by_cases hkn : (k : Int) < (n : Int)
    · by_cases hc : (p : Int) * 4 ≤ 4096
      · have hc' : ¬ 4096 < (p : Int) * 4 := by omega
        go_wp2
        exact ⟨⟨k + 1, p * 4, by go_num, by go_num, by omega, by omega, HQ.out⟩, by simp [intOf]; omega⟩
      · have hc' : 4096 < (p : Int) * 4 := by omega
        have X := hide' (pow_grows (a := 4) (k := k + 1) (n := n) (by omega) (by omega) (by rw [← HQ.out]; omega))
        go_wp2
        go_ret
        rw [X.out]
        exact ⟨rfl, rfl⟩
    · have hkk : k = n := by omega
      have X := hide' (show powS 4 n = p by
        have h1 := HP.out
        rw [hkk] at h1
        unfold powS
        rw [← h1, if_pos hp])
      clear hkk
      go_wp2
      go_ret
      rw [X.out]
      exact ⟨rfl, rfl⟩

theorem power_any (a n : Nat) (A N : Int) (w : World) (hA : A = a) (hN : N = n) (ha : 2 ≤ a) (ha' : a ≤ 4) (hn : n ≤ 1000000) :
    Calls Tryd.prog 86 #[.int .i64 A, .int .i64 N] w fun e w' => e = .returned (.int .i64 ((powS a n : Nat) : Int)) ∧ w' = w := by
  subst hA hN
  have h1 : a = 2 ∨ a = 3 ∨ a = 4 := by omega
  rcases h1 with rfl | rfl | rfl
  · exact power_2 n w hn
  · exact power_3 n w hn
  · exact power_4 n w hn

theorem Tab.parts {w : World} {v : Value} {xs : List Int} (h : Tab w v xs) :
    ∃ a c, v = .slice a xs.length c ∧ ∀ k (h : k < xs.length), ∃ g, a = some ⟨g, 0, none⟩ ∧ w.cell? ⟨g, k, none⟩ = some (.int .i64 xs[k]) := by
  rcases h with ⟨rfl, rfl⟩ | ⟨g, cap, rfl, hg, hc⟩
  · exact ⟨none, 0, rfl, fun k h => absurd h (by simp)⟩
  · exact ⟨_, cap, rfl, fun k h => ⟨g, rfl, hc k h⟩⟩

end Go.Proofs.YtjjdjdodhedihaaDoor

namespace Go.Proofs.YtjjdjdodhedihaaDoor
open Go.RowKit
set_option linter.unusedVariables false

theorem info_int : (Tryd.prog.info? 3).map (fun i => (i.zero, i.size, i.bytes)) = some (some (.int .i64 0), 1, 8) := by kernel_rfl
theorem Tab.slice {w : World} {v : Value} {xs : List Int} (h : Tab w v xs) : ∃ a n c, v = .slice a n c := by
  rcases h with ⟨-, h⟩ | ⟨g, cap, h, -, -⟩
  · exact ⟨_, _, _, h⟩
  · exact ⟨_, _, _, h⟩
theorem ownsRow_block {w : World} {base : Nat} {e : TypeId} {v : Value} {n : Nat} {xs : List Value} (h : w.ownsRow base e 1 v n xs) : ∀ k, v.ownBlock = some k → base ≤ k := by
  intro k hk
  rcases h.2 with ⟨hv, -⟩ | ⟨g, cap, cur, hv, hg, -⟩
  · rw [hv] at hk; cases hk
  · rw [hv] at hk
    have : g = k := by simpa [Value.ownBlock] using hk
    omega
theorem cell_all_new (w : World) (cs : Array Value) (u k : Nat) : (w.alloc (.cells cs u)).drew.cell? ⟨w.heap.size, k, none⟩ = cs[k]? := by
  have h : (w.alloc (.cells cs u)).heap[w.heap.size]? = some (.cells cs u) := by unfold World.alloc; simp
  show (w.alloc (.cells cs u)).cell? _ = _
  simp only [World.cell?, h]
  rfl
end Go.Proofs.YtjjdjdodhedihaaDoor

namespace Go.Proofs.YtjjdjdodhedihaaDoor

/-- One tag, at j: on, done, or wrong. -/
abbrev Go1 : Type := (Nat × Nat × Nat × List Int) ⊕ (List Int ⊕ (Nat × Nat))
abbrev Go1.on (i x y : Nat) (xs : List Int) : Go1 := Sum.inl (i, x, y, xs)
abbrev Go1.done (xs : List Int) : Go1 := Sum.inr (Sum.inl xs)
end Go.Proofs.YtjjdjdodhedihaaDoor

namespace Go.Proofs.YtjjdjdodhedihaaDoor
open Go.RowKit
set_option linter.unusedVariables false

/-- What the reader holds, its text aside. -/
structure Rv where
  i : Nat
  fl : Int
  wd : Int
  hi : Int
  cs : Value
  rt : Int
  dn : Int
  bg : Int
  tm : Int

def Rv.val (r : Rv) (s : ByteArray) : Nat → Value
  | 0 => .string s
  | 1 => .int .i64 (r.i : Int)
  | 2 => .int .i64 r.fl
  | 3 => .int .i64 r.wd
  | 4 => .int .i64 r.hi
  | 5 => r.cs
  | 6 => .int .i64 r.rt
  | 7 => .int .i64 r.dn
  | 8 => .int .i64 r.bg
  | 9 => .int .i64 r.tm
  | _ => .bool false

structure RAt (b : Nat) (s : ByteArray) (r : Rv) (w : World) : Prop where
  cell : ∀ k, k < 10 → w.cell? ⟨b, k, none⟩ = some (r.val s k)
  fz : ∀ k, k < 10 → w.frozen? ⟨b, k, none⟩ = false

theorem RAt.lt {b : Nat} {s : ByteArray} {r : Rv} {w : World} (h : RAt b s r w) : b < w.heap.size := by
  rcases Nat.lt_or_ge b w.heap.size with k | k
  · exact k
  · have := h.cell 0 (by omega); simp [World.cell?, Array.getElem?_eq_none k] at this
theorem RAt.block {b : Nat} {s : ByteArray} {r : Rv} {w w' : World} (h : RAt b s r w) (e : w'.heap[b]? = w.heap[b]?) : RAt b s r w' :=
  ⟨fun k hk => (World.cell?_of_block (w := w) (a := ⟨b, k, none⟩) e).trans (h.cell k hk), fun k hk => (World.frozen?_of_block (w := w) (a := ⟨b, k, none⟩) e).trans (h.fz k hk)⟩
theorem RAt.drewN {b : Nat} {s : ByteArray} {r : Rv} {w : World} (h : RAt b s r w) (n : Nat) : RAt b s r (w.drewN n) := h.block rfl
theorem RAt.alloc {b : Nat} {s : ByteArray} {r : Rv} {w : World} (h : RAt b s r w) (o : Obj) : RAt b s r (w.alloc o) := h.block (Below.heap_alloc _ _ _ h.lt)
theorem RAt.setOther {b : Nat} {s : ByteArray} {r : Rv} {w : World} (h : RAt b s r w) {p : Addr} (hp : b ≠ p.block) (u : Value) : RAt b s r (w.setCell p u) := h.block (Below.heap_setCell _ _ _ _ hp)
theorem RAt.below {b : Nat} {s : ByteArray} {r : Rv} {w w' : World} (h : RAt b s r w) (hb : Below w.heap.size w w') : RAt b s r w' := h.block (hb.block b h.lt)
theorem RAt.set {b : Nat} {s : ByteArray} {r r' : Rv} {w : World} (h : RAt b s r w) (k : Nat) (u : Value) (hk : k < 10) (h1 : r'.val s k = u) (h2 : ∀ j, j < 10 → j ≠ k → r'.val s j = r.val s j) : RAt b s r' (w.setCell ⟨b, k, none⟩ u) := by
  refine ⟨fun j hj => ?_, fun j hj => by rw [World.frozen?_setCell]; exact h.fz j hj⟩
  by_cases e : j = k
  · subst e; rw [h1]; exact World.cell?_setCell_same (w := w) (a := ⟨b, j, none⟩) (v := _) (h := h.cell j hj)
  · rw [h2 j hj e]; exact (World.cell?_setCell_other (w := w) (a := ⟨b, k, none⟩) (b := ⟨b, j, none⟩) (v := _) (h := fun q => e (congrArg Addr.off q).symm)).trans (h.cell j hj)

/-- What a method of the reader leaves: the reader so, and nothing else turned. -/
def Left (b : Nat) (s : ByteArray) (r : Rv) (w w' : World) : Prop := RAt b s r w' ∧ Rd b w w'
end Go.Proofs.YtjjdjdodhedihaaDoor

namespace Go.Proofs.YtjjdjdodhedihaaDoor
open Go.RowKit
set_option linter.unusedVariables false

end Go.Proofs.YtjjdjdodhedihaaDoor

namespace Go.Proofs.YtjjdjdodhedihaaDoor
open Go.RowKit
set_option linter.unusedVariables false

end Go.Proofs.YtjjdjdodhedihaaDoor

namespace Go.Proofs.YtjjdjdodhedihaaDoor
open Go.RowKit
set_option linter.unusedVariables false

end Go.Proofs.YtjjdjdodhedihaaDoor

namespace Go.Proofs.YtjjdjdodhedihaaDoor
open Go.RowKit
set_option linter.unusedVariables false

end Go.Proofs.YtjjdjdodhedihaaDoor

namespace Go.Proofs.YtjjdjdodhedihaaDoor
open Go.RowKit
set_option linter.unusedVariables false

/-- At block g these ints, writable. -/
structure Cel (w : World) (g : Nat) (xs : List Int) : Prop where
  lt : g < w.heap.size
  cells : ∀ k, k < xs.length → w.cell? ⟨g, k, none⟩ = some (.int .i64 (xs.getD k 0))
  fz : ∀ k, w.frozen? ⟨g, k, none⟩ = false
theorem Cel.block {w w' : World} {g : Nat} {xs : List Int} (h : Cel w g xs) (hs : w.heap.size ≤ w'.heap.size) (e : w'.heap[g]? = w.heap[g]?) : Cel w' g xs :=
  ⟨Nat.lt_of_lt_of_le h.lt hs, fun k hk => (World.cell?_of_block (w := w) (a := ⟨g, k, none⟩) e).trans (h.cells k hk), fun k => (World.frozen?_of_block (w := w) (a := ⟨g, k, none⟩) e).trans (h.fz k)⟩
theorem Cel.rd {w w' : World} {g b : Nat} {xs : List Int} (h : Cel w g xs) (hr : Rd b w w') (hb : g ≠ b) : Cel w' g xs := h.block hr.size (hr.block g h.lt hb)
theorem Cel.below {w w' : World} {g : Nat} {xs : List Int} (h : Cel w g xs) (hb : Below w.heap.size w w') : Cel w' g xs := h.block hb.size (hb.block g h.lt)
theorem Cel.set {w : World} {g : Nat} {xs : List Int} (h : Cel w g xs) (p : Nat) (x : Int) (hp : p < xs.length) : Cel (w.setCell ⟨g, p, none⟩ (.int .i64 x)) g (xs.set p x) := by
  refine ⟨by rw [World.size_setCell]; exact h.lt, fun k hk => ?_, fun k => by rw [World.frozen?_setCell]; exact h.fz k⟩
  rw [List.length_set] at hk
  by_cases e : k = p
  · subst e
    rw [show (xs.set k x).getD k 0 = x by simp [List.getD, hk]]
    exact World.cell?_setCell_same (w := w) (a := ⟨g, k, none⟩) (v := _) (h := h.cells k hk)
  · rw [show (xs.set p x).getD k 0 = xs.getD k 0 by simp [List.getD, Ne.symm e]]
    exact (World.cell?_setCell_other (w := w) (a := ⟨g, p, none⟩) (b := ⟨g, k, none⟩) (v := _) (h := fun q => e (congrArg Addr.off q).symm)).trans (h.cells k hk)

end Go.Proofs.YtjjdjdodhedihaaDoor

namespace Go.Proofs.YtjjdjdodhedihaaDoor
open Go.RowKit
set_option linter.unusedVariables false

theorem Cel.tab {w : World} {g n : Nat} {xs : List Int} (h : Cel w g xs) (hn : xs.length = n) : Tab w (.slice (some ⟨g, 0, none⟩) n n) xs := by
  subst hn
  exact Or.inr ⟨g, xs.length, rfl, h.lt, fun k hk => by rw [h.cells k hk]; simp [List.getD, hk]⟩

end Go.Proofs.YtjjdjdodhedihaaDoor

namespace Go.Proofs.YtjjdjdodhedihaaDoor
open Go.RowKit
set_option linter.unusedVariables false

/-- A pattern that came in, as a value: its cells anywhere. -/
structure ArgP (w : World) (xs : List Int) (a : Option Addr) (n c : Nat) : Prop where
  len : n = xs.length
  max : n ≤ maxLen
  cells : ∀ k (h : k < xs.length), ∃ g off, a = some ⟨g, off, none⟩ ∧ g < w.heap.size ∧ w.cell? ⟨g, off + k, none⟩ = some (.int .i64 xs[k])
theorem ArgP.below {w w' : World} {xs : List Int} {a : Option Addr} {n c : Nat} (h : ArgP w xs a n c) (hb : Below w.heap.size w w') : ArgP w' xs a n c :=
  ⟨h.len, h.max, fun k hk => by
    obtain ⟨g, off, e, hg, hc⟩ := h.cells k hk
    exact ⟨g, off, e, Nat.lt_of_lt_of_le hg hb.size, (World.cell?_of_block (w := w) (a := ⟨g, off + k, none⟩) (hb.block g hg)).trans hc⟩⟩
theorem ArgP.alloc {w : World} {xs : List Int} {a : Option Addr} {n c : Nat} (h : ArgP w xs a n c) (x : Obj) : ArgP (w.alloc x) xs a n c :=
  h.below ((Below.refl _ _).alloc (Nat.le_refl _) _)

def errOf (f : Nat) : Value := if f = 0 then .nilIface else .iface 85 (.int .i64 (f : Int))

end Go.Proofs.YtjjdjdodhedihaaDoor

namespace Go.Proofs.YtjjdjdodhedihaaDoor
open Go.RowKit
set_option linter.unusedVariables false

theorem list_ne_len {xs ys : List Int} (h : xs.length ≠ ys.length) : decide (xs = ys) = false := by
  simp; intro e; exact h (by rw [e])
theorem list_ne_at {xs ys : List Int} {k : Nat} (hx : k < xs.length) (hy : k < ys.length) (h : xs[k] ≠ ys[k]) : decide (xs = ys) = false := by
  simp; intro e; subst e; exact h rfl

set_option maxHeartbeats 1600000 in
theorem Ints_any (xs ys : List Int) (a b : Option Addr) (n c m d : Nat) (w : World) (hA : ArgP w xs a n c) (hB : ArgP w ys b m d) :
    Calls Tryd.prog 20 #[.slice a n c, .slice b m d] w fun e w' => e = .returned (.bool (decide (xs = ys))) ∧ ∃ q, w' = w.drewN q := by
  have HA := hide' hA
  have HB := hide' hB
  have hlx := hA.len
  have hly := hB.len
  have hma := hA.max
  have hmb := hB.max
  have LX := hide' hlx
  have LY := hide' hly
  unfold maxLen at hma hmb
  by_cases hnm : n = m
  · subst hnm
    clear hA hB hlx hly
    have EQ := hide' (fun (h : ∀ j (h1 : j < xs.length) (h2 : j < ys.length), xs[j] = ys[j]) => show decide (xs = ys) = true by
      simp; exact List.ext_getElem (by rw [← LX.out, ← LY.out]) fun j h1 h2 => h j h1 h2)
    go_enter Tryd.func20, Tryd.ntmps20
    go_wp2
    go_loopw [5] (fun iv wr => ∃ k q : Nat, iv = .int .i64 (k : Int) ∧ k ≤ n ∧ wr = w.drewN q ∧ Hid (∀ j (h1 : j < xs.length) (h2 : j < ys.length), j < k → xs[j] = ys[j])) (fun iv _ => n - (intOf iv).toNat)
    case atStart => exact ⟨0, 0, rfl, by omega, rfl, fun j h1 h2 h => by omega⟩
    case round =>
      obtain ⟨k, q, rfl, hk, rfl, HK⟩ := hrel
      by_cases hkn : (k : Int) < (n : Int)
      · have l1 : k < xs.length := by have := LX.out; omega
        have l2 : k < ys.length := by have := LY.out; omega
        obtain ⟨ga, oa, rfl, -, c1⟩ := HA.out.cells k l1
        obtain ⟨gb, ob, rfl, -, c2⟩ := HB.out.cells k l2
        obtain ⟨x, hx⟩ : ∃ x, xs[k] = x := ⟨_, rfl⟩
        obtain ⟨y, hy⟩ : ∃ y, ys[k] = y := ⟨_, rfl⟩
        rw [hx] at c1
        rw [hy] at c2
        have HX := hide' hx
        have HY := hide' hy
        clear hx hy
        by_cases e : x = y
        · subst e
          have m1 : (x != x) = false := by simp
          go_wp2
          go_quiet (fail)
          go_wp2
          refine ⟨⟨k + 1, q + nq, by go_num, by omega, rfl, fun j h1 h2 h => ?_⟩, by simp [intOf]; omega⟩
          by_cases ej : j = k
          · subst ej; rw [HX.out, HY.out]
          · exact HK.out j h1 h2 (by omega)
        · have m1 : (x != y) = true := by simp [e]
          have F := hide' (list_ne_at l1 l2 (by rw [HX.out, HY.out]; exact e))
          clear e
          go_wp2
          go_quiet (fail)
          go_wp2
          go_ret
          exact ⟨by rw [F.out]; rfl, q + nq, by simp [World.drewN, Nat.add_assoc]⟩
      · have F := hide' (EQ.out fun j h1 h2 => HK.out j h1 h2 (by have := LX.out; omega))
        go_wp2
        go_ret
        exact ⟨by rw [F.out]; rfl, q, rfl⟩
  · have m1 : ((n : Int) != (m : Int)) = true := by simp; omega
    have F := hide' (list_ne_len (xs := xs) (ys := ys) (by rw [← hlx, ← hly]; exact hnm))
    clear hA hB hlx hly hnm
    go_enter Tryd.func20, Tryd.ntmps20
    go_wp2
    go_ret
    exact ⟨by rw [F.out]; rfl, 0, rfl⟩

end Go.Proofs.YtjjdjdodhedihaaDoor

