/-
  What the last text of this claim leans on, part 4: Ref2, Ow, PSpec.
-/
import Derived.Test.YtljdidimoagnhaaDoorJv3
import Derived.Test.YtljdidimoagnhaaDoorJv1
import Derived.Deep.AppendLies
import Derived.Deep.OwnRows
import Derived.Deep.RegionHeld3
import Derived.Deep.RegionLaw
import Derived.Deep.RegionWith
import Derived.Laws.IdiomStrings
import Derived.Laws.MakeOwn
import Derived.Lib.BufferWrite
import Derived.Lib.Hide
import Derived.Lib.Walk
import Derived.WalkKit
import Derived.WalkSmall
namespace Go.Proofs.YtljdidimoagnhaaDoor
open Go.RowKit
set_option linter.unusedVariables false

/-- a to the n, or 5000 above 4096. -/
def powS (a n : Nat) : Nat := if a ^ n ≤ 4096 then a ^ n else 5000

theorem pow_grows {a k n : Nat} (ha : 1 ≤ a) (hk : k ≤ n) (h : 4096 < a ^ k) : powS a n = 5000 := by
  have : a ^ k ≤ a ^ n := Nat.pow_le_pow_right ha hk
  unfold powS
  rw [if_neg (by omega)]

set_option maxHeartbeats 800000 in
theorem power_2 (n : Nat) (w : World) (hn : n ≤ 1000000) :
    Calls Tryd.prog 78 #[.int .i64 2, .int .i64 (n : Int)] w fun e w' => e = .returned (.int .i64 ((powS 2 n : Nat) : Int)) ∧ w' = w := by
  go_enter Tryd.func78, Tryd.ntmps78
  go_wp2
  go_loop [5, 6] (fun pv iv => ∃ k p : Nat, iv = .int .i64 (k : Int) ∧ pv = .int .i64 (p : Int) ∧ k ≤ n ∧ p ≤ 4096 ∧ p = 2 ^ k) (fun _ iv => n - (intOf iv).toNat)
  case atStart => exact ⟨0, 1, rfl, rfl, by omega, by omega, rfl⟩
  case round =>
    obtain ⟨k, p, rfl, rfl, hk, hp, hpk⟩ := hrel
    have HP := hide' hpk
    have HQ := hide' (show p * 2 = 2 ^ (k + 1) by rw [Nat.pow_succ, ← hpk])
    clear hpk
    by_cases hkn : (k : Int) < (n : Int)
    · by_cases hc : (p : Int) * 2 ≤ 4096
      · have hc' : ¬ 4096 < (p : Int) * 2 := by omega
        go_wp2
        exact ⟨⟨k + 1, p * 2, by go_num, by go_num, by omega, by omega, HQ.out⟩, by simp [intOf]; omega⟩
      · have hc' : 4096 < (p : Int) * 2 := by omega
        have X := hide' (pow_grows (a := 2) (k := k + 1) (n := n) (by omega) (by omega) (by rw [← HQ.out]; omega))
        go_wp2
        go_ret
        rw [X.out]
        exact ⟨rfl, rfl⟩
    · have hkk : k = n := by omega
      have X := hide' (show powS 2 n = p by
        have h1 := HP.out
        rw [hkk] at h1
        unfold powS
        rw [← h1, if_pos hp])
      clear hkk
      go_wp2
      go_ret
      rw [X.out]
      exact ⟨rfl, rfl⟩

set_option maxHeartbeats 800000 in
theorem power_3 (n : Nat) (w : World) (hn : n ≤ 1000000) :
    Calls Tryd.prog 78 #[.int .i64 3, .int .i64 (n : Int)] w fun e w' => e = .returned (.int .i64 ((powS 3 n : Nat) : Int)) ∧ w' = w := by
  go_enter Tryd.func78, Tryd.ntmps78
  go_wp2
  go_loop [5, 6] (fun pv iv => ∃ k p : Nat, iv = .int .i64 (k : Int) ∧ pv = .int .i64 (p : Int) ∧ k ≤ n ∧ p ≤ 4096 ∧ p = 3 ^ k) (fun _ iv => n - (intOf iv).toNat)
  case atStart => exact ⟨0, 1, rfl, rfl, by omega, by omega, rfl⟩
  case round =>
    obtain ⟨k, p, rfl, rfl, hk, hp, hpk⟩ := hrel
    have HP := hide' hpk
    have HQ := hide' (show p * 3 = 3 ^ (k + 1) by rw [Nat.pow_succ, ← hpk])
    clear hpk
    by_cases hkn : (k : Int) < (n : Int)
    · by_cases hc : (p : Int) * 3 ≤ 4096
      · have hc' : ¬ 4096 < (p : Int) * 3 := by omega
        go_wp2
        exact ⟨⟨k + 1, p * 3, by go_num, by go_num, by omega, by omega, HQ.out⟩, by simp [intOf]; omega⟩
      · have hc' : 4096 < (p : Int) * 3 := by omega
        have X := hide' (pow_grows (a := 3) (k := k + 1) (n := n) (by omega) (by omega) (by rw [← HQ.out]; omega))
        go_wp2
        go_ret
        rw [X.out]
        exact ⟨rfl, rfl⟩
    · have hkk : k = n := by omega
      have X := hide' (show powS 3 n = p by
        have h1 := HP.out
        rw [hkk] at h1
        unfold powS
        rw [← h1, if_pos hp])
      clear hkk
      go_wp2
      go_ret
      rw [X.out]
      exact ⟨rfl, rfl⟩

set_option maxHeartbeats 800000 in
theorem power_4 (n : Nat) (w : World) (hn : n ≤ 1000000) :
    Calls Tryd.prog 78 #[.int .i64 4, .int .i64 (n : Int)] w fun e w' => e = .returned (.int .i64 ((powS 4 n : Nat) : Int)) ∧ w' = w := by
  go_enter Tryd.func78, Tryd.ntmps78
  go_wp2
  go_loop [5, 6] (fun pv iv => ∃ k p : Nat, iv = .int .i64 (k : Int) ∧ pv = .int .i64 (p : Int) ∧ k ≤ n ∧ p ≤ 4096 ∧ p = 4 ^ k) (fun _ iv => n - (intOf iv).toNat)
  case atStart => exact ⟨0, 1, rfl, rfl, by omega, by omega, rfl⟩
  case round =>
    obtain ⟨k, p, rfl, rfl, hk, hp, hpk⟩ := hrel
    have HP := hide' hpk
    have HQ := hide' (show p * 4 = 4 ^ (k + 1) by rw [Nat.pow_succ, ← hpk])
    clear hpk
    by_cases hkn : (k : Int) < (n : Int)
    · by_cases hc : (p : Int) * 4 ≤ 4096
      · have hc' : ¬ 4096 < (p : Int) * 4 := by omega
        go_wp2
        exact ⟨⟨k + 1, p * 4, by go_num, by go_num, by omega, by omega, HQ.out⟩, by simp [intOf]; omega⟩
      · have hc' : 4096 < (p : Int) * 4 := by omega
        have X := hide' (pow_grows (a := 4) (k := k + 1) (n := n) (by omega) (by omega) (by rw [← HQ.out]; omega))
        go_wp2
        go_ret
        rw [X.out]
        exact ⟨rfl, rfl⟩
    · have hkk : k = n := by omega
      have X := hide' (show powS 4 n = p by
        have h1 := HP.out
        rw [hkk] at h1
        unfold powS
        rw [← h1, if_pos hp])
      clear hkk
      go_wp2
      go_ret
      rw [X.out]
      exact ⟨rfl, rfl⟩

theorem power_any (a n : Nat) (A N : Int) (w : World) (hA : A = a) (hN : N = n) (ha : 2 ≤ a) (ha' : a ≤ 4) (hn : n ≤ 1000000) :
    Calls Tryd.prog 78 #[.int .i64 A, .int .i64 N] w fun e w' => e = .returned (.int .i64 ((powS a n : Nat) : Int)) ∧ w' = w := by
  subst hA hN
  have h1 : a = 2 ∨ a = 3 ∨ a = 4 := by omega
  rcases h1 with rfl | rfl | rfl
  · exact power_2 n w hn
  · exact power_3 n w hn
  · exact power_4 n w hn

/-- Two lists that read alike are the same. -/
theorem Tab.alloc' {w : World} {v : Value} {xs : List Int} (h : Tab w v xs) (o : Obj) : Tab (w.alloc o) v xs := by
  rcases h with h | ⟨g, cap, hv, hg, hc⟩
  · exact Or.inl h
  · have e : (w.alloc o).heap[g]? = w.heap[g]? := Below.heap_alloc _ _ _ hg
    exact Or.inr ⟨g, cap, hv, by rw [World.size_alloc]; omega, fun k hk => (World.cell?_of_block (w := w) (a := ⟨g, k, none⟩) e).trans (hc k hk)⟩

theorem Ints_nil (w : World) : Calls Tryd.prog 28 #[.slice none 0 0, .slice none 0 0] w fun e w' => e = .returned (.bool true) ∧ ∃ n, w' = w.drewN n := by
  go_enter Tryd.func28, Tryd.ntmps28
  go_wp2
  go_loop [5] (fun iv => iv = .int .i64 0) (fun _ => 0)
  case atStart => rfl
  case round =>
    subst hrel
    go_wp2
    go_ret
    exact ⟨rfl, 0, rfl⟩

set_option maxHeartbeats 800000 in
theorem Ints_two (xs : List Int) (a b : Option Addr) (n ca cb : Nat) (w : World) (hn : n = xs.length) (hm : n ≤ maxLen)
    (ha : ∀ k (h : k < xs.length), ∃ g, a = some ⟨g, 0, none⟩ ∧ w.cell? ⟨g, k, none⟩ = some (.int .i64 xs[k])) (hb : ∀ k (h : k < xs.length), ∃ g, b = some ⟨g, 0, none⟩ ∧ w.cell? ⟨g, k, none⟩ = some (.int .i64 xs[k])) :
    Calls Tryd.prog 28 #[.slice a n ca, .slice b n cb] w fun e w' => e = .returned (.bool true) ∧ ∃ m, w' = w.drewN m := by
  unfold maxLen at hm
  have HA := hide' ha
  have HB := hide' hb
  have HN := hide' hn
  clear ha hb hn
  go_enter Tryd.func28, Tryd.ntmps28
  go_wp2
  go_loopw [5] (fun iv wr => ∃ k m : Nat, iv = .int .i64 (k : Int) ∧ k ≤ n ∧ wr = w.drewN m) (fun iv _ => n - (intOf iv).toNat)
  case atStart => exact ⟨0, 0, rfl, by omega, rfl⟩
  case round =>
    obtain ⟨k, m, rfl, hk, rfl⟩ := hrel
    by_cases hkn : (k : Int) < (n : Int)
    · have hlt : k < xs.length := by have := HN.out; omega
      obtain ⟨ga, rfl, c1⟩ := HA.out k hlt
      obtain ⟨gb, rfl, c2⟩ := HB.out k hlt
      go_wp2
      go_quiet (fail)
      go_wp2
      exact ⟨⟨k + 1, m + nq, by go_num, by omega, rfl⟩, by simp [intOf]; omega⟩
    · go_wp2
      go_ret
      exact ⟨rfl, m, rfl⟩

theorem Tab.parts {w : World} {v : Value} {xs : List Int} (h : Tab w v xs) :
    ∃ a c, v = .slice a xs.length c ∧ ∀ k (h : k < xs.length), ∃ g, a = some ⟨g, 0, none⟩ ∧ w.cell? ⟨g, k, none⟩ = some (.int .i64 xs[k]) := by
  rcases h with ⟨rfl, rfl⟩ | ⟨g, cap, rfl, hg, hc⟩
  · exact ⟨none, 0, rfl, fun k h => absurd h (by simp)⟩
  · exact ⟨_, cap, rfl, fun k h => ⟨g, rfl, hc k h⟩⟩

theorem Ints_same (xs : List Int) (va vb : Value) (w : World) (ha : Tab w va xs) (hb : Tab w vb xs) (hm : xs.length ≤ maxLen) :
    Calls Tryd.prog 28 #[va, vb] w fun e w' => e = .returned (.bool true) ∧ ∃ m, w' = w.drewN m := by
  obtain ⟨a, ca, rfl, pa⟩ := ha.parts
  obtain ⟨b, cb, rfl, pb⟩ := hb.parts
  exact Ints_two xs a b xs.length ca cb w rfl hm pa pb

set_option maxHeartbeats 800000 in
theorem Same_same (o : Out) (va vb : Value) (w : World) (ha : Tab w va o.table) (hb : Tab w vb o.table) (hm : o.table.length ≤ maxLen) :
    Calls Tryd.prog 18 #[o.val va, o.val vb] w fun e w' => e = .returned (.bool true) ∧ Below w.heap.size w w' := by
  have TA := hide' (show Tab ((w.alloc (.cells #[.int .i64 o.kind, .int .i64 o.born, .int .i64 o.stay, .int .i64 o.states, .int .i64 o.radius, va, .string o.turns] 24)).alloc (.cells #[.int .i64 o.kind, .int .i64 o.born, .int .i64 o.stay, .int .i64 o.states, .int .i64 o.radius, vb, .string o.turns] 24)) va o.table from (ha.alloc' _).alloc' _)
  have TB := hide' (show Tab ((w.alloc (.cells #[.int .i64 o.kind, .int .i64 o.born, .int .i64 o.stay, .int .i64 o.states, .int .i64 o.radius, va, .string o.turns] 24)).alloc (.cells #[.int .i64 o.kind, .int .i64 o.born, .int .i64 o.stay, .int .i64 o.states, .int .i64 o.radius, vb, .string o.turns] 24)) vb o.table from (hb.alloc' _).alloc' _)
  obtain ⟨a, ca, rfl, -⟩ := ha.parts
  obtain ⟨b, cb, rfl, -⟩ := hb.parts
  unfold Out.val
  go_enter Tryd.func18, Tryd.ntmps18
  go_wp2_with fail
  refine (Ints_same o.table _ _ _ TA.out TB.out hm).mono ?_
  rintro e w1 ⟨rfl, m, rfl⟩
  go_wp2
  go_ret
  exact ⟨rfl, below_drewN (((Below.refl _ _).alloc (Nat.le_refl _) _).alloc (by simp) _) m⟩
end Go.Proofs.YtljdidimoagnhaaDoor

namespace Go.Proofs.YtljdidimoagnhaaDoor
open Go.RowKit
set_option linter.unusedVariables false

theorem info_int : (Tryd.prog.info? 3).map (fun i => (i.zero, i.size, i.bytes)) = some (some (.int .i64 0), 1, 8) := by kernel_rfl
theorem Tab.slice {w : World} {v : Value} {xs : List Int} (h : Tab w v xs) : ∃ a n c, v = .slice a n c := by
  rcases h with ⟨-, h⟩ | ⟨g, cap, h, -, -⟩
  · exact ⟨_, _, _, h⟩
  · exact ⟨_, _, _, h⟩
theorem ownsRow_block {w : World} {base : Nat} {e : TypeId} {v : Value} {n : Nat} {xs : List Value} (h : w.ownsRow base e 1 v n xs) : ∀ k, v.ownBlock = some k → base ≤ k := by
  intro k hk
  rcases h.2 with ⟨hv, -⟩ | ⟨g, cap, cur, hv, hg, -⟩
  · rw [hv] at hk; cases hk
  · rw [hv] at hk
    have : g = k := by simpa [Value.ownBlock] using hk
    omega
theorem ownsRow_slice {w : World} {base : Nat} {e : TypeId} {v : Value} {n : Nat} {xs : List Value} (h : w.ownsRow base e 1 v n xs) : ∃ a m c, v = .slice a m c := by
  rcases h.2 with ⟨hv, -⟩ | ⟨g, cap, cur, hv, -⟩
  · exact ⟨_, _, _, hv⟩
  · exact ⟨_, _, _, hv⟩
theorem ownsRow_tab {w : World} {base : Nat} {e : TypeId} {v : Value} {xs : List Int} (h : w.ownsRow base e 1 v xs.length (xs.map fun x => .int .i64 x)) : Tab w v xs := by
  rcases h.2 with ⟨hv, hn⟩ | ⟨g, cap, cur, hv, hg, hh, hc, hm, hs, ht⟩
  · exact Or.inl ⟨List.eq_nil_of_length_eq_zero hn, hv⟩
  · refine Or.inr ⟨g, cap, hv, ?_, fun k hk => ?_⟩
    · exact (Array.getElem?_eq_some_iff.1 hh).1
    · have h1 : (cur.toList.take (xs.length * 1))[k]? = some (.int .i64 xs[k]) := by
        rw [ht, List.getElem?_map, List.getElem?_eq_getElem hk]; rfl
      rw [List.getElem?_take] at h1
      simp only [World.cell?, hh]
      have : k < xs.length * 1 := by omega
      rw [if_pos this] at h1
      simpa using h1
theorem grownBy_drew {w w' : World} {r : Option Nat} (h : w.drew.grownBy w' r) : w.grownBy w' r := ⟨h.os, h.tape, h.output, h.size, h.block⟩
theorem num_size (s : ByteArray) (i : Nat) (h : i ≤ s.size) : (num s i).2 ≤ s.size := by
  have H : ∀ f i v, i + f = s.size → (numF s f i v).2 ≤ s.size := by
    intro f
    induction f with
    | zero => intro i v e; simp [numF]; omega
    | succ f ih =>
      intro i v e
      unfold numF
      split
      · exact ih _ _ (by omega)
      · simp; omega
  exact H _ _ _ (by omega)
theorem cell_all_new (w : World) (cs : Array Value) (u k : Nat) : (w.alloc (.cells cs u)).drew.cell? ⟨w.heap.size, k, none⟩ = cs[k]? := by
  have h : (w.alloc (.cells cs u)).heap[w.heap.size]? = some (.cells cs u) := by unfold World.alloc; simp
  show (w.alloc (.cells cs u)).cell? _ = _
  simp only [World.cell?, h]
  rfl
theorem cell_new_at (w : World) (cs : Array Value) (u k : Nat) : (w.alloc (.cells cs u)).cell? ⟨w.heap.size, k, none⟩ = cs[k]? := cell_all_new w cs u k
end Go.Proofs.YtljdidimoagnhaaDoor

namespace Go.Proofs.YtljdidimoagnhaaDoor

def blankAt (s : ByteArray) (i : Nat) : Bool := decide (i < s.size) && (decide (bt s i = 32) || decide (bt s i = 10))
theorem blankAt_true {s : ByteArray} {i : Nat} : blankAt s i = true ↔ i < s.size ∧ (bt s i = 32 ∨ bt s i = 10) := by simp [blankAt]
theorem blankAt_false {s : ByteArray} {i : Nat} : blankAt s i = false ↔ ¬ (i < s.size ∧ (bt s i = 32 ∨ bt s i = 10)) := by
  rw [← blankAt_true]; cases blankAt s i <;> simp

/-- Behind the blanks and bytes 10 from i on. -/
def skF (s : ByteArray) : Nat → Nat → Nat
  | 0, i => i
  | f + 1, i => if blankAt s i then skF s f (i + 1) else i
def sk (s : ByteArray) (i : Nat) : Nat := skF s (s.size - i) i

theorem sk_step {s : ByteArray} {i : Nat} (h : blankAt s i = true) : sk s i = sk s (i + 1) := by
  have hl := (blankAt_true.1 h).1
  unfold sk
  rw [show s.size - i = (s.size - (i + 1)) + 1 by omega]
  simp [skF, h]
theorem sk_stop {s : ByteArray} {i : Nat} (h : blankAt s i = false) : sk s i = i := by
  unfold sk
  cases s.size - i <;> simp [skF, h]
theorem skF_ge (s : ByteArray) : ∀ f i, i ≤ skF s f i := by
  intro f
  induction f with
  | zero => intro i; simp [skF]
  | succ f ih =>
    intro i
    simp only [skF]
    split
    · have := ih (i + 1); omega
    · omega
theorem sk_ge (s : ByteArray) (i : Nat) : i ≤ sk s i := skF_ge s _ i
theorem skF_le (s : ByteArray) : ∀ f i, i + f ≤ s.size → skF s f i ≤ i + f := by
  intro f
  induction f with
  | zero => intro i h; simp [skF]
  | succ f ih =>
    intro i h
    simp only [skF]
    split
    · have := ih (i + 1) (by omega); omega
    · omega
theorem sk_le {s : ByteArray} {i : Nat} (h : i ≤ s.size) : sk s i ≤ s.size := by
  have := skF_le s (s.size - i) i (by omega)
  unfold sk; omega
theorem skF_end (s : ByteArray) : ∀ f i, i + f = s.size → blankAt s (skF s f i) = false := by
  intro f
  induction f with
  | zero => intro i h; rw [blankAt_false]; simp [skF]; omega
  | succ f ih =>
    intro i h
    simp only [skF]
    split
    · exact ih (i + 1) (by omega)
    · rename_i hb; simpa using hb
theorem sk_end {s : ByteArray} {i : Nat} (h : i ≤ s.size) : blankAt s (sk s i) = false := skF_end s _ i (by omega)

/-- These bytes stand from i on: behind them; or where they don't. -/
def wordF (s : ByteArray) : List Nat → Nat → Nat ⊕ Nat
  | [], i => .inl i
  | c :: cs, i => if i < s.size ∧ bt s i = c then wordF s cs (i + 1) else .inr i

/-- Is what stands at i a number of at most six digits without a needless 0? -/
def numSix (s : ByteArray) (i : Nat) : Bool :=
  decide (i < (num s i).2) && !(decide (1 < (num s i).2 - i) && decide (bt s i = 48)) && decide ((num s i).2 - i ≤ 6)

def sideS (s : ByteArray) (ws : List Nat) (i : Nat) : (Nat × Nat) ⊕ (Nat × Nat) :=
  match wordF s ws i with
  | .inr j => .inr (j, 2)
  | .inl j => if !numSix s j then .inr (j, 2) else if 100 < (num s j).1 then .inr (j, 1) else .inl ((num s j).1, (num s j).2)

def headS (s : ByteArray) : (Nat × Nat × Nat) ⊕ (Nat × Nat) :=
  match sideS s [120, 32, 61, 32] 0 with
  | .inr e => .inr e
  | .inl (w, i) =>
    match sideS s [44, 32, 121, 32, 61, 32] i with
    | .inr e => .inr e
    | .inl (h, j) =>
      match wordF s [10] j with
      | .inr k => .inr (k, 2)
      | .inl k => .inl (w, h, k)

/-- n cells from p on are v. -/
def setRun (xs : List Int) (p : Nat) : Nat → Int → List Int
  | 0, _ => xs
  | n + 1, v => (setRun xs p n v).set (p + n) v
theorem setRun_length (xs : List Int) (p n : Nat) (v : Int) : (setRun xs p n v).length = xs.length := by
  induction n with
  | zero => rfl
  | succ n ih => simp [setRun, ih]

/-- What stands where a tag may: its number or 1, and the tag's place. -/
def dAt (s : ByteArray) (j : Nat) : Bool := inR s j 48 57
def tagN (s : ByteArray) (j : Nat) : Nat := if dAt s j then (num s j).1 else 1
def tagK (s : ByteArray) (j : Nat) : Nat := if dAt s j then (num s j).2 else j
def tagBad (s : ByteArray) (j : Nat) : Bool := dAt s j && (!numSix s j || decide ((num s j).1 < 2))

/-- One tag, at j: on, done, or wrong. -/
abbrev Go1 : Type := (Nat × Nat × Nat × List Int) ⊕ (List Int ⊕ (Nat × Nat))
abbrev Go1.on (i x y : Nat) (xs : List Int) : Go1 := Sum.inl (i, x, y, xs)
abbrev Go1.done (xs : List Int) : Go1 := Sum.inr (Sum.inl xs)
abbrev Go1.bad (a e : Nat) : Go1 := Sum.inr (Sum.inr (a, e))

def tag1 (s : ByteArray) (W H j x y : Nat) (xs : List Int) : Go1 :=
  if tagBad s j then .bad j 2
  else if s.size ≤ tagK s j then .bad (tagK s j) 2
  else if bt s (tagK s j) = 98 ∨ bt s (tagK s j) = 111 then
    if H ≤ y ∨ W < x + tagN s j then .bad j 1
    else .on (tagK s j + 1) (x + tagN s j) y (setRun xs (y * W + x) (tagN s j) (if bt s (tagK s j) = 111 then 1 else 0))
  else if bt s (tagK s j) = 36 then
    if H ≤ y + tagN s j then .bad j 1 else .on (tagK s j + 1) 0 (y + tagN s j) xs
  else if bt s (tagK s j) = 33 then
    if j ≠ tagK s j then .bad (tagK s j) 2
    else if sk s (tagK s j + 1) = s.size then .done xs else .bad (sk s (tagK s j + 1)) 2
  else .bad (tagK s j) 2

def tagsF (s : ByteArray) (W H : Nat) : Nat → Nat → Nat → Nat → List Int → List Int ⊕ (Nat × Nat)
  | 0, _, _, _, _ => .inr (0, 0)
  | f + 1, i, x, y, xs =>
    match tag1 s W H (sk s i) x y xs with
    | .inl (i', x', y', xs') => tagsF s W H f i' x' y' xs'
    | .inr (.inl xs') => .inl xs'
    | .inr (.inr (a, e)) => .inr (a, e)

/-- A pattern, or where it is wrong and how. -/
def runsS (s : ByteArray) : (Nat × Nat × List Int) ⊕ (Nat × Nat) :=
  if 40000 < s.size then .inr (0, 4)
  else match headS s with
    | .inr e => .inr e
    | .inl (w, h, i) =>
      match tagsF s w h (s.size + 1 - i) i 0 0 (List.replicate (w * h) 0) with
      | .inl xs => .inl (w, h, xs)
      | .inr e => .inr e

theorem numF_ge (s : ByteArray) : ∀ f i v, i ≤ (numF s f i v).2 := by
  intro f
  induction f with
  | zero => intro i v; simp [numF]
  | succ f ih =>
    intro i v
    simp only [numF]
    split
    · have := ih (i + 1) (v * 10 + (bt s i - 48)); omega
    · simp
theorem num_ge (s : ByteArray) (i : Nat) : i ≤ (num s i).2 := numF_ge s _ i 0
theorem num_gt {s : ByteArray} {i : Nat} (h : inR s i 48 57 = true) : i < (num s i).2 := by
  unfold num
  rw [numF_step h]
  exact numF_ge s _ (i + 1) _
theorem numF_bound (s : ByteArray) : ∀ f i v n, v < 10 ^ n → (numF s f i v).1 < 10 ^ (n + ((numF s f i v).2 - i)) := by
  intro f
  induction f with
  | zero => intro i v n h; simpa [numF] using h
  | succ f ih =>
    intro i v n h
    simp only [numF]
    split
    · rename_i hin
      have hb := inR_true.1 hin
      have h1 := ih (i + 1) (v * 10 + (bt s i - 48)) (n + 1) (by rw [Nat.pow_succ]; omega)
      have h2 := numF_ge s f (i + 1) (v * 10 + (bt s i - 48))
      rw [show n + ((numF s f (i + 1) (v * 10 + (bt s i - 48))).2 - i) = n + 1 + ((numF s f (i + 1) (v * 10 + (bt s i - 48))).2 - (i + 1)) by omega]
      exact h1
    · simpa using h
theorem num_bound (s : ByteArray) (i : Nat) (h : (num s i).2 - i ≤ 6) : (num s i).1 < 1000000 := by
  have := numF_bound s (s.size - i) i 0 0 (by simp)
  have h2 : 10 ^ (0 + ((numF s (s.size - i) i 0).2 - i)) ≤ 10 ^ 6 := Nat.pow_le_pow_right (by omega) (by unfold num at h; omega)
  unfold num
  omega
theorem tagK_ge (s : ByteArray) (j : Nat) : j ≤ tagK s j := by
  unfold tagK
  split
  · exact num_ge s j
  · omega
end Go.Proofs.YtljdidimoagnhaaDoor

