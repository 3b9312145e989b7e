/-
  What the last text of this claim leans on, part 1: Spec, Rd, Rb, Rn, Ref1, Rk, Fill, Ref2, Ow, Rk2, Rk3, Clone, Rk4.
-/
import Derived.Test.YtncinpkbiphpoaaDoorProg
import Derived.WalkKit
import Derived.WalkSpells
import Derived.WalkLawsBesides
import Derived.Deep.QuietTactic
import Derived.BigQuiet
import Derived.Laws.BitsAllLaws
import Derived.Deep.OwnRows
import Derived.Deep.AppendLies
import Derived.Deep.RegionHeld3
import Derived.Deep.RegionLaw
import Derived.Deep.RegionWith
import Derived.Laws.IdiomStrings
import Derived.Laws.MakeOwn
import Derived.Lib.BufferWrite
import Derived.Lib.Hide
import Derived.Lib.Walk
import Derived.WalkSmall
import Derived.Lib.Strings
import Derived.Lib.UnsafeStr
namespace Go.Proofs.YtncinpkbiphpoaaDoor

/-- Does a byte from lo to hi stand at i? -/
def inR (s : ByteArray) (i : Nat) (lo hi : Int) : Bool := if h : i < s.size then decide (lo ≤ (s[i].toNat : Int)) && decide ((s[i].toNat : Int) ≤ hi) else false

/-- The byte at i, 0 behind the end. -/
def bt (s : ByteArray) (i : Nat) : Nat := if h : i < s.size then s[i].toNat else 0

theorem bt_lt (s : ByteArray) (i : Nat) (h : i < s.size) : s[i].toNat = bt s i := by simp [bt, h]
theorem inR_true {s : ByteArray} {i : Nat} {lo hi : Int} : inR s i lo hi = true ↔ i < s.size ∧ lo ≤ (bt s i : Int) ∧ (bt s i : Int) ≤ hi := by
  unfold inR bt
  by_cases h : i < s.size <;> simp [h]
theorem inR_false {s : ByteArray} {i : Nat} {lo hi : Int} : inR s i lo hi = false ↔ ¬ (i < s.size ∧ lo ≤ (bt s i : Int) ∧ (bt s i : Int) ≤ hi) := by
  rw [← inR_true]; cases inR s i lo hi <;> simp

/-- Digits from i on as one number (added to what there was), and where they end. -/
def numF (s : ByteArray) : Nat → Nat → Nat → Nat × Nat
  | 0, i, v => (v, i)
  | f + 1, i, v => if inR s i 48 57 then numF s f (i + 1) (v * 10 + (bt s i - 48)) else (v, i)
def num (s : ByteArray) (i : Nat) : Nat × Nat := numF s (s.size - i) i 0

theorem numF_step {s : ByteArray} {i v : Nat} (h : inR s i 48 57 = true) :
    numF s (s.size - i) i v = numF s (s.size - (i + 1)) (i + 1) (v * 10 + (bt s i - 48)) := by
  have hl := (inR_true.1 h).1
  rw [show s.size - i = (s.size - (i + 1)) + 1 by omega]
  simp [numF, h]
theorem numF_stop {s : ByteArray} {i v : Nat} (h : inR s i 48 57 = false) : numF s (s.size - i) i v = (v, i) := by
  cases s.size - i <;> simp [numF, h]

/-- Is what stands at i a number from least to most, without a needless 0? -/
def numOk (s : ByteArray) (i least most : Nat) : Bool :=
  !(decide ((num s i).2 = i) || (decide (1 < (num s i).2 - i) && decide (bt s i = 48)) || decide ((num s i).1 < least) || decide (most < (num s i).1))

/-- A rule, as plain data. -/
structure Out where
  kind : Int
  born : Int
  stay : Int
  states : Int
  radius : Int
  table : List Int
  turns : ByteArray

def entries (n m : Nat) : Nat := n ^ (2 * m + 1)

end Go.Proofs.YtncinpkbiphpoaaDoor

namespace Go.Proofs.YtncinpkbiphpoaaDoor
open Go.RowKit

/-- The reader at block b: its text s, its place i. -/
structure At (b : Nat) (s : ByteArray) (i : Nat) (w : World) : Prop where
  txt : w.cell? ⟨b, 0, none⟩ = some (.string s)
  pos : w.cell? ⟨b, 1, none⟩ = some (.int .i64 (i : Int))
  fz0 : w.frozen? ⟨b, 0, none⟩ = false
  fz1 : w.frozen? ⟨b, 1, none⟩ = false

/-- Of what was there, block b alone may have turned. -/
structure Rd (b : Nat) (w w' : World) : Prop where
  os : w'.os = w.os
  tape : w'.tape = w.tape
  output : w'.output = w.output
  size : w.heap.size ≤ w'.heap.size
  block : ∀ k, k < w.heap.size → k ≠ b → w'.heap[k]? = w.heap[k]?

theorem Rd.refl (b : Nat) (w : World) : Rd b w w := ⟨rfl, rfl, rfl, Nat.le_refl _, fun _ _ _ => rfl⟩
theorem Rd.trans {b : Nat} {a c d : World} (h : Rd b a c) (k : Rd b c d) : Rd b a d :=
  ⟨k.os.trans h.os, k.tape.trans h.tape, k.output.trans h.output, Nat.le_trans h.size k.size, fun i hi hb => (k.block i (Nat.lt_of_lt_of_le hi h.size) hb).trans (h.block i hi hb)⟩
theorem Rd.drewN {b : Nat} {a w : World} (h : Rd b a w) (n : Nat) : Rd b a (w.drewN n) := h.trans ⟨rfl, rfl, rfl, Nat.le_refl _, fun _ _ _ => rfl⟩
theorem Rd.drew {b : Nat} {a w : World} (h : Rd b a w) : Rd b a w.drew := h.trans ⟨rfl, rfl, rfl, Nat.le_refl _, fun _ _ _ => rfl⟩
theorem Rd.alloc {b : Nat} {a w : World} (h : Rd b a w) (o : Obj) : Rd b a (w.alloc o) :=
  h.trans ⟨rfl, rfl, rfl, by simp, fun k hk _ => Below.heap_alloc _ _ _ hk⟩
/-- A store into the reader. -/
theorem Rd.set {b : Nat} {a w : World} (h : Rd b a w) (o : Nat) (u : Value) : Rd b a (w.setCell ⟨b, o, none⟩ u) :=
  h.trans ⟨rfl, rfl, rfl, by simp [World.setCell], fun k _ hk => Below.heap_setCell _ _ _ _ hk⟩
theorem Rd.below {b B : Nat} {w w' : World} (h : Rd b w w') (hB : B ≤ b) (hs : B ≤ w.heap.size) : Below B w w' :=
  ⟨h.os, h.tape, h.output, h.size, fun k hk => h.block k (by omega) (by omega)⟩
theorem Rd.cell {b : Nat} {w w' : World} (h : Rd b w w') : ∀ k o, k < w.heap.size → k ≠ b → w'.cell? ⟨k, o, none⟩ = w.cell? ⟨k, o, none⟩ :=
  fun k _ hk hb => World.cell?_of_block (w := w) (h.block k hk hb)
theorem Rd.frozen {b : Nat} {w w' : World} (h : Rd b w w') : ∀ k o, k < w.heap.size → k ≠ b → w'.frozen? ⟨k, o, none⟩ = w.frozen? ⟨k, o, none⟩ :=
  fun k _ hk hb => World.frozen?_of_block (w := w) (h.block k hk hb)

theorem At.lt {b : Nat} {s : ByteArray} {i : Nat} {w : World} (h : At b s i w) : b < w.heap.size := by
  rcases Nat.lt_or_ge b w.heap.size with k | k
  · exact k
  · have := h.txt; simp [World.cell?, Array.getElem?_eq_none k] at this
theorem At.drewN {b : Nat} {s : ByteArray} {i : Nat} {w : World} (h : At b s i w) (n : Nat) : At b s i (w.drewN n) := ⟨h.txt, h.pos, h.fz0, h.fz1⟩
theorem At.alloc {b : Nat} {s : ByteArray} {i : Nat} {w : World} (h : At b s i w) (o : Obj) : At b s i (w.alloc o) := by
  have hl := h.lt
  have e : (w.alloc o).heap[b]? = w.heap[b]? := Below.heap_alloc _ _ _ hl
  exact ⟨(World.cell?_of_block (w := w) (a := ⟨b, 0, none⟩) e).trans h.txt, (World.cell?_of_block (w := w) (a := ⟨b, 1, none⟩) e).trans h.pos,
    (World.frozen?_of_block (w := w) (a := ⟨b, 0, none⟩) e).trans h.fz0, (World.frozen?_of_block (w := w) (a := ⟨b, 1, none⟩) e).trans h.fz1⟩
def oops : List PanicEntry := [{ v := .iface 38 (.int .i64 2), recovered := false }]

end Go.Proofs.YtncinpkbiphpoaaDoor

namespace Go.Proofs.YtncinpkbiphpoaaDoor
open Go.RowKit

end Go.Proofs.YtncinpkbiphpoaaDoor

namespace Go.Proofs.YtncinpkbiphpoaaDoor
open Go.RowKit

/-- The number as it is kept: right up to most, and above it whatever is above. -/
structure Cap (most v k : Nat) : Prop where
  eq : v ≤ most → k = v
  gt : most < v → most < k
  le : k ≤ 10 * most + 9

theorem Cap.below {most v k d : Nat} (h : Cap most v k) (hd : d ≤ 9) (hk : k ≤ most) : Cap most (v * 10 + d) (10 * k + d) := by
  have h1 := h.eq
  have h2 := h.gt
  refine ⟨?_, ?_, by omega⟩ <;> omega
theorem Cap.above {most v k d : Nat} (h : Cap most v k) (hk : most < k) : Cap most (v * 10 + d) k := by
  have h1 := h.eq
  have h2 := h.gt
  have h3 := h.le
  refine ⟨?_, ?_, by omega⟩ <;> omega

end Go.Proofs.YtncinpkbiphpoaaDoor

namespace Go.Proofs.YtncinpkbiphpoaaDoor
open Go.RowKit
set_option linter.unusedVariables false

theorem hide' {p : Prop} (h : p) : Hid p := h

/-- What Number makes of the digits. -/
structure NumRef (s : ByteArray) (i0 : Nat) (N : Int) : Prop where
  ok : ∀ least most : Nat, most < 1000000 → numOk s i0 least most = true → N = ((num s i0).1 : Int) ∧ (least : Int) ≤ N ∧ N ≤ (most : Int)
  no : ∀ least most : Nat, most < 1000000 → numOk s i0 least most = false → N < (least : Int) ∨ (most : Int) < N
  lo : -1 ≤ N
  hi : N ≤ 10000000
  bad : (num s i0).2 = i0 ∨ (1 < (num s i0).2 - i0 ∧ bt s i0 = 48) → N = -1
  good : ¬ ((num s i0).2 = i0 ∨ (1 < (num s i0).2 - i0 ∧ bt s i0 = 48)) → 0 ≤ N

theorem numRef_bad {s : ByteArray} {i0 i : Nat} (hf : (num s i0).2 = i) (hb : i = i0 ∨ (1 < i - i0 ∧ bt s i0 = 48)) : NumRef s i0 (-1) := by
  refine ⟨fun least most hm hok => ?_, fun least most hm hok => by omega, by omega, by omega, fun _ => rfl, fun h => absurd (by rw [hf]; exact hb) h⟩
  simp [numOk, hf] at hok
  omega
theorem numRef_good {s : ByteArray} {i0 i k : Nat} (hf : (num s i0).2 = i) (hb : ¬ (i = i0 ∨ (1 < i - i0 ∧ bt s i0 = 48))) (h1 : (num s i0).1 < 1000000 → k = (num s i0).1) (h2 : 1000000 ≤ (num s i0).1 → 1000000 ≤ k) (h3 : k ≤ 10000000) : NumRef s i0 (k : Int) := by
  refine ⟨fun least most hm hok => ?_, fun least most hm hok => ?_, by omega, by omega, fun h => absurd (by rw [hf] at h; exact h) hb, fun _ => by omega⟩
  · simp [numOk, hf] at hok
    have := h1 (by omega)
    omega
  · by_cases q : (num s i0).1 < 1000000
    · have := h1 q
      by_cases c : (num s i0).1 < least
      · omega
      by_cases d : most < (num s i0).1
      · omega
      simp [numOk, hf] at hok
      omega
    · have := h2 (by omega)
      omega

set_option maxHeartbeats 1600000 in
theorem Number_any (s : ByteArray) (i0 : Nat) (I : Int) (w : World) (hI : I = i0) (hs : s.size ≤ maxLen) (hi0 : i0 ≤ s.size) :
    Calls Tryd.prog 23 #[.string s, .int .i64 I] w fun e w' => ∃ N : Int, e = .returned (.tuple #[.int .i64 N, .int .i64 ((num s i0).2 : Int)]) ∧ NumRef s i0 N ∧ w' = w := by
  subst hI
  unfold maxLen at hs
  go_enter Tryd.func23, Tryd.ntmps23
  go_wp2
  go_loop [1, 7] (fun iv nv => ∃ k v i : Nat, iv = .int .i64 (i : Int) ∧ nv = .int .i64 (k : Int) ∧ i0 ≤ i ∧ i ≤ s.size ∧ (v < 1000000 → k = v) ∧ (1000000 ≤ v → 1000000 ≤ k) ∧ k ≤ 10000000 ∧ numF s (s.size - i) i v = num s i0) (fun iv _ => s.size - (intOf iv).toNat)
  case atStart => exact ⟨0, 0, i0, rfl, rfl, by omega, hi0, by omega, by omega, by omega, rfl⟩
  case round =>
    obtain ⟨k, v, i, rfl, rfl, hlo, hi, h1, h2, h3, hnum⟩ := hrel
    have HR := hide' hnum
    have H1 := hide' h1
    have H2 := hide' h2
    clear hnum h1 h2
    cases hin : inR s i 48 57 with
    | false =>
      have X := hide' (show num s i0 = (v, i) by rw [← HR.out, numF_stop hin])
      have hno := inR_false.1 hin
      have hfin : (num s i0).2 = i := by rw [X.out]
      have hval : (num s i0).1 = v := by rw [X.out]
      have HF := hide' hfin
      have G := hide' (fun hb => numRef_good (k := k) hfin hb (by rw [hval]; exact H1.out) (by rw [hval]; exact H2.out) h3)
      have B := hide' (fun hb => numRef_bad hfin hb)
      clear hfin hval
      -- how the loop is left, and what stands at the beginning
      have hw : (i < s.size ∧ 48 ≤ bt s i ∧ ¬ bt s i ≤ 57) ∨ (i < s.size ∧ ¬ 48 ≤ bt s i) ∨ ¬ i < s.size := by omega
      clear hno hin
      rcases hw with ⟨c1, c2, c3⟩ | ⟨c1, c2⟩ | c1
      · have e2 := bt_lt s i c1
        have k1 : (48 : Int) ≤ (s[i].toNat : Int) := by omega
        have k2 : ¬ (s[i].toNat : Int) ≤ 57 := by omega
        clear e2 c2 c3
        by_cases d1 : i = i0
        · have n1 : ((i : Int) == (i0 : Int)) = true := by simp; omega
          have D := hide' d1
          clear d1
          go_wp2
          go_ret2
          rw [HF.out]
          exact ⟨_, rfl, B.out (Or.inl D.out), rfl⟩
        · have n1 : ((i : Int) == (i0 : Int)) = false := by simp; omega
          have hlt0 : i0 < s.size := by omega
          have e0 := bt_lt s i0 hlt0
          by_cases d2 : bt s i0 = 48
          · have n2 : ((s[i0].toNat : Int) == 48) = true := by simp; omega
            have D2 := hide' d2
            clear e0 d2
            by_cases d3 : i0 + 1 < i
            · have n3 : (i0 : Int) + 1 < (i : Int) := by omega
              go_wp2
              go_ret2
              rw [HF.out]
              exact ⟨_, rfl, B.out (Or.inr ⟨by omega, D2.out⟩), rfl⟩
            · have n3 : ¬ (i0 : Int) + 1 < (i : Int) := by omega
              go_wp2
              go_ret2
              rw [HF.out]
              exact ⟨_, rfl, G.out (by omega), rfl⟩
          · have n2 : ((s[i0].toNat : Int) == 48) = false := by simp; omega
            have D2 := hide' d2
            clear e0 d2
            go_wp2
            go_ret2
            rw [HF.out]
            have := D2.out
            exact ⟨_, rfl, G.out (by omega), rfl⟩
      · have e2 := bt_lt s i c1
        have k1 : ¬ (48 : Int) ≤ (s[i].toNat : Int) := by omega
        clear e2 c2
        by_cases d1 : i = i0
        · have n1 : ((i : Int) == (i0 : Int)) = true := by simp; omega
          have D := hide' d1
          clear d1
          go_wp2
          go_ret2
          rw [HF.out]
          exact ⟨_, rfl, B.out (Or.inl D.out), rfl⟩
        · have n1 : ((i : Int) == (i0 : Int)) = false := by simp; omega
          have hlt0 : i0 < s.size := by omega
          have e0 := bt_lt s i0 hlt0
          by_cases d2 : bt s i0 = 48
          · have n2 : ((s[i0].toNat : Int) == 48) = true := by simp; omega
            have D2 := hide' d2
            clear e0 d2
            by_cases d3 : i0 + 1 < i
            · have n3 : (i0 : Int) + 1 < (i : Int) := by omega
              go_wp2
              go_ret2
              rw [HF.out]
              exact ⟨_, rfl, B.out (Or.inr ⟨by omega, D2.out⟩), rfl⟩
            · have n3 : ¬ (i0 : Int) + 1 < (i : Int) := by omega
              go_wp2
              go_ret2
              rw [HF.out]
              exact ⟨_, rfl, G.out (by omega), rfl⟩
          · have n2 : ((s[i0].toNat : Int) == 48) = false := by simp; omega
            have D2 := hide' d2
            clear e0 d2
            go_wp2
            go_ret2
            rw [HF.out]
            have := D2.out
            exact ⟨_, rfl, G.out (by omega), rfl⟩
      · have k1 : ¬ (i : Int) < (s.size : Int) := by omega
        by_cases d1 : i = i0
        · have n1 : ((i : Int) == (i0 : Int)) = true := by simp; omega
          have D := hide' d1
          clear d1
          go_wp2
          go_ret2
          rw [HF.out]
          exact ⟨_, rfl, B.out (Or.inl D.out), rfl⟩
        · have n1 : ((i : Int) == (i0 : Int)) = false := by simp; omega
          have hlt0 : i0 < s.size := by omega
          have e0 := bt_lt s i0 hlt0
          by_cases d2 : bt s i0 = 48
          · have n2 : ((s[i0].toNat : Int) == 48) = true := by simp; omega
            have D2 := hide' d2
            clear e0 d2
            by_cases d3 : i0 + 1 < i
            · have n3 : (i0 : Int) + 1 < (i : Int) := by omega
              go_wp2
              go_ret2
              rw [HF.out]
              exact ⟨_, rfl, B.out (Or.inr ⟨by omega, D2.out⟩), rfl⟩
            · have n3 : ¬ (i0 : Int) + 1 < (i : Int) := by omega
              go_wp2
              go_ret2
              rw [HF.out]
              exact ⟨_, rfl, G.out (by omega), rfl⟩
          · have n2 : ((s[i0].toNat : Int) == 48) = false := by simp; omega
            have D2 := hide' d2
            clear e0 d2
            go_wp2
            go_ret2
            rw [HF.out]
            have := D2.out
            exact ⟨_, rfl, G.out (by omega), rfl⟩
    | true =>
      have c1 := (inR_true.1 hin).1
      have hb := (inR_true.1 hin).2
      have e2 := bt_lt s i c1
      have k1 : (48 : Int) ≤ (s[i].toNat : Int) := by omega
      have k2 : (s[i].toNat : Int) ≤ 57 := by omega
      have X := hide' (numF_step (v := v) hin)
      have E2 := hide' e2
      clear hin hb e2
      by_cases c2 : (k : Int) < 1000000
      · go_wp2
        have h1 := H1.out
        have h2 := H2.out
        have e2 := E2.out
        refine ⟨⟨k * 10 + (bt s i - 48), v * 10 + (bt s i - 48), i + 1, by go_num, ?_, by omega, by omega, by omega, by omega, by omega, X.out.symm.trans HR.out⟩, by simp [intOf]; omega⟩
        rw [show (k : Int) * 10 + (s[i].toNat : Int) - 48 = ((k * 10 + (bt s i - 48) : Nat) : Int) by omega]
      · go_wp2
        have h1 := H1.out
        have h2 := H2.out
        exact ⟨⟨k, v * 10 + (bt s i - 48), i + 1, by go_num, rfl, by omega, by omega, by omega, by omega, h3, X.out.symm.trans HR.out⟩, by simp [intOf]; omega⟩
end Go.Proofs.YtncinpkbiphpoaaDoor

namespace Go.Proofs.YtncinpkbiphpoaaDoor
open Go.RowKit

/-- A table in memory: a slice that reads as the numbers. -/
def Tab (w : World) (v : Value) (xs : List Int) : Prop :=
  (xs = [] ∧ v = .slice none 0 0) ∨ ∃ g cap, v = .slice (some ⟨g, 0, none⟩) xs.length cap ∧ g < w.heap.size ∧ ∀ k (h : k < xs.length), w.cell? ⟨g, k, none⟩ = some (.int .i64 xs[k])

/-- A slice whose block was made since. -/
def Fresh (w : World) (v : Value) : Prop := ∀ g k c, v = .slice (some ⟨g, 0, none⟩) k c → w.heap.size ≤ g
theorem Fresh.nil (w : World) : Fresh w (.slice none 0 0) := fun _ _ _ h => by injection h with h1; cases h1
theorem Fresh.mk {w : World} {g k c : Nat} (h : w.heap.size ≤ g) : Fresh w (.slice (some ⟨g, 0, none⟩) k c) := fun g' _ _ q => by
  injection q with q1; injection q1 with q2; injection q2 with q3; omega

/-- A rule as a value, its table at v. -/
def Out.val (o : Out) (v : Value) : Value := .agg #[.int .i64 o.kind, .int .i64 o.born, .int .i64 o.stay, .int .i64 o.states, .int .i64 o.radius, v, .string o.turns]

/-- The cells of a new rule. -/
def zeroCells : Array Value := #[.int .i64 0, .int .i64 0, .int .i64 0, .int .i64 0, .int .i64 0, .slice none 0 0, .string ⟨#[]⟩]

/-- A block that the call made ahead still lies there. -/
theorem Rd.made {b : Nat} {w w' : World} {C : Array Value} {t : TypeId} (h : Rd b (w.alloc (.cells C t)) w') (hb : b < w.heap.size) :
    (∀ j, w'.cell? ⟨w.heap.size, j, none⟩ = C[j]?) ∧ (∀ j, w'.frozen? ⟨w.heap.size, j, none⟩ = false) := by
  refine ⟨fun j => ?_, fun j => ?_⟩
  · rw [h.cell w.heap.size j (by simp) (by omega)]; simp
  · rw [h.frozen w.heap.size j (by simp) (by omega)]; simp

end Go.Proofs.YtncinpkbiphpoaaDoor

namespace Go.Proofs.YtncinpkbiphpoaaDoor
open Go.RowKit

/-- At block g a list of n numbers, the first k of which are f's. -/
structure Fill (g n k : Nat) (f : Nat → Int) (w : World) : Prop where
  lt : g < w.heap.size
  cells : ∀ j, j < n → ∃ v, w.cell? ⟨g, j, none⟩ = some v ∧ (j < k → v = .int .i64 (f j))
  fz : ∀ j, w.frozen? ⟨g, j, none⟩ = false

theorem Fill.start (w : World) (n : Nat) (f : Nat → Int) (z : Value) (t : TypeId) : Fill w.heap.size n 0 f (w.alloc (.cells (madeCells #[z] n) t)) := by
  refine ⟨by simp, fun j hj => ⟨(madeCells #[z] n)[j]'(by rw [size_madeCells]; exact hj), ?_, by omega⟩, fun j => by simp⟩
  rw [World.cell?_alloc_at _ _ _ _ rfl]
  exact Array.getElem?_eq_getElem (by rw [size_madeCells]; exact hj)
theorem Fill.step {g n k : Nat} {f : Nat → Int} {w : World} (h : Fill g n k f w) (hk : k < n) : Fill g n (k + 1) f (w.setCell ⟨g, k, none⟩ (.int .i64 (f k))) := by
  refine ⟨by rw [World.size_setCell]; exact h.lt, fun j hj => ?_, fun j => by rw [World.frozen?_setCell]; exact h.fz j⟩
  by_cases e : j = k
  · subst e
    obtain ⟨v, hv, -⟩ := h.cells j hj
    exact ⟨_, World.cell?_setCell_same (w := w) (a := ⟨g, j, none⟩) (v := _) (h := hv), fun _ => rfl⟩
  · obtain ⟨v, hv, hv'⟩ := h.cells j hj
    refine ⟨v, ?_, fun _ => hv' (by omega)⟩
    exact (World.cell?_setCell_other (w := w) (a := ⟨g, k, none⟩) (b := ⟨g, j, none⟩) (v := _) (h := fun q => e (congrArg Addr.off q).symm)).trans hv
end Go.Proofs.YtncinpkbiphpoaaDoor

namespace Go.Proofs.YtncinpkbiphpoaaDoor
open Go.RowKit
set_option linter.unusedVariables false

theorem Tab.parts {w : World} {v : Value} {xs : List Int} (h : Tab w v xs) :
    ∃ a c, v = .slice a xs.length c ∧ ∀ k (h : k < xs.length), ∃ g, a = some ⟨g, 0, none⟩ ∧ w.cell? ⟨g, k, none⟩ = some (.int .i64 xs[k]) := by
  rcases h with ⟨rfl, rfl⟩ | ⟨g, cap, rfl, hg, hc⟩
  · exact ⟨none, 0, rfl, fun k h => absurd h (by simp)⟩
  · exact ⟨_, cap, rfl, fun k h => ⟨g, rfl, hc k h⟩⟩

end Go.Proofs.YtncinpkbiphpoaaDoor

namespace Go.Proofs.YtncinpkbiphpoaaDoor
open Go.RowKit
set_option linter.unusedVariables false

theorem Tab.slice {w : World} {v : Value} {xs : List Int} (h : Tab w v xs) : ∃ a n c, v = .slice a n c := by
  rcases h with ⟨-, h⟩ | ⟨g, cap, h, -, -⟩
  · exact ⟨_, _, _, h⟩
  · exact ⟨_, _, _, h⟩
end Go.Proofs.YtncinpkbiphpoaaDoor

namespace Go.Proofs.YtncinpkbiphpoaaDoor
open Go.RowKit

end Go.Proofs.YtncinpkbiphpoaaDoor

namespace Go.Proofs.YtncinpkbiphpoaaDoor
open Go.RowKit
set_option linter.unusedVariables false

/-- What a call on the reader comes to: the rule, and how far; or the fault's place, by a panic. -/
def Reads (x : (Out × Nat) ⊕ Nat) (b : Nat) (s : ByteArray) (w : World) (e : Ending) (w' : World) : Prop :=
  match x with
  | .inr a => e = .panicked oops ∧ At b s a w' ∧ Rd b w w'
  | .inl (o, p) => ∃ v, e = .returned (o.val v) ∧ Tab w' v o.table ∧ Fresh w v ∧ At b s p w' ∧ Rd b w w' ∧ p ≤ s.size

theorem Reads.bad {b : Nat} {s : ByteArray} {w w' : World} {a : Nat} (ha : At b s a w') (hr : Rd b w w') : Reads (.inr a) b s w (.panicked oops) w' := ⟨rfl, ha, hr⟩

end Go.Proofs.YtncinpkbiphpoaaDoor

namespace Go.Proofs.YtncinpkbiphpoaaDoor
open Go.RowKit

end Go.Proofs.YtncinpkbiphpoaaDoor

namespace Go.Proofs.YtncinpkbiphpoaaDoor
open Go.RowKit
set_option linter.unusedVariables false

theorem At.below {b : Nat} {s : ByteArray} {i : Nat} {w w' : World} (h : At b s i w) (hb : Below w.heap.size w w') : At b s i w' := by
  have e := hb.block b h.lt
  exact ⟨(World.cell?_of_block (w := w) (a := ⟨b, 0, none⟩) e).trans h.txt, (World.cell?_of_block (w := w) (a := ⟨b, 1, none⟩) e).trans h.pos,
    (World.frozen?_of_block (w := w) (a := ⟨b, 0, none⟩) e).trans h.fz0, (World.frozen?_of_block (w := w) (a := ⟨b, 1, none⟩) e).trans h.fz1⟩
theorem At.drew {b : Nat} {s : ByteArray} {i : Nat} {w : World} (h : At b s i w) : At b s i w.drew := ⟨h.txt, h.pos, h.fz0, h.fz1⟩
end Go.Proofs.YtncinpkbiphpoaaDoor

