/-
  What the last text of this claim leans on, part 1: Spec, Rd, Rb, Rn, Ref1, Rk, Fill, Ref2, Ow, Rk2, Rk3, Clone, Rk4, Pr1.
-/
import Derived.Test.YtemhcpldflcfbaaGreatDoorProg
import Derived.WalkKit
import Derived.WalkSpells
import Derived.WalkLawsBesides
import Derived.Deep.QuietTactic
import Derived.BigQuiet
import Derived.Laws.BitsAllLaws
import Derived.Deep.OwnRows
import Derived.Deep.AppendLies
import Derived.Deep.RegionHeld3
import Derived.Deep.RegionLaw
import Derived.Deep.RegionWith
import Derived.Laws.IdiomStrings
import Derived.Laws.MakeOwn
import Derived.Lib.BufferWrite
import Derived.Lib.Hide
import Derived.Lib.Walk
import Derived.WalkSmall
import Derived.Lib.Strings
import Derived.Lib.UnsafeStr
namespace Go.Proofs.YtemhcpldflcfbaaGreatDoor
def inR (s : ByteArray) (i : Nat) (lo hi : Int) : Bool := if h : i < s.size then decide (lo ≤ (s[i].toNat : Int)) && decide ((s[i].toNat : Int) ≤ hi) else false
def bt (s : ByteArray) (i : Nat) : Nat := if h : i < s.size then s[i].toNat else 0
theorem bt_lt (s : ByteArray) (i : Nat) (h : i < s.size) : s[i].toNat = bt s i := by simp [bt, h]
def numF (s : ByteArray) : Nat → Nat → Nat → Nat × Nat
 | 0, i, v => (v, i)
 | f + 1, i, v => if inR s i 48 57 then numF s f (i + 1) (v * 10 + (bt s i - 48)) else (v, i)
def num (s : ByteArray) (i : Nat) : Nat × Nat := numF s (s.size - i) i 0
structure Out where
 kind : Int
 born : Int
 stay : Int
 states : Int
 radius : Int
 table : List Int
 turns : ByteArray
def entries (n m : Nat) : Nat := n ^ (2 * m + 1)
open Go.RowKit
structure At (b : Nat) (s : ByteArray) (i : Nat) (w : World) : Prop where
 txt : w.cell? ⟨b, 0, none⟩ = some (.string s)
 pos : w.cell? ⟨b, 1, none⟩ = some (.int .i64 (i : Int))
 fz0 : w.frozen? ⟨b, 0, none⟩ = false
 fz1 : w.frozen? ⟨b, 1, none⟩ = false
structure Rd (b : Nat) (w w' : World) : Prop where
 os : w'.os = w.os
 tape : w'.tape = w.tape
 output : w'.output = w.output
 size : w.heap.size ≤ w'.heap.size
 block : ∀ k, k < w.heap.size → k ≠ b → w'.heap[k]? = w.heap[k]?
theorem Rd.refl (b : Nat) (w : World) : Rd b w w := ⟨rfl, rfl, rfl, Nat.le_refl _, fun _ _ _ => rfl⟩
theorem Rd.trans {b : Nat} {a c d : World} (h : Rd b a c) (k : Rd b c d) : Rd b a d :=
 ⟨k.os.trans h.os, k.tape.trans h.tape, k.output.trans h.output, Nat.le_trans h.size k.size, fun i hi hb => (k.block i (Nat.lt_of_lt_of_le hi h.size) hb).trans (h.block i hi hb)⟩
theorem Rd.drewN {b : Nat} {a w : World} (h : Rd b a w) (n : Nat) : Rd b a (w.drewN n) := h.trans ⟨rfl, rfl, rfl, Nat.le_refl _, fun _ _ _ => rfl⟩
theorem Rd.drew {b : Nat} {a w : World} (h : Rd b a w) : Rd b a w.drew := h.trans ⟨rfl, rfl, rfl, Nat.le_refl _, fun _ _ _ => rfl⟩
theorem Rd.alloc {b : Nat} {a w : World} (h : Rd b a w) (o : Obj) : Rd b a (w.alloc o) :=
 h.trans ⟨rfl, rfl, rfl, by simp, fun k hk _ => Below.heap_alloc _ _ _ hk⟩
theorem Rd.set {b : Nat} {a w : World} (h : Rd b a w) (o : Nat) (u : Value) : Rd b a (w.setCell ⟨b, o, none⟩ u) :=
 h.trans ⟨rfl, rfl, rfl, by simp [World.setCell], fun k _ hk => Below.heap_setCell _ _ _ _ hk⟩
theorem Rd.below {b B : Nat} {w w' : World} (h : Rd b w w') (hB : B ≤ b) (hs : B ≤ w.heap.size) : Below B w w' :=
 ⟨h.os, h.tape, h.output, h.size, fun k hk => h.block k (by omega) (by omega)⟩
theorem Rd.cell {b : Nat} {w w' : World} (h : Rd b w w') : ∀ k o, k < w.heap.size → k ≠ b → w'.cell? ⟨k, o, none⟩ = w.cell? ⟨k, o, none⟩ :=
 fun k _ hk hb => World.cell?_of_block (w := w) (h.block k hk hb)
theorem Rd.frozen {b : Nat} {w w' : World} (h : Rd b w w') : ∀ k o, k < w.heap.size → k ≠ b → w'.frozen? ⟨k, o, none⟩ = w.frozen? ⟨k, o, none⟩ :=
 fun k _ hk hb => World.frozen?_of_block (w := w) (h.block k hk hb)
theorem At.lt {b : Nat} {s : ByteArray} {i : Nat} {w : World} (h : At b s i w) : b < w.heap.size := by
 rcases Nat.lt_or_ge b w.heap.size with k | k
 ·exact k
 ·have := h.txt; simp [World.cell?, Array.getElem?_eq_none k] at this
theorem At.drewN {b : Nat} {s : ByteArray} {i : Nat} {w : World} (h : At b s i w) (n : Nat) : At b s i (w.drewN n) := ⟨h.txt, h.pos, h.fz0, h.fz1⟩
theorem At.alloc {b : Nat} {s : ByteArray} {i : Nat} {w : World} (h : At b s i w) (o : Obj) : At b s i (w.alloc o) := by
 have hl := h.lt
 have e : (w.alloc o).heap[b]? = w.heap[b]? := Below.heap_alloc _ _ _ hl
 exact ⟨(World.cell?_of_block (w := w) (a := ⟨b, 0, none⟩) e).trans h.txt, (World.cell?_of_block (w := w) (a := ⟨b, 1, none⟩) e).trans h.pos,
  (World.frozen?_of_block (w := w) (a := ⟨b, 0, none⟩) e).trans h.fz0, (World.frozen?_of_block (w := w) (a := ⟨b, 1, none⟩) e).trans h.fz1⟩
theorem At.go {b : Nat} {s : ByteArray} {i : Nat} {w : World} (h : At b s i w) (j : Nat) : At b s j (w.setCell ⟨b, 1, none⟩ (.int .i64 (j : Int))) := by
 refine ⟨?_, ?_, ?_, ?_⟩
 ·exact (World.cell?_setCell_other (w := w) (a := ⟨b, 1, none⟩) (b := ⟨b, 0, none⟩) (v := _) (h := by simp)).trans h.txt
 ·exact World.cell?_setCell_same (w := w) (a := ⟨b, 1, none⟩) (v := _) (h := h.pos)
 ·rw [World.frozen?_setCell]; exact h.fz0
 ·rw [World.frozen?_setCell]; exact h.fz1
def oops : List PanicEntry := [{ v := .iface 56 (.int .i64 2), recovered := false }]

structure Cap (most v k : Nat) : Prop where
 eq : v ≤ most → k = v
 gt : most < v → most < k
 le : k ≤ 10 * most + 9
theorem Cap.below {most v k d : Nat} (h : Cap most v k) (hd : d ≤ 9) (hk : k ≤ most) : Cap most (v * 10 + d) (10 * k + d) := by
 have h1 := h.eq
 have h2 := h.gt
 refine ⟨?_, ?_, by omega⟩ <;> omega
theorem Cap.above {most v k d : Nat} (h : Cap most v k) (hk : most < k) : Cap most (v * 10 + d) k := by
 have h1 := h.eq
 have h2 := h.gt
 have h3 := h.le
 refine ⟨?_, ?_, by omega⟩ <;> omega
set_option linter.unusedVariables false
theorem hide' {p : Prop} (h : p) : Hid p := h
def Tab (w : World) (v : Value) (xs : List Int) : Prop :=
 (xs = [] ∧ v = .slice none 0 0) ∨ ∃ g cap, v = .slice (some ⟨g, 0, none⟩) xs.length cap ∧ g < w.heap.size ∧ ∀ k (h : k < xs.length), w.cell? ⟨g, k, none⟩ = some (.int .i64 xs[k])
def Fresh (w : World) (v : Value) : Prop := ∀ g k c, v = .slice (some ⟨g, 0, none⟩) k c → w.heap.size ≤ g
theorem Fresh.nil (w : World) : Fresh w (.slice none 0 0) := fun _ _ _ h => by injection h with h1; cases h1
theorem Fresh.mk {w : World} {g k c : Nat} (h : w.heap.size ≤ g) : Fresh w (.slice (some ⟨g, 0, none⟩) k c) := fun g' _ _ q => by
 injection q with q1; injection q1 with q2; injection q2 with q3; omega
def Out.val (o : Out) (v : Value) : Value := .agg #[.int .i64 o.kind, .int .i64 o.born, .int .i64 o.stay, .int .i64 o.states, .int .i64 o.radius, v, .string o.turns]
def zeroCells : Array Value := #[.int .i64 0, .int .i64 0, .int .i64 0, .int .i64 0, .int .i64 0, .slice none 0 0, .string ⟨#[]⟩]
theorem Rd.made {b : Nat} {w w' : World} {C : Array Value} {t : TypeId} (h : Rd b (w.alloc (.cells C t)) w') (hb : b < w.heap.size) :
  (∀ j, w'.cell? ⟨w.heap.size, j, none⟩ = C[j]?) ∧ (∀ j, w'.frozen? ⟨w.heap.size, j, none⟩ = false) := by
 refine ⟨fun j => ?_, fun j => ?_⟩
 ·rw [h.cell w.heap.size j (by simp) (by omega)]; simp
 ·rw [h.frozen w.heap.size j (by simp) (by omega)]; simp
theorem hide {p : Prop} (h : p) : Hid p := h
theorem unhide {p : Prop} (h : Hid p) : p := h
structure Fill (g n k : Nat) (f : Nat → Int) (w : World) : Prop where
 lt : g < w.heap.size
 cells : ∀ j, j < n → ∃ v, w.cell? ⟨g, j, none⟩ = some v ∧ (j < k → v = .int .i64 (f j))
 fz : ∀ j, w.frozen? ⟨g, j, none⟩ = false
theorem Fill.start (w : World) (n : Nat) (f : Nat → Int) (z : Value) (t : TypeId) : Fill w.heap.size n 0 f (w.alloc (.cells (madeCells #[z] n) t)) := by
 refine ⟨by simp, fun j hj => ⟨(madeCells #[z] n)[j]'(by rw [size_madeCells]; exact hj), ?_, by omega⟩, fun j => by simp⟩
 rw [World.cell?_alloc_at _ _ _ _ rfl]
 exact Array.getElem?_eq_getElem (by rw [size_madeCells]; exact hj)
theorem Fill.step {g n k : Nat} {f : Nat → Int} {w : World} (h : Fill g n k f w) (hk : k < n) : Fill g n (k + 1) f (w.setCell ⟨g, k, none⟩ (.int .i64 (f k))) := by
 refine ⟨by rw [World.size_setCell]; exact h.lt, fun j hj => ?_, fun j => by rw [World.frozen?_setCell]; exact h.fz j⟩
 by_cases e : j = k
 ·subst e
  obtain ⟨v, hv, -⟩ := h.cells j hj
  exact ⟨_, World.cell?_setCell_same (w := w) (a := ⟨g, j, none⟩) (v := _) (h := hv), fun _ => rfl⟩
 ·obtain ⟨v, hv, hv'⟩ := h.cells j hj
  refine ⟨v, ?_, fun _ => hv' (by omega)⟩
  exact (World.cell?_setCell_other (w := w) (a := ⟨g, k, none⟩) (b := ⟨g, j, none⟩) (v := _) (h := fun q => e (congrArg Addr.off q).symm)).trans hv
theorem Fill.rd {b g n k : Nat} {f : Nat → Int} {w w' : World} (h : Fill g n k f w) (r : Rd b w w') (hb : g ≠ b) : Fill g n k f w' := by
 refine ⟨Nat.lt_of_lt_of_le h.lt r.size, fun j hj => ?_, fun j => ?_⟩
 ·obtain ⟨v, hv, hv'⟩ := h.cells j hj
  exact ⟨v, by rw [r.cell g j h.lt hb]; exact hv, hv'⟩
 ·rw [r.frozen g j h.lt hb]; exact h.fz j
theorem Fill.other {g n k : Nat} {f : Nat → Int} {w : World} (h : Fill g n k f w) {p : Addr} (hp : g ≠ p.block) (u : Value) : Fill g n k f (w.setCell p u) := by
 have e : (w.setCell p u).heap[g]? = w.heap[g]? := Below.heap_setCell _ _ _ _ hp
 refine ⟨by rw [World.size_setCell]; exact h.lt, fun j hj => ?_, fun j => ?_⟩
 ·obtain ⟨v, hv, hv'⟩ := h.cells j hj
  exact ⟨v, (World.cell?_of_block (w := w) (a := ⟨g, j, none⟩) e).trans hv, hv'⟩
 ·exact (World.frozen?_of_block (w := w) (a := ⟨g, j, none⟩) e).trans (h.fz j)
theorem Fill.tab {g n cap : Nat} {f : Nat → Int} {w : World} (h : Fill g n n f w) : Tab w (.slice (some ⟨g, 0, none⟩) n cap) ((List.range n).map f) := by
 refine Or.inr ⟨g, cap, by simp, h.lt, fun k hk => ?_⟩
 simp at hk
 obtain ⟨v, hv, hv'⟩ := h.cells k hk
 rw [hv, hv' hk]; simp
theorem Tab.other {w : World} {v : Value} {xs : List Int} (h : Tab w v xs) {p : Addr} (u : Value) (hp : ∀ g c, v = .slice (some ⟨g, 0, none⟩) xs.length c → g ≠ p.block) : Tab (w.setCell p u) v xs := by
 rcases h with h | ⟨g, cap, hv, hg, hc⟩
 ·exact Or.inl h
 ·have e : (w.setCell p u).heap[g]? = w.heap[g]? := Below.heap_setCell _ _ _ _ (hp g cap hv)
  exact Or.inr ⟨g, cap, hv, by rw [World.size_setCell]; exact hg, fun k hk => (World.cell?_of_block (w := w) (a := ⟨g, k, none⟩) e).trans (hc k hk)⟩
def entF (n : Nat) : Nat → Nat → Nat
 | 0, e => e
 | f + 1, e => if e ≤ 4096 then entF n f (e * (n * n)) else e
def entOf (n m : Nat) : Nat := entF n m n
theorem entF_stop {n e : Nat} (h : ¬ e ≤ 4096) : ∀ f, entF n f e = e
 | 0 => rfl
 | f + 1 => by simp [entF, h]
theorem Tab.parts {w : World} {v : Value} {xs : List Int} (h : Tab w v xs) :
  ∃ a c, v = .slice a xs.length c ∧ ∀ k (h : k < xs.length), ∃ g, a = some ⟨g, 0, none⟩ ∧ w.cell? ⟨g, k, none⟩ = some (.int .i64 xs[k]) := by
 rcases h with ⟨rfl, rfl⟩ | ⟨g, cap, rfl, hg, hc⟩
 ·exact ⟨none, 0, rfl, fun k h => absurd h (by simp)⟩
 ·exact ⟨_, cap, rfl, fun k h => ⟨g, rfl, hc k h⟩⟩
theorem info_int : (Tryz.prog.info? 3).map (fun i => (i.zero, i.size, i.bytes)) = some (some (.int .i64 0), 1, 8) := by kernel_rfl
theorem Tab.slice {w : World} {v : Value} {xs : List Int} (h : Tab w v xs) : ∃ a n c, v = .slice a n c := by
 rcases h with ⟨-, h⟩ | ⟨g, cap, h, -, -⟩
 ·exact ⟨_, _, _, h⟩
 ·exact ⟨_, _, _, h⟩
theorem ownsRow_block {w : World} {base : Nat} {e : TypeId} {v : Value} {n : Nat} {xs : List Value} (h : w.ownsRow base e 1 v n xs) : ∀ k, v.ownBlock = some k → base ≤ k := by
 intro k hk
 rcases h.2 with ⟨hv, -⟩ | ⟨g, cap, cur, hv, hg, -⟩
 ·rw [hv] at hk; cases hk
 ·rw [hv] at hk
  have : g = k := by simpa [Value.ownBlock] using hk
  omega
theorem cell_all_new (w : World) (cs : Array Value) (u k : Nat) : (w.alloc (.cells cs u)).drew.cell? ⟨w.heap.size, k, none⟩ = cs[k]? := by
 have h : (w.alloc (.cells cs u)).heap[w.heap.size]? = some (.cells cs u) := by unfold World.alloc; simp
 show (w.alloc (.cells cs u)).cell? _ = _
 simp only [World.cell?, h]
 rfl
theorem cell_new_at (w : World) (cs : Array Value) (u k : Nat) : (w.alloc (.cells cs u)).cell? ⟨w.heap.size, k, none⟩ = cs[k]? := cell_all_new w cs u k
theorem i64_and_nat (a b : Nat) (ha : a < 4294967296) (hb : b < 4294967296) : bits .and .i64 (a : Int) (b : Int) = ((a &&& b : Nat) : Int) := by
 have hx : a &&& b < 2 ^ 32 := Nat.and_lt_two_pow _ (by omega)
 show IntKind.i64.wrap ((BitVec.ofInt 64 (a : Int) &&& BitVec.ofInt 64 (b : Int)).toNat : Int) = _
 rw [BitVec.toNat_and, ofInt_u64 a (by omega), ofInt_u64 b (by omega)]
 simp [IntKind.wrap, IntKind.bits, IntKind.signed]
 omega
def Reads (x : (Out × Nat) ⊕ Nat) (b : Nat) (s : ByteArray) (w : World) (e : Ending) (w' : World) : Prop :=
 match x with
 | .inr a => e = .panicked oops ∧ At b s a w' ∧ Rd b w w'
 | .inl (o, p) => ∃ v, e = .returned (o.val v) ∧ Tab w' v o.table ∧ Fresh w v ∧ At b s p w' ∧ Rd b w w' ∧ p ≤ s.size
theorem Reads.bad {b : Nat} {s : ByteArray} {w w' : World} {a : Nat} (ha : At b s a w') (hr : Rd b w w') : Reads (.inr a) b s w (.panicked oops) w' := ⟨rfl, ha, hr⟩

theorem isTurn_any (c : Int) (w : World) :
  Calls Tryz.prog 106 #[.int .u8 c] w fun e w' => e = .returned (.bool (c == 76 || c == 82)) ∧ w' = w := by
 cases h1 : (c == 76)
 ·cases h2 : (c == 82)
  ·go_enter Tryz.func106, Tryz.ntmps106
   go_wp2
   go_ret
   exact ⟨rfl, rfl⟩
  ·go_enter Tryz.func106, Tryz.ntmps106
   go_wp2
   go_ret
   exact ⟨rfl, rfl⟩
 ·go_enter Tryz.func106, Tryz.ntmps106
  go_wp2
  go_ret
  exact ⟨rfl, rfl⟩
theorem isTurn_yes (c : Int) (w : World) (h : c = 76 ∨ c = 82) :
  Calls Tryz.prog 106 #[.int .u8 c] w fun e w' => e = .returned (.bool true) ∧ w' = w := by
 refine (isTurn_any c w).mono fun e w' ⟨he, hw⟩ => ⟨?_, hw⟩
 rw [he, show (c == 76 || c == 82) = true by simp; omega]
theorem isTurn_no (c : Int) (w : World) (h : ¬ (c = 76 ∨ c = 82)) :
  Calls Tryz.prog 106 #[.int .u8 c] w fun e w' => e = .returned (.bool false) ∧ w' = w := by
 refine (isTurn_any c w).mono fun e w' ⟨he, hw⟩ => ⟨?_, hw⟩
 rw [he, show (c == 76 || c == 82) = false by simp; omega]
theorem Rd.of_below {b : Nat} {w w' : World} (h : Below w.heap.size w w') : Rd b w w' := ⟨h.os, h.tape, h.output, h.size, fun k hk _ => h.block k hk⟩
theorem At.below {b : Nat} {s : ByteArray} {i : Nat} {w w' : World} (h : At b s i w) (hb : Below w.heap.size w w') : At b s i w' := by
 have e := hb.block b h.lt
 exact ⟨(World.cell?_of_block (w := w) (a := ⟨b, 0, none⟩) e).trans h.txt, (World.cell?_of_block (w := w) (a := ⟨b, 1, none⟩) e).trans h.pos,
  (World.frozen?_of_block (w := w) (a := ⟨b, 0, none⟩) e).trans h.fz0, (World.frozen?_of_block (w := w) (a := ⟨b, 1, none⟩) e).trans h.fz1⟩
theorem At.drew {b : Nat} {s : ByteArray} {i : Nat} {w : World} (h : At b s i w) : At b s i w.drew := ⟨h.txt, h.pos, h.fz0, h.fz1⟩
structure ArgR (w : World) (o : Out) (a : Option Addr) (n c : Nat) : Prop where
 len : n = o.table.length
 max : n ≤ maxLen
 tmax : o.turns.size ≤ maxLen
 cells : ∀ k (h : k < o.table.length), ∃ g off, a = some ⟨g, off, none⟩ ∧ g < w.heap.size ∧ w.cell? ⟨g, off + k, none⟩ = some (.int .i64 o.table[k])
 rmax : o.radius ≤ 9223372036854775807
theorem ArgR.below {w w' : World} {o : Out} {a : Option Addr} {n c : Nat} (h : ArgR w o a n c) (hb : Below w.heap.size w w') : ArgR w' o a n c :=
 ⟨h.len, h.max, h.tmax, fun k hk => by
  obtain ⟨g, off, e, hg, hc⟩ := h.cells k hk
  exact ⟨g, off, e, Nat.lt_of_lt_of_le hg hb.size, (World.cell?_of_block (w := w) (a := ⟨g, off + k, none⟩) (hb.block g hg)).trans hc⟩, h.rmax⟩
theorem ArgR.alloc {w : World} {o : Out} {a : Option Addr} {n c : Nat} (h : ArgR w o a n c) (x : Obj) : ArgR (w.alloc x) o a n c :=
 h.below ((Below.refl _ _).alloc (Nat.le_refl _) _)
def bitsB (n : Int) : Bool := decide (0 ≤ n) && decide (n ≤ 511)
def noLifeB (o : Out) : Bool := (o.born == 0) && (o.stay == 0)
def noLineB (o : Out) : Bool := (o.states == 0) && (o.radius == 0) && decide (o.table.length = 0)
def turnAt (t : ByteArray) (i : Nat) : Prop := bt t i = 76 ∨ bt t i = 82
def turnsP (t : ByteArray) : Prop := 1 ≤ t.size ∧ t.size ≤ 26 ∧ ∀ i, i < t.size → turnAt t i
def lineP (o : Out) : Prop := 2 ≤ o.states ∧ o.states ≤ 4 ∧ 0 ≤ o.radius ∧ entOf o.states.toNat o.radius.toNat ≤ 4096 ∧ o.table.length = entOf o.states.toNat o.radius.toNat ∧ ∀ k (h : k < o.table.length), 0 ≤ o.table[k] ∧ o.table[k] < o.states
theorem isBits_any (n : Int) (w : World) :
  Calls Tryz.prog 77 #[.int .i64 n] w fun e w' => e = .returned (.bool (bitsB n)) ∧ w' = w := by
 by_cases h1 : 0 ≤ n
 ·by_cases h2 : n ≤ 511
  ·rw [show bitsB n = true by unfold bitsB; simp; omega]
   go_enter Tryz.func77, Tryz.ntmps77
   go_wp2
   go_ret
   exact ⟨rfl, rfl⟩
  ·rw [show bitsB n = false by unfold bitsB; simp; omega]
   go_enter Tryz.func77, Tryz.ntmps77
   go_wp2
   go_ret
   exact ⟨rfl, rfl⟩
 ·rw [show bitsB n = false by unfold bitsB; simp; omega]
  go_enter Tryz.func77, Tryz.ntmps77
  go_wp2
  go_ret
  exact ⟨rfl, rfl⟩
theorem hasNoLife_any (o : Out) (a : Option Addr) (n c : Nat) (w : World) :
  Calls Tryz.prog 80 #[o.val (.slice a n c)] w fun e w' => e = .returned (.bool (noLifeB o)) ∧ Below w.heap.size w w' := by
 unfold noLifeB Out.val
 cases h1 : (o.born == 0)
 ·go_enter Tryz.func80, Tryz.ntmps80
  go_wp2
  go_ret
  exact ⟨rfl, (Below.refl _ _).alloc (Nat.le_refl _) _⟩
 ·cases h2 : (o.stay == 0)
  all_goals
   go_enter Tryz.func80, Tryz.ntmps80
   go_wp2
   go_ret
   exact ⟨rfl, (Below.refl _ _).alloc (Nat.le_refl _) _⟩
theorem hasNoLine_any (o : Out) (a : Option Addr) (n c : Nat) (w : World) (hn : n = o.table.length) (hm : n ≤ maxLen) :
  Calls Tryz.prog 78 #[o.val (.slice a n c)] w fun e w' => e = .returned (.bool (noLineB o)) ∧ Below w.heap.size w w' := by
 unfold noLineB Out.val
 rw [← hn]
 clear hn
 unfold maxLen at hm
 cases h1 : (o.states == 0)
 ·go_enter Tryz.func78, Tryz.ntmps78
  go_wp2
  go_ret
  exact ⟨rfl, (Below.refl _ _).alloc (Nat.le_refl _) _⟩
 ·cases h2 : (o.radius == 0)
  ·go_enter Tryz.func78, Tryz.ntmps78
   go_wp2
   go_ret
   exact ⟨rfl, (Below.refl _ _).alloc (Nat.le_refl _) _⟩
  ·by_cases h3 : n = 0
   ·have h4 : ((n : Int) == 0) = true := by simp; omega
    rw [show decide (n = 0) = true by simp [h3]]
    clear h3
    go_enter Tryz.func78, Tryz.ntmps78
    go_wp2
    go_ret
    exact ⟨rfl, (Below.refl _ _).alloc (Nat.le_refl _) _⟩
   ·have h4 : ((n : Int) == 0) = false := by simp; omega
    rw [show decide (n = 0) = false by simp [h3]]
    clear h3
    go_enter Tryz.func78, Tryz.ntmps78
    go_wp2
    go_ret
    exact ⟨rfl, (Below.refl _ _).alloc (Nat.le_refl _) _⟩
set_option maxHeartbeats 800000 in
theorem isTurns_any (t : ByteArray) (w : World) (ht : t.size ≤ maxLen) :
  Calls Tryz.prog 81 #[.string t] w fun e w' => (e = .returned (.bool true) ∧ turnsP t ∨ e = .returned (.bool false) ∧ ¬ turnsP t) ∧ w' = w := by
 unfold maxLen at ht
 by_cases h1 : t.size < 1
 ·have h1' : (t.size : Int) < 1 := by omega
  go_enter Tryz.func81, Tryz.ntmps81
  go_wp2
  go_ret
  exact ⟨Or.inr ⟨rfl, fun h => by have := h.1; omega⟩, rfl⟩
 have h1' : ¬ (t.size : Int) < 1 := by omega
 by_cases h2 : 26 < t.size
 ·have h2' : 26 < (t.size : Int) := by omega
  go_enter Tryz.func81, Tryz.ntmps81
  go_wp2
  go_ret
  exact ⟨Or.inr ⟨rfl, fun h => by have := h.2.1; omega⟩, rfl⟩
 have h2' : ¬ 26 < (t.size : Int) := by omega
 go_enter Tryz.func81, Tryz.ntmps81
 go_wp2
 go_loop [3] (fun iv => ∃ i : Nat, iv = .int .i64 (i : Int) ∧ i ≤ t.size ∧ ∀ j, j < i → turnAt t j) (fun iv => t.size - (intOf iv).toNat)
 case atStart => exact ⟨0, rfl, by omega, fun j hj => by omega⟩
 case round =>
  obtain ⟨i, rfl, hi, hall⟩ := hrel
  have HA := hide' hall
  clear hall
  by_cases c : i < t.size
  ·have c' : (i : Int) < (t.size : Int) := by omega
   have e := bt_lt t i c
   by_cases d : bt t i = 76 ∨ bt t i = 82
   ·have D := hide' (show ((t[i].toNat : Int) = 76 ∨ (t[i].toNat : Int) = 82) by omega)
    have DD := hide' d
    clear d e
    go_wp2_with fail
    refine (isTurn_yes _ _ D.out).mono ?_
    rintro e w1 ⟨rfl, rfl⟩
    go_wp2
    refine ⟨⟨i + 1, by go_num, by omega, fun j hj => ?_⟩, by simp [intOf]; omega⟩
    by_cases q : j = i
    ·rw [q]; exact DD.out
    ·exact HA.out j (by omega)
   ·have D := hide' (show ¬ ((t[i].toNat : Int) = 76 ∨ (t[i].toNat : Int) = 82) by omega)
    have DD := hide' d
    clear d e
    go_wp2_with fail
    refine (isTurn_no _ _ D.out).mono ?_
    rintro e w1 ⟨rfl, rfl⟩
    go_wp2
    go_ret
    exact ⟨Or.inr ⟨rfl, fun h => DD.out (h.2.2 i c)⟩, rfl⟩
  ·have c' : ¬ (i : Int) < (t.size : Int) := by omega
   go_wp2
   go_ret
   exact ⟨Or.inl ⟨rfl, by omega, by omega, fun j hj => HA.out j (by omega)⟩, rfl⟩
set_option maxHeartbeats 800000 in
theorem entries_far (n m : Nat) (N M : Int) (w : World) (hN : N = n) (hM : M = m) (hn : 2 ≤ n) (hn' : n ≤ 4) (hm : m ≤ 9223372036854775807) :
  Calls Tryz.prog 105 #[.int .i64 N, .int .i64 M] w fun e w' => e = .returned (.int .i64 ((entOf n m : Nat) : Int)) ∧ w' = w := by
 subst hN hM
 have h1 : n = 2 ∨ n = 3 ∨ n = 4 := by omega
 rcases h1 with rfl | rfl | rfl
 all_goals
  go_enter Tryz.func105, Tryz.ntmps105
  go_wp2
  go_loop [5, 6] (fun ev iv => ∃ k e : Nat, iv = .int .i64 (k : Int) ∧ ev = .int .i64 (e : Int) ∧ k ≤ m ∧ e ≤ 65536 ∧ entF _ (m - k) e = entOf _ m) (fun _ iv => m - (intOf iv).toNat)
  case atStart => exact ⟨0, _, rfl, rfl, by omega, by omega, rfl⟩
  case round =>
   obtain ⟨k, e, rfl, rfl, hk, he, hent⟩ := hrel
   have HE := hide hent
   clear hent
   by_cases hkm : (k : Int) < (m : Int)
   ·by_cases hee : (e : Int) ≤ 4096
    ·go_wp2
     have e1 := unhide HE
     rw [show m - k = (m - (k + 1)) + 1 by omega, entF, if_pos (by omega)] at e1
     refine ⟨⟨k + 1, _, by go_num, ?_, by omega, ?_, e1⟩, by simp [intOf]; omega⟩
     ·go_num
     ·omega
    ·go_wp2
     go_ret
     have e1 := unhide HE
     rw [entF_stop (by omega)] at e1
     rw [← e1]
     exact ⟨rfl, rfl⟩
   ·go_wp2
    go_ret
    have e1 := unhide HE
    rw [show m - k = 0 by omega, entF] at e1
    rw [← e1]
    exact ⟨rfl, rfl⟩
set_option maxHeartbeats 1600000 in
theorem isLine_off (o : Out) (a : Option Addr) (n c : Nat) (w : World) (h : ¬ (2 ≤ o.states ∧ o.states ≤ 4 ∧ 0 ≤ o.radius)) :
  Calls Tryz.prog 79 #[o.val (.slice a n c)] w fun e w' => e = .returned (.bool false) ∧ Below w.heap.size w w' := by
 unfold Out.val
 by_cases h1 : o.states < 2
 ·clear h
  go_enter Tryz.func79, Tryz.ntmps79
  go_wp2
  go_ret
  exact ⟨rfl, (Below.refl _ _).alloc (Nat.le_refl _) _⟩
 by_cases h2 : 4 < o.states
 ·clear h
  go_enter Tryz.func79, Tryz.ntmps79
  go_wp2
  go_ret
  exact ⟨rfl, (Below.refl _ _).alloc (Nat.le_refl _) _⟩
 ·have h3 : o.radius < 0 := by omega
  clear h
  go_enter Tryz.func79, Tryz.ntmps79
  go_wp2
  go_ret
  exact ⟨rfl, (Below.refl _ _).alloc (Nat.le_refl _) _⟩
set_option maxHeartbeats 1600000 in
theorem isLine_on (o : Out) (a : Option Addr) (n c : Nat) (w : World) (hR : ArgR w o a n c) (h1 : 2 ≤ o.states) (h2 : o.states ≤ 4) (h3 : 0 ≤ o.radius) :
  Calls Tryz.prog 79 #[o.val (.slice a n c)] w fun e w' => (e = .returned (.bool true) ∧ lineP o ∨ e = .returned (.bool false) ∧ ¬ lineP o) ∧ Below w.heap.size w w' := by
 have hn := hR.len
 have hm := hR.max
 unfold maxLen at hm
 have hr := hR.rmax
 have RA := hide' (hR.alloc (.cells #[.int .i64 o.kind, .int .i64 o.born, .int .i64 o.stay, .int .i64 o.states, .int .i64 o.radius, .slice a n c, .string o.turns] 24))
 obtain ⟨E, hE⟩ : ∃ E, E = entOf o.states.toNat o.radius.toNat := ⟨_, rfl⟩
 have k1 : ¬ o.states < 2 := by omega
 have k2 : ¬ 4 < o.states := by omega
 have k3 : ¬ o.radius < 0 := by omega
 have HE := hide' hE
 have HN := hide' hn
 clear hE hn hR
 unfold Out.val
 have call : ∀ W : World, Calls Tryz.prog 105 #[.int .i64 o.states, .int .i64 o.radius] W fun e w' => e = .returned (.int .i64 (E : Int)) ∧ w' = W := fun W => by
  have := entries_far o.states.toNat o.radius.toNat o.states o.radius W (by omega) (by omega) (by omega) (by omega) (by omega)
  rw [← HE.out] at this
  exact this
 have CALL := hide' call
 clear call
 by_cases q1 : 4096 < E
 ·have q1' : 4096 < (E : Int) := by omega
  go_enter Tryz.func79, Tryz.ntmps79
  go_wp2_with fail
  refine (CALL.out _).mono ?_
  rintro e w1 ⟨rfl, rfl⟩
  go_wp2
  go_ret
  exact ⟨Or.inr ⟨rfl, fun p => by have := p.2.2.2.1; rw [← HE.out] at this; omega⟩, (Below.refl _ _).alloc (Nat.le_refl _) _⟩
 have q1' : ¬ 4096 < (E : Int) := by omega
 by_cases q2 : n = E
 ·have q2' : ((n : Int) != (E : Int)) = false := by rw [bne_eq_false_iff_eq]; omega
  have Q2 := hide' q2
  clear q2
  go_enter Tryz.func79, Tryz.ntmps79
  go_wp2_with fail
  refine (CALL.out _).mono ?_
  rintro e w1 ⟨rfl, rfl⟩
  go_wp2
  go_loop [36] (fun kv => ∃ k : Nat, kv = .int .i64 (k : Int) ∧ k ≤ n ∧ ∀ j (h : j < o.table.length), j < k → 0 ≤ o.table[j] ∧ o.table[j] < o.states) (fun kv => n - (intOf kv).toNat)
  case atStart => exact ⟨0, rfl, by omega, fun j _ hj => by omega⟩
  case round =>
   obtain ⟨k, rfl, hk, hall⟩ := hrel
   have HA := hide' hall
   clear hall
   by_cases d : k < n
   ·have d' : (k : Int) < (n : Int) := by omega
    have hkl : k < o.table.length := by have := HN.out; omega
    obtain ⟨g, off, rfl, hg, hc⟩ := RA.out.cells k hkl
    by_cases e1 : 0 ≤ o.table[k]
    ·have e1' : ¬ o.table[k] < 0 := by omega
     by_cases e2 : o.table[k] < o.states
     ·have e2' : ¬ o.states ≤ o.table[k] := by omega
      go_wp2
      refine ⟨⟨k + 1, by go_num, by omega, fun j h hj => ?_⟩, by simp [intOf]; omega⟩
      by_cases q : j = k
      ·subst q; exact ⟨e1, e2⟩
      ·exact HA.out j h (by omega)
     ·have e2' : o.states ≤ o.table[k] := by omega
      go_wp2
      go_ret
      exact ⟨Or.inr ⟨rfl, fun p => by have := p.2.2.2.2.2 k hkl; omega⟩, (Below.refl _ _).alloc (Nat.le_refl _) _⟩
    ·have e1' : o.table[k] < 0 := by omega
     go_wp2
     go_ret
     exact ⟨Or.inr ⟨rfl, fun p => by have := p.2.2.2.2.2 k hkl; omega⟩, (Below.refl _ _).alloc (Nat.le_refl _) _⟩
   ·have d' : ¬ (k : Int) < (n : Int) := by omega
    go_wp2
    go_ret
    refine ⟨Or.inl ⟨rfl, h1, h2, h3, by rw [← HE.out]; omega, by rw [← HE.out, ← HN.out]; exact Q2.out, fun j h => HA.out j h (by have := HN.out; omega)⟩, (Below.refl _ _).alloc (Nat.le_refl _) _⟩
 ·have q2' : ((n : Int) != (E : Int)) = true := by rw [bne_iff_ne]; omega
  go_enter Tryz.func79, Tryz.ntmps79
  go_wp2_with fail
  refine (CALL.out _).mono ?_
  rintro e w1 ⟨rfl, rfl⟩
  go_wp2
  go_ret
  exact ⟨Or.inr ⟨rfl, fun p => by have := p.2.2.2.2.1; rw [← HE.out, ← HN.out] at this; exact q2 this⟩, (Below.refl _ _).alloc (Nat.le_refl _) _⟩
theorem hasNoLife_agg (o : Out) (a : Option Addr) (n c : Nat) (w : World) :
  Calls Tryz.prog 80 #[.agg #[.int .i64 o.kind, .int .i64 o.born, .int .i64 o.stay, .int .i64 o.states, .int .i64 o.radius, .slice a n c, .string o.turns]] w fun e w' => e = .returned (.bool (noLifeB o)) ∧ Below w.heap.size w w' := hasNoLife_any o a n c w
theorem hasNoLine_agg (o : Out) (a : Option Addr) (n c : Nat) (w : World) (hn : n = o.table.length) (hm : n ≤ maxLen) :
  Calls Tryz.prog 78 #[.agg #[.int .i64 o.kind, .int .i64 o.born, .int .i64 o.stay, .int .i64 o.states, .int .i64 o.radius, .slice a n c, .string o.turns]] w fun e w' => e = .returned (.bool (noLineB o)) ∧ Below w.heap.size w w' := hasNoLine_any o a n c w hn hm
theorem isLine_off_agg (o : Out) (a : Option Addr) (n c : Nat) (w : World) (h : ¬ (2 ≤ o.states ∧ o.states ≤ 4 ∧ 0 ≤ o.radius)) :
  Calls Tryz.prog 79 #[.agg #[.int .i64 o.kind, .int .i64 o.born, .int .i64 o.stay, .int .i64 o.states, .int .i64 o.radius, .slice a n c, .string o.turns]] w fun e w' => e = .returned (.bool false) ∧ Below w.heap.size w w' := isLine_off o a n c w h
theorem isLine_on_agg (o : Out) (a : Option Addr) (n c : Nat) (w : World) (hR : ArgR w o a n c) (h1 : 2 ≤ o.states) (h2 : o.states ≤ 4) (h3 : 0 ≤ o.radius) :
  Calls Tryz.prog 79 #[.agg #[.int .i64 o.kind, .int .i64 o.born, .int .i64 o.stay, .int .i64 o.states, .int .i64 o.radius, .slice a n c, .string o.turns]] w fun e w' => (e = .returned (.bool true) ∧ lineP o ∨ e = .returned (.bool false) ∧ ¬ lineP o) ∧ Below w.heap.size w w' := isLine_on o a n c w hR h1 h2 h3
end Go.Proofs.YtemhcpldflcfbaaGreatDoor
