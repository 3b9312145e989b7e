/-
  What the last text of this claim leans on, part 3: Cf0, PSpec, Pa1, Pa2, Pa3, Pa4, Pa5, Pa6, Al1, Wa1, Ca2.
-/
import Derived.Test.YtncinpkbiphpoaaDoorZr1
import Derived.Test.YtncinpkbiphpoaaDoorZr2
import Derived.Test.YtncinpkbiphpoaaDoorShelf
import Derived.Lib.ItoaLen
import Derived.Deep.RegionHeld3
import Derived.Deep.CutRange
namespace Go.Proofs.YtncinpkbiphpoaaDoor
open Go.RowKit
set_option linter.unusedVariables false

end Go.Proofs.YtncinpkbiphpoaaDoor

namespace Go.Proofs.YtncinpkbiphpoaaDoor

/-- One tag, at j: on, done, or wrong. -/
abbrev Go1 : Type := (Nat × Nat × Nat × List Int) ⊕ (List Int ⊕ (Nat × Nat))
abbrev Go1.on (i x y : Nat) (xs : List Int) : Go1 := Sum.inl (i, x, y, xs)
abbrev Go1.bad (a e : Nat) : Go1 := Sum.inr (Sum.inr (a, e))

end Go.Proofs.YtncinpkbiphpoaaDoor

namespace Go.Proofs.YtncinpkbiphpoaaDoor
open Go.RowKit
set_option linter.unusedVariables false

/-- What the reader holds, its text aside. -/
structure Rv where
  i : Nat
  fl : Int
  wd : Int
  hi : Int
  cs : Value
  rt : Int
  dn : Int
  bg : Int
  tm : Int

def Rv.val (r : Rv) (s : ByteArray) : Nat → Value
  | 0 => .string s
  | 1 => .int .i64 (r.i : Int)
  | 2 => .int .i64 r.fl
  | 3 => .int .i64 r.wd
  | 4 => .int .i64 r.hi
  | 5 => r.cs
  | 6 => .int .i64 r.rt
  | 7 => .int .i64 r.dn
  | 8 => .int .i64 r.bg
  | 9 => .int .i64 r.tm
  | _ => .bool false

structure RAt (b : Nat) (s : ByteArray) (r : Rv) (w : World) : Prop where
  cell : ∀ k, k < 10 → w.cell? ⟨b, k, none⟩ = some (r.val s k)
  fz : ∀ k, k < 10 → w.frozen? ⟨b, k, none⟩ = false

theorem RAt.lt {b : Nat} {s : ByteArray} {r : Rv} {w : World} (h : RAt b s r w) : b < w.heap.size := by
  rcases Nat.lt_or_ge b w.heap.size with k | k
  · exact k
  · have := h.cell 0 (by omega); simp [World.cell?, Array.getElem?_eq_none k] at this
theorem RAt.block {b : Nat} {s : ByteArray} {r : Rv} {w w' : World} (h : RAt b s r w) (e : w'.heap[b]? = w.heap[b]?) : RAt b s r w' :=
  ⟨fun k hk => (World.cell?_of_block (w := w) (a := ⟨b, k, none⟩) e).trans (h.cell k hk), fun k hk => (World.frozen?_of_block (w := w) (a := ⟨b, k, none⟩) e).trans (h.fz k hk)⟩
theorem RAt.alloc {b : Nat} {s : ByteArray} {r : Rv} {w : World} (h : RAt b s r w) (o : Obj) : RAt b s r (w.alloc o) := h.block (Below.heap_alloc _ _ _ h.lt)
theorem RAt.below {b : Nat} {s : ByteArray} {r : Rv} {w w' : World} (h : RAt b s r w) (hb : Below w.heap.size w w') : RAt b s r w' := h.block (hb.block b h.lt)
theorem RAt.set {b : Nat} {s : ByteArray} {r r' : Rv} {w : World} (h : RAt b s r w) (k : Nat) (u : Value) (hk : k < 10) (h1 : r'.val s k = u) (h2 : ∀ j, j < 10 → j ≠ k → r'.val s j = r.val s j) : RAt b s r' (w.setCell ⟨b, k, none⟩ u) := by
  refine ⟨fun j hj => ?_, fun j hj => by rw [World.frozen?_setCell]; exact h.fz j hj⟩
  by_cases e : j = k
  · subst e; rw [h1]; exact World.cell?_setCell_same (w := w) (a := ⟨b, j, none⟩) (v := _) (h := h.cell j hj)
  · rw [h2 j hj e]; exact (World.cell?_setCell_other (w := w) (a := ⟨b, k, none⟩) (b := ⟨b, j, none⟩) (v := _) (h := fun q => e (congrArg Addr.off q).symm)).trans (h.cell j hj)

/-- What a method of the reader leaves: the reader so, and nothing else turned. -/
def Left (b : Nat) (s : ByteArray) (r : Rv) (w w' : World) : Prop := RAt b s r w' ∧ Rd b w w'
end Go.Proofs.YtncinpkbiphpoaaDoor

namespace Go.Proofs.YtncinpkbiphpoaaDoor
open Go.RowKit
set_option linter.unusedVariables false

end Go.Proofs.YtncinpkbiphpoaaDoor

namespace Go.Proofs.YtncinpkbiphpoaaDoor
open Go.RowKit
set_option linter.unusedVariables false

end Go.Proofs.YtncinpkbiphpoaaDoor

namespace Go.Proofs.YtncinpkbiphpoaaDoor
open Go.RowKit
set_option linter.unusedVariables false

end Go.Proofs.YtncinpkbiphpoaaDoor

namespace Go.Proofs.YtncinpkbiphpoaaDoor
open Go.RowKit
set_option linter.unusedVariables false

end Go.Proofs.YtncinpkbiphpoaaDoor

namespace Go.Proofs.YtncinpkbiphpoaaDoor
open Go.RowKit
set_option linter.unusedVariables false

/-- At block g these ints, writable. -/
structure Cel (w : World) (g : Nat) (xs : List Int) : Prop where
  lt : g < w.heap.size
  cells : ∀ k, k < xs.length → w.cell? ⟨g, k, none⟩ = some (.int .i64 (xs.getD k 0))
  fz : ∀ k, w.frozen? ⟨g, k, none⟩ = false
theorem Cel.block {w w' : World} {g : Nat} {xs : List Int} (h : Cel w g xs) (hs : w.heap.size ≤ w'.heap.size) (e : w'.heap[g]? = w.heap[g]?) : Cel w' g xs :=
  ⟨Nat.lt_of_lt_of_le h.lt hs, fun k hk => (World.cell?_of_block (w := w) (a := ⟨g, k, none⟩) e).trans (h.cells k hk), fun k => (World.frozen?_of_block (w := w) (a := ⟨g, k, none⟩) e).trans (h.fz k)⟩
theorem Cel.below {w w' : World} {g : Nat} {xs : List Int} (h : Cel w g xs) (hb : Below w.heap.size w w') : Cel w' g xs := h.block hb.size (hb.block g h.lt)
theorem Cel.set {w : World} {g : Nat} {xs : List Int} (h : Cel w g xs) (p : Nat) (x : Int) (hp : p < xs.length) : Cel (w.setCell ⟨g, p, none⟩ (.int .i64 x)) g (xs.set p x) := by
  refine ⟨by rw [World.size_setCell]; exact h.lt, fun k hk => ?_, fun k => by rw [World.frozen?_setCell]; exact h.fz k⟩
  rw [List.length_set] at hk
  by_cases e : k = p
  · subst e
    rw [show (xs.set k x).getD k 0 = x by simp [List.getD, hk]]
    exact World.cell?_setCell_same (w := w) (a := ⟨g, k, none⟩) (v := _) (h := h.cells k hk)
  · rw [show (xs.set p x).getD k 0 = xs.getD k 0 by simp [List.getD, Ne.symm e]]
    exact (World.cell?_setCell_other (w := w) (a := ⟨g, p, none⟩) (b := ⟨g, k, none⟩) (v := _) (h := fun q => e (congrArg Addr.off q).symm)).trans (h.cells k hk)

end Go.Proofs.YtncinpkbiphpoaaDoor

namespace Go.Proofs.YtncinpkbiphpoaaDoor
open Go.RowKit
set_option linter.unusedVariables false

end Go.Proofs.YtncinpkbiphpoaaDoor

namespace Go.Proofs.YtncinpkbiphpoaaDoor
open Go.RowKit
set_option linter.unusedVariables false

/-- A pattern that came in, as a value: its cells anywhere. -/
structure ArgP (w : World) (xs : List Int) (a : Option Addr) (n c : Nat) : Prop where
  len : n = xs.length
  max : n ≤ maxLen
  cells : ∀ k (h : k < xs.length), ∃ g off, a = some ⟨g, off, none⟩ ∧ g < w.heap.size ∧ w.cell? ⟨g, off + k, none⟩ = some (.int .i64 xs[k])
theorem ArgP.below {w w' : World} {xs : List Int} {a : Option Addr} {n c : Nat} (h : ArgP w xs a n c) (hb : Below w.heap.size w w') : ArgP w' xs a n c :=
  ⟨h.len, h.max, fun k hk => by
    obtain ⟨g, off, e, hg, hc⟩ := h.cells k hk
    exact ⟨g, off, e, Nat.lt_of_lt_of_le hg hb.size, (World.cell?_of_block (w := w) (a := ⟨g, off + k, none⟩) (hb.block g hg)).trans hc⟩⟩
theorem ArgP.alloc {w : World} {xs : List Int} {a : Option Addr} {n c : Nat} (h : ArgP w xs a n c) (x : Obj) : ArgP (w.alloc x) xs a n c :=
  h.below ((Below.refl _ _).alloc (Nat.le_refl _) _)

def errOf (f : Nat) : Value := if f = 0 then .nilIface else .iface 38 (.int .i64 (f : Int))

end Go.Proofs.YtncinpkbiphpoaaDoor

namespace Go.Proofs.YtncinpkbiphpoaaDoor
open Go.RowKit
set_option linter.unusedVariables false
/-- A line: what it does, its counter, on at, else on at. -/
abbrev InsT := Int × Int × Int × Int
def usN (o : Nat) : Int := [0, 2, 3, 0].getD o 0
def numI (p : InsT) (k : Nat) : Int := if k = 0 then p.2.1 else if k = 1 then p.2.2.1 else p.2.2.2
def okI (L : Int) (p : InsT) (k : Nat) : Bool := decide (0 ≤ numI p k) && decide (numI p k < if usN p.1.toNat ≤ (k : Int) then 1 else if k = 0 then 4 else L)
/-- Is it a line of a machine with so many? -/
def insB (L : Int) (p : InsT) : Bool := decide (1 ≤ p.1) && decide (p.1 ≤ 3) && (okI L p 0 && okI L p 1 && okI L p 2)
/-- How many numbers an Op has, as the table lies. -/
def UsT (w : World) : Prop := ∀ k, k < 4 → w.cell? ⟨0, k, none⟩ = some (.int .i64 (usN k))
theorem UsT.lt {w : World} (h : UsT w) : 0 < w.heap.size := by
  rcases Nat.lt_or_ge 0 w.heap.size with q | q
  · exact q
  · have := h 0 (by omega)
    simp [World.cell?, Array.getElem?_eq_none q] at this
theorem UsT.below {w w' : World} (h : UsT w) (hb : Below w.heap.size w w') : UsT w' := fun j hj => (World.cell?_of_block (w := w) (a := ⟨0, j, none⟩) (hb.block _ h.lt)).trans (h j hj)
theorem numbersOf_any (a t e o : Int) (w : World) : Calls Tryd.prog 22 #[.agg #[.int .i64 o, .int .i64 a, .int .i64 t, .int .i64 e]] w fun x w' => x = .returned (.agg #[.int .i64 a, .int .i64 t, .int .i64 e]) ∧ Below w.heap.size w w' := by
  go_enter Tryd.func22, Tryd.ntmps22
  go_wp2
  refine bodyPost_ret (v := .agg #[.int .i64 a, .int .i64 t, .int .i64 e]) (by simp [results, Tryd.results22, go_sem]) rfl ?_
  refine ⟨rfl, ?_⟩
  repeat (first | exact Below.refl _ _ | refine Below.setCell ?_ (by simp) _ | refine Below.alloc ?_ (by simp; try omega) _)
theorem index3_0 (a t e : Int) (w : World) : (Instr.index 54 (.agg #[.int .i64 a, .int .i64 t, .int .i64 e]) (.int .i64 0)).run Tryd.prog w = .ok (.int .i64 a) w := by kernel_rfl
theorem index3_1 (a t e : Int) (w : World) : (Instr.index 54 (.agg #[.int .i64 a, .int .i64 t, .int .i64 e]) (.int .i64 1)).run Tryd.prog w = .ok (.int .i64 t) w := by kernel_rfl
theorem index3_2 (a t e : Int) (w : World) : (Instr.index 54 (.agg #[.int .i64 a, .int .i64 t, .int .i64 e]) (.int .i64 2)).run Tryd.prog w = .ok (.int .i64 e) w := by kernel_rfl
theorem insB_no {L : Int} {p : InsT} {k : Nat} (hk : k < 3) (h : okI L p k = false) : insB L p = false := by
  unfold insB
  rcases (show k = 0 ∨ k = 1 ∨ k = 2 by omega) with rfl | rfl | rfl <;> rw [h] <;> simp
set_option maxRecDepth 100000 in
set_option maxHeartbeats 6400000 in
theorem isLine_any (L : Int) (p : InsT) (w : World) (hU : UsT w) : Calls Tryd.prog 15 #[.agg #[.int .i64 p.1, .int .i64 p.2.1, .int .i64 p.2.2.1, .int .i64 p.2.2.2], .int .i64 L] w fun x w' => x = .returned (.bool (insB L p)) ∧ Below w.heap.size w w' := by
  obtain ⟨op, a, t, e⟩ := p
  by_cases o1 : op < 1
  · have F := hide' (show insB L (op, a, t, e) = false by unfold insB; simp; omega)
    have o3 : ¬ 3 < op := by omega
    go_enter Tryd.func15, Tryd.ntmps15
    go_wp2
    go_ret
    rw [F.out]; exact ⟨rfl, (Below.refl _ _).alloc (Nat.le_refl _) _⟩
  · by_cases o3 : 3 < op
    · have F := hide' (show insB L (op, a, t, e) = false by unfold insB; simp; omega)
      go_enter Tryd.func15, Tryd.ntmps15
      go_wp2
      go_ret
      rw [F.out]; exact ⟨rfl, (Below.refl _ _).alloc (Nat.le_refl _) _⟩
    · obtain ⟨o, rfl⟩ : ∃ o : Nat, op = (o : Int) := ⟨op.toNat, by omega⟩
      have HO := hide' (And.intro o1 o3)
      have o4 : (o : Int) < 4 := by omega
      have o0 : (0 : Int) ≤ (o : Int) := by omega
      obtain ⟨u, hu⟩ : ∃ u, usN o = u := ⟨_, rfl⟩
      have HU := hide' (fun (V : World) (hb : Below w.heap.size w V) => (show V.cell? ⟨0, o, none⟩ = some (.int .i64 u) by rw [← hu]; exact hU.below hb o (by omega)))
      have OK := hide' (show ∀ k : Nat, okI L ((o : Int), a, t, e) k = (decide (0 ≤ numI ((o : Int), a, t, e) k) && decide (numI ((o : Int), a, t, e) k < if u ≤ (k : Int) then 1 else if k = 0 then 4 else L)) from fun k => by unfold okI; simp only [Int.toNat_natCast, hu])
      have NO := hide' (fun V => numbersOf_any a t e (o : Int) V)
      have j0 := index3_0 a t e
      have j1 := index3_1 a t e
      have j2 := index3_2 a t e
      clear hU hu
      obtain ⟨w2, hw2⟩ : ∃ w2, (w.alloc (.cells #[.int .i64 (o : Int), .int .i64 a, .int .i64 t, .int .i64 e] 34)).alloc (.cells #[.int .i64 4, .int .i64 L, .int .i64 L] 54) = w2 := ⟨_, rfl⟩
      have HW := hide' hw2
      have B2 := hide' (show Below w.heap.size w w2 by rw [← hw2]; exact ((Below.refl _ _).alloc (Nat.le_refl _) _).alloc (by simp) _)
      have S2 := hide' (show w2.heap.size = w.heap.size + 2 by rw [← hw2]; simp)
      have R0 := hide' (show w2.heap[w.heap.size]? = some (.cells #[.int .i64 (o : Int), .int .i64 a, .int .i64 t, .int .i64 e] 34 (0, 0)) by rw [← hw2]; exact (heap_alloc_old (w.alloc _) _ (by simp)).trans (heap_alloc_new w _))
      have R1 := hide' (show w2.heap[w.heap.size + 1]? = some (.cells #[.int .i64 4, .int .i64 L, .int .i64 L] 54 (0, 0)) by rw [← hw2]; exact heap_alloc2_new _ _ _)
      have b0 := cell_of_row w2 _ 0 _ _ _ R0.out
      have b1 := cell_of_row w2 _ 1 _ _ _ R0.out
      have b2 := cell_of_row w2 _ 2 _ _ _ R0.out
      have b3 := cell_of_row w2 _ 3 _ _ _ R0.out
      simp at b0 b1 b2 b3
      clear hw2
      go_enter Tryd.func15, Tryd.ntmps15
      go_upto_region 4 with fail
      rw [HW.out]
      go_wp2_with (go_at_call 22; refine (NO.out _).mono ?_; rintro x W ⟨rfl, hb⟩)
      clear b0 b1 b2 b3
      rw [S2.out] at hb
      have BW := hide' (B2.out.trans (hb.mono (by omega)))
      have cu := HU.out W BW.out
      have q0 := cell_of_row W _ 0 _ _ _ ((hb.block w.heap.size (by omega)).trans R0.out)
      have c0 := cell_of_row W _ 0 _ _ _ ((hb.block (w.heap.size + 1) (by omega)).trans R1.out)
      have c1 := cell_of_row W _ 1 _ _ _ ((hb.block (w.heap.size + 1) (by omega)).trans R1.out)
      have c2 := cell_of_row W _ 2 _ _ _ ((hb.block (w.heap.size + 1) (by omega)).trans R1.out)
      simp at q0 c0 c1 c2
      clear hb
      go_loopw [22] (fun kv wr => ∃ k : Nat, kv = .int .i64 (k : Int) ∧ k ≤ 3 ∧ W = wr ∧ Hid (∀ j, j < k → okI L ((o : Int), a, t, e) j = true)) (fun kv _ => 3 - (intOf kv).toNat)
      case atStart => exact ⟨0, rfl, by omega, rfl, hide' (fun j h => by omega)⟩
      case round =>
        obtain ⟨k, rfl, hk, rfl, KS⟩ := hrel
        by_cases d : k = 3
        · subst d
          have F := hide' (show insB L ((o : Int), a, t, e) = true by unfold insB; rw [KS.out 0 (by omega), KS.out 1 (by omega), KS.out 2 (by omega)]; have := HO.out; simp; omega)
          go_wp2
          go_ret
          rw [F.out]; exact ⟨rfl, BW.out⟩
        · rcases (show k = 0 ∨ k = 1 ∨ k = 2 by omega) with rfl | rfl | rfl
          · have OK0 := hide' (OK.out 0)
            by_cases hu : u ≤ 0
            · by_cases n0 : a < 0
              · have n1 : ¬ 1 ≤ a := by omega
                have F := hide' (insB_no (k := 0) (by omega) (show okI L ((o : Int), a, t, e) 0 = false by rw [OK0.out]; simp [numI]; omega))
                go_wp2
                go_ret
                rw [F.out]; exact ⟨rfl, BW.out⟩
              · by_cases n1 : 1 ≤ a
                · have F := hide' (insB_no (k := 0) (by omega) (show okI L ((o : Int), a, t, e) 0 = false by rw [OK0.out]; simp [numI, hu]; omega))
                  go_wp2
                  go_ret
                  rw [F.out]; exact ⟨rfl, BW.out⟩
                · have F := hide' (show okI L ((o : Int), a, t, e) 0 = true by rw [OK0.out]; simp [numI, hu]; omega)
                  go_wp2
                  exact ⟨⟨1, by go_num, by omega, by simp, hide' fun j hj => by
                    by_cases ej : j = 0
                    · subst ej; exact F.out
                    · exact KS.out j (by omega)⟩, by simp [intOf]⟩
            · by_cases n0 : a < 0
              · have n1 : ¬ 4 ≤ a := by omega
                have F := hide' (insB_no (k := 0) (by omega) (show okI L ((o : Int), a, t, e) 0 = false by rw [OK0.out]; simp [numI]; omega))
                go_wp2
                go_ret
                rw [F.out]; exact ⟨rfl, BW.out⟩
              · by_cases n1 : 4 ≤ a
                · have F := hide' (insB_no (k := 0) (by omega) (show okI L ((o : Int), a, t, e) 0 = false by rw [OK0.out]; simp [numI, hu]; omega))
                  go_wp2
                  go_ret
                  rw [F.out]; exact ⟨rfl, BW.out⟩
                · have F := hide' (show okI L ((o : Int), a, t, e) 0 = true by rw [OK0.out]; simp [numI, hu]; omega)
                  go_wp2
                  exact ⟨⟨1, by go_num, by omega, by simp, hide' fun j hj => by
                    by_cases ej : j = 0
                    · subst ej; exact F.out
                    · exact KS.out j (by omega)⟩, by simp [intOf]⟩
          · have OK1 := hide' (OK.out 1)
            by_cases hu : u ≤ 1
            · by_cases n0 : t < 0
              · have n1 : ¬ 1 ≤ t := by omega
                have F := hide' (insB_no (k := 1) (by omega) (show okI L ((o : Int), a, t, e) 1 = false by rw [OK1.out]; simp [numI]; omega))
                go_wp2
                go_ret
                rw [F.out]; exact ⟨rfl, BW.out⟩
              · by_cases n1 : 1 ≤ t
                · have F := hide' (insB_no (k := 1) (by omega) (show okI L ((o : Int), a, t, e) 1 = false by rw [OK1.out]; simp [numI, hu]; omega))
                  go_wp2
                  go_ret
                  rw [F.out]; exact ⟨rfl, BW.out⟩
                · have F := hide' (show okI L ((o : Int), a, t, e) 1 = true by rw [OK1.out]; simp [numI, hu]; omega)
                  go_wp2
                  exact ⟨⟨2, by go_num, by omega, by simp, hide' fun j hj => by
                    by_cases ej : j = 1
                    · subst ej; exact F.out
                    · exact KS.out j (by omega)⟩, by simp [intOf]⟩
            · by_cases n0 : t < 0
              · have n1 : ¬ L ≤ t ∨ L ≤ t := by omega
                have N1 := hide' n1
                clear n1
                have F := hide' (insB_no (k := 1) (by omega) (show okI L ((o : Int), a, t, e) 1 = false by rw [OK1.out]; simp [numI]; omega))
                by_cases n1 : L ≤ t
                all_goals
                  go_wp2
                  go_ret
                  rw [F.out]; exact ⟨rfl, BW.out⟩
              · by_cases n1 : L ≤ t
                · have F := hide' (insB_no (k := 1) (by omega) (show okI L ((o : Int), a, t, e) 1 = false by rw [OK1.out]; simp [numI, hu]; omega))
                  go_wp2
                  go_ret
                  rw [F.out]; exact ⟨rfl, BW.out⟩
                · have F := hide' (show okI L ((o : Int), a, t, e) 1 = true by rw [OK1.out]; simp [numI, hu]; omega)
                  go_wp2
                  exact ⟨⟨2, by go_num, by omega, by simp, hide' fun j hj => by
                    by_cases ej : j = 1
                    · subst ej; exact F.out
                    · exact KS.out j (by omega)⟩, by simp [intOf]⟩
          · have OK2 := hide' (OK.out 2)
            by_cases hu : u ≤ 2
            · by_cases n0 : e < 0
              · have n1 : ¬ 1 ≤ e := by omega
                have F := hide' (insB_no (k := 2) (by omega) (show okI L ((o : Int), a, t, e) 2 = false by rw [OK2.out]; simp [numI]; omega))
                go_wp2
                go_ret
                rw [F.out]; exact ⟨rfl, BW.out⟩
              · by_cases n1 : 1 ≤ e
                · have F := hide' (insB_no (k := 2) (by omega) (show okI L ((o : Int), a, t, e) 2 = false by rw [OK2.out]; simp [numI, hu]; omega))
                  go_wp2
                  go_ret
                  rw [F.out]; exact ⟨rfl, BW.out⟩
                · have F := hide' (show okI L ((o : Int), a, t, e) 2 = true by rw [OK2.out]; simp [numI, hu]; omega)
                  go_wp2
                  exact ⟨⟨3, by go_num, by omega, by simp, hide' fun j hj => by
                    by_cases ej : j = 2
                    · subst ej; exact F.out
                    · exact KS.out j (by omega)⟩, by simp [intOf]⟩
            · by_cases n0 : e < 0
              · have n1 : ¬ L ≤ e ∨ L ≤ e := by omega
                have N1 := hide' n1
                clear n1
                have F := hide' (insB_no (k := 2) (by omega) (show okI L ((o : Int), a, t, e) 2 = false by rw [OK2.out]; simp [numI]; omega))
                by_cases n1 : L ≤ e
                all_goals
                  go_wp2
                  go_ret
                  rw [F.out]; exact ⟨rfl, BW.out⟩
              · by_cases n1 : L ≤ e
                · have F := hide' (insB_no (k := 2) (by omega) (show okI L ((o : Int), a, t, e) 2 = false by rw [OK2.out]; simp [numI, hu]; omega))
                  go_wp2
                  go_ret
                  rw [F.out]; exact ⟨rfl, BW.out⟩
                · have F := hide' (show okI L ((o : Int), a, t, e) 2 = true by rw [OK2.out]; simp [numI, hu]; omega)
                  go_wp2
                  exact ⟨⟨3, by go_num, by omega, by simp, hide' fun j hj => by
                    by_cases ej : j = 2
                    · subst ej; exact F.out
                    · exact KS.out j (by omega)⟩, by simp [intOf]⟩
end Go.Proofs.YtncinpkbiphpoaaDoor

