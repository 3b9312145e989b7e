/-
  What the last text of this claim leans on, part 2: Ca2, Ca3.
-/
import Derived.Test.YtcfoeadfhkojeaaGreatDoorZm1
import Derived.Deep.RegionHeld3
import Derived.Deep.CutRange
namespace Go.Proofs.YtcfoeadfhkojeaaGreatDoor
open Go.RowKit
set_option linter.unusedVariables false
/-- A line: what it does, its counter, on at, else on at. -/
abbrev InsT := Int × Int × Int × Int
def usN (o : Nat) : Int := [0, 2, 3, 0].getD o 0
def numI (p : InsT) (k : Nat) : Int := if k = 0 then p.2.1 else if k = 1 then p.2.2.1 else p.2.2.2
def okI (L : Int) (p : InsT) (k : Nat) : Bool := decide (0 ≤ numI p k) && decide (numI p k < if usN p.1.toNat ≤ (k : Int) then 1 else if k = 0 then 4 else L)
/-- Is it a line of a machine with so many? -/
def insB (L : Int) (p : InsT) : Bool := decide (1 ≤ p.1) && decide (p.1 ≤ 3) && (okI L p 0 && okI L p 1 && okI L p 2)
/-- How many numbers an Op has, as the table lies. -/
def UsT (w : World) : Prop := ∀ k, k < 4 → w.cell? ⟨1, k, none⟩ = some (.int .i64 (usN k))
theorem UsT.lt {w : World} (h : UsT w) : 1 < w.heap.size := by
  rcases Nat.lt_or_ge 1 w.heap.size with q | q
  · exact q
  · have := h 0 (by omega)
    simp [World.cell?, Array.getElem?_eq_none q] at this
theorem UsT.below {w w' : World} (h : UsT w) (hb : Below w.heap.size w w') : UsT w' := fun j hj => (World.cell?_of_block (w := w) (a := ⟨1, j, none⟩) (hb.block _ h.lt)).trans (h j hj)
theorem numbersOf_any (a t e o : Int) (w : World) : Calls Tryz.prog 20 #[.agg #[.int .i64 o, .int .i64 a, .int .i64 t, .int .i64 e]] w fun x w' => x = .returned (.agg #[.int .i64 a, .int .i64 t, .int .i64 e]) ∧ Below w.heap.size w w' := by
  go_enter Tryz.func20, Tryz.ntmps20
  go_wp2
  refine bodyPost_ret (v := .agg #[.int .i64 a, .int .i64 t, .int .i64 e]) (by simp [results, Tryz.results20, go_sem]) rfl ?_
  refine ⟨rfl, ?_⟩
  repeat (first | exact Below.refl _ _ | refine Below.setCell ?_ (by simp) _ | refine Below.alloc ?_ (by simp; try omega) _)
theorem index3_0 (a t e : Int) (w : World) : (Instr.index 61 (.agg #[.int .i64 a, .int .i64 t, .int .i64 e]) (.int .i64 0)).run Tryz.prog w = .ok (.int .i64 a) w := by kernel_rfl
theorem index3_1 (a t e : Int) (w : World) : (Instr.index 61 (.agg #[.int .i64 a, .int .i64 t, .int .i64 e]) (.int .i64 1)).run Tryz.prog w = .ok (.int .i64 t) w := by kernel_rfl
theorem index3_2 (a t e : Int) (w : World) : (Instr.index 61 (.agg #[.int .i64 a, .int .i64 t, .int .i64 e]) (.int .i64 2)).run Tryz.prog w = .ok (.int .i64 e) w := by kernel_rfl
theorem insB_no {L : Int} {p : InsT} {k : Nat} (hk : k < 3) (h : okI L p k = false) : insB L p = false := by
  unfold insB
  rcases (show k = 0 ∨ k = 1 ∨ k = 2 by omega) with rfl | rfl | rfl <;> rw [h] <;> simp
set_option maxRecDepth 100000 in
set_option maxHeartbeats 6400000 in
theorem isLine_any (L : Int) (p : InsT) (w : World) (hU : UsT w) : Calls Tryz.prog 34 #[.agg #[.int .i64 p.1, .int .i64 p.2.1, .int .i64 p.2.2.1, .int .i64 p.2.2.2], .int .i64 L] w fun x w' => x = .returned (.bool (insB L p)) ∧ Below w.heap.size w w' := by
  obtain ⟨op, a, t, e⟩ := p
  by_cases o1 : op < 1
  · have F := hide' (show insB L (op, a, t, e) = false by unfold insB; simp; omega)
    have o3 : ¬ 3 < op := by omega
    go_enter Tryz.func34, Tryz.ntmps34
    go_wp2
    go_ret
    rw [F.out]; exact ⟨rfl, (Below.refl _ _).alloc (Nat.le_refl _) _⟩
  · by_cases o3 : 3 < op
    · have F := hide' (show insB L (op, a, t, e) = false by unfold insB; simp; omega)
      go_enter Tryz.func34, Tryz.ntmps34
      go_wp2
      go_ret
      rw [F.out]; exact ⟨rfl, (Below.refl _ _).alloc (Nat.le_refl _) _⟩
    · obtain ⟨o, rfl⟩ : ∃ o : Nat, op = (o : Int) := ⟨op.toNat, by omega⟩
      have HO := hide' (And.intro o1 o3)
      have o4 : (o : Int) < 4 := by omega
      have o0 : (0 : Int) ≤ (o : Int) := by omega
      obtain ⟨u, hu⟩ : ∃ u, usN o = u := ⟨_, rfl⟩
      have HU := hide' (fun (V : World) (hb : Below w.heap.size w V) => (show V.cell? ⟨1, o, none⟩ = some (.int .i64 u) by rw [← hu]; exact hU.below hb o (by omega)))
      have OK := hide' (show ∀ k : Nat, okI L ((o : Int), a, t, e) k = (decide (0 ≤ numI ((o : Int), a, t, e) k) && decide (numI ((o : Int), a, t, e) k < if u ≤ (k : Int) then 1 else if k = 0 then 4 else L)) from fun k => by unfold okI; simp only [Int.toNat_natCast, hu])
      have NO := hide' (fun V => numbersOf_any a t e (o : Int) V)
      have j0 := index3_0 a t e
      have j1 := index3_1 a t e
      have j2 := index3_2 a t e
      clear hU hu
      obtain ⟨w2, hw2⟩ : ∃ w2, (w.alloc (.cells #[.int .i64 (o : Int), .int .i64 a, .int .i64 t, .int .i64 e] 25)).alloc (.cells #[.int .i64 4, .int .i64 L, .int .i64 L] 61) = w2 := ⟨_, rfl⟩
      have HW := hide' hw2
      have B2 := hide' (show Below w.heap.size w w2 by rw [← hw2]; exact ((Below.refl _ _).alloc (Nat.le_refl _) _).alloc (by simp) _)
      have S2 := hide' (show w2.heap.size = w.heap.size + 2 by rw [← hw2]; simp)
      have R0 := hide' (show w2.heap[w.heap.size]? = some (.cells #[.int .i64 (o : Int), .int .i64 a, .int .i64 t, .int .i64 e] 25 (0, 0)) by rw [← hw2]; exact (heap_alloc_old (w.alloc _) _ (by simp)).trans (heap_alloc_new w _))
      have R1 := hide' (show w2.heap[w.heap.size + 1]? = some (.cells #[.int .i64 4, .int .i64 L, .int .i64 L] 61 (0, 0)) by rw [← hw2]; exact heap_alloc2_new _ _ _)
      have b0 := cell_of_row w2 _ 0 _ _ _ R0.out
      have b1 := cell_of_row w2 _ 1 _ _ _ R0.out
      have b2 := cell_of_row w2 _ 2 _ _ _ R0.out
      have b3 := cell_of_row w2 _ 3 _ _ _ R0.out
      simp at b0 b1 b2 b3
      clear hw2
      go_enter Tryz.func34, Tryz.ntmps34
      go_upto_region 4 with fail
      rw [HW.out]
      go_wp2_with (go_at_call 20; refine (NO.out _).mono ?_; rintro x W ⟨rfl, hb⟩)
      clear b0 b1 b2 b3
      rw [S2.out] at hb
      have BW := hide' (B2.out.trans (hb.mono (by omega)))
      have cu := HU.out W BW.out
      have q0 := cell_of_row W _ 0 _ _ _ ((hb.block w.heap.size (by omega)).trans R0.out)
      have c0 := cell_of_row W _ 0 _ _ _ ((hb.block (w.heap.size + 1) (by omega)).trans R1.out)
      have c1 := cell_of_row W _ 1 _ _ _ ((hb.block (w.heap.size + 1) (by omega)).trans R1.out)
      have c2 := cell_of_row W _ 2 _ _ _ ((hb.block (w.heap.size + 1) (by omega)).trans R1.out)
      simp at q0 c0 c1 c2
      clear hb
      go_loopw [22] (fun kv wr => ∃ k : Nat, kv = .int .i64 (k : Int) ∧ k ≤ 3 ∧ W = wr ∧ Hid (∀ j, j < k → okI L ((o : Int), a, t, e) j = true)) (fun kv _ => 3 - (intOf kv).toNat)
      case atStart => exact ⟨0, rfl, by omega, rfl, hide' (fun j h => by omega)⟩
      case round =>
        obtain ⟨k, rfl, hk, rfl, KS⟩ := hrel
        by_cases d : k = 3
        · subst d
          have F := hide' (show insB L ((o : Int), a, t, e) = true by unfold insB; rw [KS.out 0 (by omega), KS.out 1 (by omega), KS.out 2 (by omega)]; have := HO.out; simp; omega)
          go_wp2
          go_ret
          rw [F.out]; exact ⟨rfl, BW.out⟩
        · rcases (show k = 0 ∨ k = 1 ∨ k = 2 by omega) with rfl | rfl | rfl
          · have OK0 := hide' (OK.out 0)
            by_cases hu : u ≤ 0
            · by_cases n0 : a < 0
              · have n1 : ¬ 1 ≤ a := by omega
                have F := hide' (insB_no (k := 0) (by omega) (show okI L ((o : Int), a, t, e) 0 = false by rw [OK0.out]; simp [numI]; omega))
                go_wp2
                go_ret
                rw [F.out]; exact ⟨rfl, BW.out⟩
              · by_cases n1 : 1 ≤ a
                · have F := hide' (insB_no (k := 0) (by omega) (show okI L ((o : Int), a, t, e) 0 = false by rw [OK0.out]; simp [numI, hu]; omega))
                  go_wp2
                  go_ret
                  rw [F.out]; exact ⟨rfl, BW.out⟩
                · have F := hide' (show okI L ((o : Int), a, t, e) 0 = true by rw [OK0.out]; simp [numI, hu]; omega)
                  go_wp2
                  exact ⟨⟨1, by go_num, by omega, by simp, hide' fun j hj => by
                    by_cases ej : j = 0
                    · subst ej; exact F.out
                    · exact KS.out j (by omega)⟩, by simp [intOf]⟩
            · by_cases n0 : a < 0
              · have n1 : ¬ 4 ≤ a := by omega
                have F := hide' (insB_no (k := 0) (by omega) (show okI L ((o : Int), a, t, e) 0 = false by rw [OK0.out]; simp [numI]; omega))
                go_wp2
                go_ret
                rw [F.out]; exact ⟨rfl, BW.out⟩
              · by_cases n1 : 4 ≤ a
                · have F := hide' (insB_no (k := 0) (by omega) (show okI L ((o : Int), a, t, e) 0 = false by rw [OK0.out]; simp [numI, hu]; omega))
                  go_wp2
                  go_ret
                  rw [F.out]; exact ⟨rfl, BW.out⟩
                · have F := hide' (show okI L ((o : Int), a, t, e) 0 = true by rw [OK0.out]; simp [numI, hu]; omega)
                  go_wp2
                  exact ⟨⟨1, by go_num, by omega, by simp, hide' fun j hj => by
                    by_cases ej : j = 0
                    · subst ej; exact F.out
                    · exact KS.out j (by omega)⟩, by simp [intOf]⟩
          · have OK1 := hide' (OK.out 1)
            by_cases hu : u ≤ 1
            · by_cases n0 : t < 0
              · have n1 : ¬ 1 ≤ t := by omega
                have F := hide' (insB_no (k := 1) (by omega) (show okI L ((o : Int), a, t, e) 1 = false by rw [OK1.out]; simp [numI]; omega))
                go_wp2
                go_ret
                rw [F.out]; exact ⟨rfl, BW.out⟩
              · by_cases n1 : 1 ≤ t
                · have F := hide' (insB_no (k := 1) (by omega) (show okI L ((o : Int), a, t, e) 1 = false by rw [OK1.out]; simp [numI, hu]; omega))
                  go_wp2
                  go_ret
                  rw [F.out]; exact ⟨rfl, BW.out⟩
                · have F := hide' (show okI L ((o : Int), a, t, e) 1 = true by rw [OK1.out]; simp [numI, hu]; omega)
                  go_wp2
                  exact ⟨⟨2, by go_num, by omega, by simp, hide' fun j hj => by
                    by_cases ej : j = 1
                    · subst ej; exact F.out
                    · exact KS.out j (by omega)⟩, by simp [intOf]⟩
            · by_cases n0 : t < 0
              · have n1 : ¬ L ≤ t ∨ L ≤ t := by omega
                have N1 := hide' n1
                clear n1
                have F := hide' (insB_no (k := 1) (by omega) (show okI L ((o : Int), a, t, e) 1 = false by rw [OK1.out]; simp [numI]; omega))
                by_cases n1 : L ≤ t
                all_goals
                  go_wp2
                  go_ret
                  rw [F.out]; exact ⟨rfl, BW.out⟩
              · by_cases n1 : L ≤ t
                · have F := hide' (insB_no (k := 1) (by omega) (show okI L ((o : Int), a, t, e) 1 = false by rw [OK1.out]; simp [numI, hu]; omega))
                  go_wp2
                  go_ret
                  rw [F.out]; exact ⟨rfl, BW.out⟩
                · have F := hide' (show okI L ((o : Int), a, t, e) 1 = true by rw [OK1.out]; simp [numI, hu]; omega)
                  go_wp2
                  exact ⟨⟨2, by go_num, by omega, by simp, hide' fun j hj => by
                    by_cases ej : j = 1
                    · subst ej; exact F.out
                    · exact KS.out j (by omega)⟩, by simp [intOf]⟩
          · have OK2 := hide' (OK.out 2)
            by_cases hu : u ≤ 2
            · by_cases n0 : e < 0
              · have n1 : ¬ 1 ≤ e := by omega
                have F := hide' (insB_no (k := 2) (by omega) (show okI L ((o : Int), a, t, e) 2 = false by rw [OK2.out]; simp [numI]; omega))
                go_wp2
                go_ret
                rw [F.out]; exact ⟨rfl, BW.out⟩
              · by_cases n1 : 1 ≤ e
                · have F := hide' (insB_no (k := 2) (by omega) (show okI L ((o : Int), a, t, e) 2 = false by rw [OK2.out]; simp [numI, hu]; omega))
                  go_wp2
                  go_ret
                  rw [F.out]; exact ⟨rfl, BW.out⟩
                · have F := hide' (show okI L ((o : Int), a, t, e) 2 = true by rw [OK2.out]; simp [numI, hu]; omega)
                  go_wp2
                  exact ⟨⟨3, by go_num, by omega, by simp, hide' fun j hj => by
                    by_cases ej : j = 2
                    · subst ej; exact F.out
                    · exact KS.out j (by omega)⟩, by simp [intOf]⟩
            · by_cases n0 : e < 0
              · have n1 : ¬ L ≤ e ∨ L ≤ e := by omega
                have N1 := hide' n1
                clear n1
                have F := hide' (insB_no (k := 2) (by omega) (show okI L ((o : Int), a, t, e) 2 = false by rw [OK2.out]; simp [numI]; omega))
                by_cases n1 : L ≤ e
                all_goals
                  go_wp2
                  go_ret
                  rw [F.out]; exact ⟨rfl, BW.out⟩
              · by_cases n1 : L ≤ e
                · have F := hide' (insB_no (k := 2) (by omega) (show okI L ((o : Int), a, t, e) 2 = false by rw [OK2.out]; simp [numI, hu]; omega))
                  go_wp2
                  go_ret
                  rw [F.out]; exact ⟨rfl, BW.out⟩
                · have F := hide' (show okI L ((o : Int), a, t, e) 2 = true by rw [OK2.out]; simp [numI, hu]; omega)
                  go_wp2
                  exact ⟨⟨3, by go_num, by omega, by simp, hide' fun j hj => by
                    by_cases ej : j = 2
                    · subst ej; exact F.out
                    · exact KS.out j (by omega)⟩, by simp [intOf]⟩
end Go.Proofs.YtcfoeadfhkojeaaGreatDoor

namespace Go.Proofs.YtcfoeadfhkojeaaGreatDoor
open Go.RowKit
set_option linter.unusedVariables false
/-- Lines that lie in a row. -/
structure ArgI (w : World) (xs : List InsT) (a : Option Addr) (n c : Nat) : Prop where
  len : n = xs.length
  max : n ≤ 9223372036854775807
  cells : ∀ k (h : k < xs.length), ∃ g off, a = some ⟨g, off, none⟩ ∧ g < w.heap.size ∧ w.cell? ⟨g, off + k * 4, none⟩ = some (.int .i64 xs[k].1) ∧ w.cell? ⟨g, off + k * 4 + 1, none⟩ = some (.int .i64 xs[k].2.1) ∧ w.cell? ⟨g, off + k * 4 + 2, none⟩ = some (.int .i64 xs[k].2.2.1) ∧ w.cell? ⟨g, off + k * 4 + 3, none⟩ = some (.int .i64 xs[k].2.2.2)
theorem ArgI.below {w w' : World} {xs : List InsT} {a : Option Addr} {n c : Nat} (h : ArgI w xs a n c) (hb : Below w.heap.size w w') : ArgI w' xs a n c :=
  ⟨h.len, h.max, fun k hk => by
    obtain ⟨g, off, e, hg, h1, h2, h3, h4⟩ := h.cells k hk
    have b := hb.block g hg
    exact ⟨g, off, e, Nat.lt_of_lt_of_le hg hb.size, (World.cell?_of_block (w := w) (a := ⟨g, off + k * 4, none⟩) b).trans h1, (World.cell?_of_block (w := w) (a := ⟨g, off + k * 4 + 1, none⟩) b).trans h2, (World.cell?_of_block (w := w) (a := ⟨g, off + k * 4 + 2, none⟩) b).trans h3, (World.cell?_of_block (w := w) (a := ⟨g, off + k * 4 + 3, none⟩) b).trans h4⟩⟩
/-- What is wrong with a machine. -/
def codeE (xs : List InsT) : Nat := if xs.length < 1 ∨ 12 < xs.length then 4 else if xs.all (insB (xs.length : Int)) then 0 else 1
theorem code_bad {xs : List InsT} (h1 : 1 ≤ xs.length) (h2 : xs.length ≤ 12) {k : Nat} (hk : k < xs.length) (h : insB (xs.length : Int) xs[k] = false) : codeE xs = 1 := by
  unfold codeE
  rw [if_neg (by omega), if_neg]
  intro q
  have := List.all_eq_true.1 q xs[k] (List.getElem_mem hk)
  rw [h] at this; cases this
theorem code_ok {xs : List InsT} (h1 : 1 ≤ xs.length) (h2 : xs.length ≤ 12) (h : ∀ k (hk : k < xs.length), insB (xs.length : Int) xs[k] = true) : codeE xs = 0 := by
  unfold codeE
  rw [if_neg (by omega), if_pos]
  refine List.all_eq_true.2 fun x hx => ?_
  obtain ⟨k, hk, rfl⟩ := List.getElem_of_mem hx
  exact h k hk
theorem code_at {xs : List InsT} (h : codeE xs = 0) : 1 ≤ xs.length ∧ xs.length ≤ 12 ∧ ∀ k (hk : k < xs.length), insB (xs.length : Int) xs[k] = true := by
  unfold codeE at h
  split at h
  · cases h
  · rename_i q
    split at h
    · rename_i r
      exact ⟨by omega, by omega, fun k hk => List.all_eq_true.1 r _ (List.getElem_mem hk)⟩
    · cases h
set_option maxRecDepth 100000 in
set_option maxHeartbeats 3200000 in
theorem counterCheck_any (xs : List InsT) (a : Option Addr) (n c : Nat) (w : World) (hP : ArgI w xs a n c) (hU : UsT w) :
    Calls Tryz.prog 18 #[.slice a n c] w fun e w' => e = .returned (errOf (codeE xs)) ∧ Below w.heap.size w w' := by
  have HL := hide' hP.len
  have nm := hP.max
  by_cases n1 : n < 1
  · have F := hide' (show codeE xs = 4 by unfold codeE; rw [if_pos]; have := HL.out; omega)
    have m1 : (n : Int) < 1 := by omega
    have m2 : ¬ 12 < (n : Int) := by omega
    clear n1 hP
    go_enter Tryz.func18, Tryz.ntmps18
    go_wp2
    go_ret
    rw [F.out]; exact ⟨rfl, Below.refl _ _⟩
  · by_cases n2 : 12 < n
    · have F := hide' (show codeE xs = 4 by unfold codeE; rw [if_pos]; have := HL.out; omega)
      have m1 : ¬ (n : Int) < 1 := by omega
      have m2 : 12 < (n : Int) := by omega
      clear n1 n2 hP
      go_enter Tryz.func18, Tryz.ntmps18
      go_wp2
      go_ret
      rw [F.out]; exact ⟨rfl, Below.refl _ _⟩
    · have m1 : ¬ (n : Int) < 1 := by omega
      have m2 : ¬ 12 < (n : Int) := by omega
      have HP := hide' (fun (V : World) (h : Below w.heap.size w V) => hP.below h)
      have HU := hide' (fun (V : World) (h : Below w.heap.size w V) => hU.below h)
      have HI := hide' (fun p V h => isLine_any (n : Int) p V h)
      have N12 := hide' (And.intro n1 n2)
      clear hP hU n1 n2
      go_enter Tryz.func18, Tryz.ntmps18
      go_wp2
      go_loopw [16] (fun kv wr => ∃ k : Nat, kv = .int .i64 (k : Int) ∧ k ≤ n ∧ Hid (Below w.heap.size w wr) ∧ Hid (∀ j (h : j < xs.length), j < k → insB (xs.length : Int) xs[j] = true)) (fun kv _ => n - (intOf kv).toNat)
      case atStart => exact ⟨0, rfl, by omega, hide' (Below.refl _ _), hide' (fun j h hj => by omega)⟩
      case round =>
        obtain ⟨k, rfl, hk, BW, HA⟩ := hrel
        by_cases d : (k : Int) < (n : Int)
        · have hkl : k < xs.length := by have := HL.out; omega
          obtain ⟨g, off, rfl, hg, c0, c1, c2, c3⟩ := (HP.out wr BW.out).cells k hkl
          obtain ⟨⟨x, y, z, t⟩, hx⟩ : ∃ x, xs[k] = x := ⟨_, rfl⟩
          rw [hx] at c0 c1 c2 c3
          simp only at c0 c1 c2 c3
          obtain ⟨w2, hw2⟩ : ∃ w2, wr.alloc (.cells #[.int .i64 x, .int .i64 y, .int .i64 z, .int .i64 t] 25) = w2 := ⟨_, rfl⟩
          have BN := hide' (show Below w.heap.size w w2 from by rw [← hw2]; exact BW.out.alloc BW.out.size _)
          have r2 := hide' (show w2.heap[wr.heap.size]? = some (.cells #[.int .i64 x, .int .i64 y, .int .i64 z, .int .i64 t] 25 (0, 0)) by rw [← hw2]; exact heap_alloc_new _ _)
          have e0 := cell_of_row w2 _ 0 _ _ _ r2.out
          have e1 := cell_of_row w2 _ 1 _ _ _ r2.out
          have e2 := cell_of_row w2 _ 2 _ _ _ r2.out
          have e3 := cell_of_row w2 _ 3 _ _ _ r2.out
          simp at e0 e1 e2 e3
          have IL := hide' (HI.out (x, y, z, t) w2 (HU.out w2 BN.out))
          simp only at IL
          cases hn : insB (n : Int) (x, y, z, t)
          · have X := hide' (show codeE xs = 1 from by have := N12.out; have := HL.out; exact code_bad (by omega) (by omega) hkl (by rw [← HL.out, hx]; exact hn))
            rw [hn] at IL
            clear hn hx
            go_upto_region 6 with fail
            clear hw2
            go_wp2_with (go_at_call 34; refine IL.out.mono ?_; rintro e w3 ⟨rfl, b3⟩)
            go_ret
            rw [X.out]
            exact ⟨rfl, BN.out.trans (b3.mono BN.out.size)⟩
          · have X := hide' (show insB (xs.length : Int) xs[k] = true from by rw [← HL.out, hx]; exact hn)
            rw [hn] at IL
            clear hn hx
            go_upto_region 6 with fail
            clear hw2
            go_wp2_with (go_at_call 34; refine IL.out.mono ?_; rintro e w3 ⟨rfl, b3⟩)
            refine ⟨⟨k + 1, by go_num, by omega, hide' (BN.out.trans (b3.mono BN.out.size)), hide' fun j h hj => ?_⟩, by simp [intOf]; omega⟩
            by_cases e : j = k
            · subst e; exact X.out
            · exact HA.out j h (by omega)
        · have X := hide' (show codeE xs = 0 from by have := N12.out; have := HL.out; exact code_ok (by omega) (by omega) (fun j h => HA.out j h (by omega)))
          go_wp2
          go_ret
          rw [X.out]
          exact ⟨rfl, BW.out⟩
end Go.Proofs.YtcfoeadfhkojeaaGreatDoor

