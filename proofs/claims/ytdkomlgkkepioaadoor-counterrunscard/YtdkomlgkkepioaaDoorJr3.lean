/-
  What the last text of this claim leans on, part 3: Cf0, Ca2.
-/
import Derived.Test.YtdkomlgkkepioaaDoorJr1
import Derived.Test.YtdkomlgkkepioaaDoorJr2
import Derived.Test.YtdkomlgkkepioaaDoorShelf
import Derived.Lib.ItoaLen
import Derived.Deep.RegionHeld3
import Derived.Deep.CutRange
namespace Go.Proofs.YtdkomlgkkepioaaDoor
open Go.RowKit
set_option linter.unusedVariables false

theorem one_string (w : World) (x : Nat) (hx : x < 10) :
    (convert 151 9 (.slice (some ⟨w.heap.size, 0, none⟩) 1 1)).run Tryd.prog (w.alloc (.cells #[.int .u8 (48 + (x : Int))] 5)) = .ok (.string ⟨#[UInt8.ofNat (48 + x)]⟩) (w.alloc (.cells #[.int .u8 (48 + (x : Int))] 5)) := by
  refine run_convert_bytes_back _ 151 9 5 ⟨w.heap.size, 0, none⟩ 1 [UInt8.ofNat (48 + x)] Tryd.underlying151 Tryd.underlying5 Tryd.underlying9 fun j hj => ?_
  have hj0 : j = 0 := by simpa using hj
  subst hj0
  show (w.alloc _).cell? ⟨w.heap.size, 0, none⟩ = _
  rw [cell_new_at]
  have h1 : (UInt8.ofNat (48 + x)).toNat = 48 + x := by simp; omega
  show some (Value.int .u8 (48 + (x : Int))) = some (.int .u8 (((UInt8.ofNat (48 + x)).toNat : Nat) : Int))
  rw [h1]
  simp
theorem one_string' (w : World) (n : Nat) :
    (convert 151 9 (.slice (some ⟨w.heap.size, 0, none⟩) 1 1)).run Tryd.prog (w.alloc (.cells #[.int .u8 (48 + (n : Int) % 10)] 5)) = .ok (.string ⟨#[UInt8.ofNat (48 + n % 10)]⟩) (w.alloc (.cells #[.int .u8 (48 + (n : Int) % 10)] 5)) := one_string w (n % 10) (by omega)
theorem cat_one (d : UInt8) (l : List UInt8) : (⟨#[d]⟩ ++ ⟨l.toArray⟩ : ByteArray) = ⟨(d :: l).toArray⟩ := by
  apply ByteArray.ext
  simp [ByteArray.data_append]

/-- What is still ahead of the digits that are written, when m is left. -/
def frontD (m : Nat) : List UInt8 := if m < 10 then [] else Lib.decDigits (m / 10)
theorem frontD_start (n : Nat) : Lib.decDigits n = frontD n ++ [UInt8.ofNat (48 + n % 10)] := by
  rw [Lib.decDigits]
  unfold frontD
  by_cases h : n < 10
  · rw [dif_pos h, if_pos h, Nat.mod_eq_of_lt h]; rfl
  · rw [dif_neg h, if_neg h]
theorem frontD_step (m : Nat) (h : 10 ≤ m) (l : List UInt8) : frontD m ++ l = frontD (m / 10) ++ (UInt8.ofNat (48 + m / 10 % 10) :: l) := by
  have e : frontD m = Lib.decDigits (m / 10) := by unfold frontD; rw [if_neg (by omega)]
  rw [e, frontD_start]
  simp

set_option maxHeartbeats 1600000 in
theorem Digits_ref (n : Nat) (w : World) (hn : n ≤ 1000000) :
    Calls Tryd.prog 90 #[.int .i64 (n : Int)] w fun e w' => e = .returned (.string ⟨(Lib.decDigits n).toArray⟩) ∧ Below w.heap.size w w' := by
  have hneg : ¬ ((n : Int) < 0) := by omega
  have c0 := one_string' w n
  obtain ⟨d, hd⟩ : ∃ d, d = UInt8.ofNat (48 + n % 10) := ⟨_, rfl⟩
  rw [← hd] at c0
  have HD := hide' hd
  clear hd
  go_enter Tryd.func90, Tryd.ntmps90
  have hlen : (Lib.decDigits n).length ≤ 21 := by
    have := Lib.itoa_length_le (n : Int) (by omega) (by omega)
    rw [Lib.itoa_nonneg] at this
    simpa using this
  have HL := hide' hlen
  clear hlen
  go_wp2
  go_loopw [0, 4] (fun nv sv wr => ∃ (m : Nat) (l : List UInt8), nv = .int .i64 (m : Int) ∧ m ≤ 1000000 ∧ sv = .string ⟨l.toArray⟩ ∧ Hid (Lib.decDigits n = frontD m ++ l) ∧ Hid (Below w.heap.size w wr)) (fun nv _ _ => (intOf nv).toNat)
  case atStart => exact ⟨n, [d], rfl, hn, rfl, hide' (by rw [frontD_start, HD.out]), hide' ((Below.refl _ _).alloc (Nat.le_refl _) _)⟩
  case round =>
    obtain ⟨m, l, rfl, hm, rfl, E, B⟩ := hrel
    have ll : l.length ≤ 21 := by
      have h1 := HL.out
      rw [E.out, List.length_append] at h1
      omega
    have m1 : ¬ (9223372036854775807 < 1 + l.length) := by omega
    by_cases c : 10 ≤ (m : Int)
    · have c1 := one_string' wr (m / 10)
      obtain ⟨d1, hd1⟩ : ∃ d1, d1 = UInt8.ofNat (48 + m / 10 % 10) := ⟨_, rfl⟩
      rw [← hd1] at c1
      have HD1 := hide' hd1
      have e1 : ((m / 10 : Nat) : Int) = (m : Int) / 10 := by simp
      rw [e1] at c1
      clear hd1 e1 c0
      go_wp2
      refine ⟨⟨m / 10, d1 :: l, by simp, by omega, ?_, hide' ?_, hide' (B.out.alloc B.out.size _)⟩, ?_⟩
      · rw [cat_one]
      · rw [E.out, frontD_step m (by omega), HD1.out]
      · simp [intOf]; omega
    · clear c0
      go_wp2
      go_ret
      have e := E.out
      unfold frontD at e
      rw [if_pos (by omega), List.nil_append] at e
      rw [e]
      exact ⟨rfl, B.out⟩
end Go.Proofs.YtdkomlgkkepioaaDoor

namespace Go.Proofs.YtdkomlgkkepioaaDoor
open Go.RowKit
set_option linter.unusedVariables false
/-- A line: what it does, its counter, on at, else on at. -/
abbrev InsT := Int × Int × Int × Int
def usN (o : Nat) : Int := [0, 2, 3, 0].getD o 0
def numI (p : InsT) (k : Nat) : Int := if k = 0 then p.2.1 else if k = 1 then p.2.2.1 else p.2.2.2
def okI (L : Int) (p : InsT) (k : Nat) : Bool := decide (0 ≤ numI p k) && decide (numI p k < if usN p.1.toNat ≤ (k : Int) then 1 else if k = 0 then 4 else L)
/-- Is it a line of a machine with so many? -/
def insB (L : Int) (p : InsT) : Bool := decide (1 ≤ p.1) && decide (p.1 ≤ 3) && (okI L p 0 && okI L p 1 && okI L p 2)
/-- How many numbers an Op has, as the table lies. -/
def UsT (w : World) : Prop := ∀ k, k < 4 → w.cell? ⟨1, k, none⟩ = some (.int .i64 (usN k))
theorem UsT.lt {w : World} (h : UsT w) : 1 < w.heap.size := by
  rcases Nat.lt_or_ge 1 w.heap.size with q | q
  · exact q
  · have := h 0 (by omega)
    simp [World.cell?, Array.getElem?_eq_none q] at this
theorem UsT.below {w w' : World} (h : UsT w) (hb : Below w.heap.size w w') : UsT w' := fun j hj => (World.cell?_of_block (w := w) (a := ⟨1, j, none⟩) (hb.block _ h.lt)).trans (h j hj)
theorem numbersOf_any (a t e o : Int) (w : World) : Calls Tryd.prog 80 #[.agg #[.int .i64 o, .int .i64 a, .int .i64 t, .int .i64 e]] w fun x w' => x = .returned (.agg #[.int .i64 a, .int .i64 t, .int .i64 e]) ∧ Below w.heap.size w w' := by
  go_enter Tryd.func80, Tryd.ntmps80
  go_wp2
  refine bodyPost_ret (v := .agg #[.int .i64 a, .int .i64 t, .int .i64 e]) (by simp [results, Tryd.results80, go_sem]) rfl ?_
  refine ⟨rfl, ?_⟩
  repeat (first | exact Below.refl _ _ | refine Below.setCell ?_ (by simp) _ | refine Below.alloc ?_ (by simp; try omega) _)
theorem index3_0 (a t e : Int) (w : World) : (Instr.index 157 (.agg #[.int .i64 a, .int .i64 t, .int .i64 e]) (.int .i64 0)).run Tryd.prog w = .ok (.int .i64 a) w := by kernel_rfl
theorem index3_1 (a t e : Int) (w : World) : (Instr.index 157 (.agg #[.int .i64 a, .int .i64 t, .int .i64 e]) (.int .i64 1)).run Tryd.prog w = .ok (.int .i64 t) w := by kernel_rfl
theorem index3_2 (a t e : Int) (w : World) : (Instr.index 157 (.agg #[.int .i64 a, .int .i64 t, .int .i64 e]) (.int .i64 2)).run Tryd.prog w = .ok (.int .i64 e) w := by kernel_rfl
theorem insB_no {L : Int} {p : InsT} {k : Nat} (hk : k < 3) (h : okI L p k = false) : insB L p = false := by
  unfold insB
  rcases (show k = 0 ∨ k = 1 ∨ k = 2 by omega) with rfl | rfl | rfl <;> rw [h] <;> simp
set_option maxRecDepth 100000 in
set_option maxHeartbeats 6400000 in
theorem isLine_any (L : Int) (p : InsT) (w : World) (hU : UsT w) : Calls Tryd.prog 78 #[.agg #[.int .i64 p.1, .int .i64 p.2.1, .int .i64 p.2.2.1, .int .i64 p.2.2.2], .int .i64 L] w fun x w' => x = .returned (.bool (insB L p)) ∧ Below w.heap.size w w' := by
  obtain ⟨op, a, t, e⟩ := p
  by_cases o1 : op < 1
  · have F := hide' (show insB L (op, a, t, e) = false by unfold insB; simp; omega)
    have o3 : ¬ 3 < op := by omega
    go_enter Tryd.func78, Tryd.ntmps78
    go_wp2
    go_ret
    rw [F.out]; exact ⟨rfl, (Below.refl _ _).alloc (Nat.le_refl _) _⟩
  · by_cases o3 : 3 < op
    · have F := hide' (show insB L (op, a, t, e) = false by unfold insB; simp; omega)
      go_enter Tryd.func78, Tryd.ntmps78
      go_wp2
      go_ret
      rw [F.out]; exact ⟨rfl, (Below.refl _ _).alloc (Nat.le_refl _) _⟩
    · obtain ⟨o, rfl⟩ : ∃ o : Nat, op = (o : Int) := ⟨op.toNat, by omega⟩
      have HO := hide' (And.intro o1 o3)
      have o4 : (o : Int) < 4 := by omega
      have o0 : (0 : Int) ≤ (o : Int) := by omega
      obtain ⟨u, hu⟩ : ∃ u, usN o = u := ⟨_, rfl⟩
      have HU := hide' (fun (V : World) (hb : Below w.heap.size w V) => (show V.cell? ⟨1, o, none⟩ = some (.int .i64 u) by rw [← hu]; exact hU.below hb o (by omega)))
      have OK := hide' (show ∀ k : Nat, okI L ((o : Int), a, t, e) k = (decide (0 ≤ numI ((o : Int), a, t, e) k) && decide (numI ((o : Int), a, t, e) k < if u ≤ (k : Int) then 1 else if k = 0 then 4 else L)) from fun k => by unfold okI; simp only [Int.toNat_natCast, hu])
      have NO := hide' (fun V => numbersOf_any a t e (o : Int) V)
      have j0 := index3_0 a t e
      have j1 := index3_1 a t e
      have j2 := index3_2 a t e
      clear hU hu
      obtain ⟨w2, hw2⟩ : ∃ w2, (w.alloc (.cells #[.int .i64 (o : Int), .int .i64 a, .int .i64 t, .int .i64 e] 146)).alloc (.cells #[.int .i64 4, .int .i64 L, .int .i64 L] 157) = w2 := ⟨_, rfl⟩
      have HW := hide' hw2
      have B2 := hide' (show Below w.heap.size w w2 by rw [← hw2]; exact ((Below.refl _ _).alloc (Nat.le_refl _) _).alloc (by simp) _)
      have S2 := hide' (show w2.heap.size = w.heap.size + 2 by rw [← hw2]; simp)
      have R0 := hide' (show w2.heap[w.heap.size]? = some (.cells #[.int .i64 (o : Int), .int .i64 a, .int .i64 t, .int .i64 e] 146 (0, 0)) by rw [← hw2]; exact (heap_alloc_old (w.alloc _) _ (by simp)).trans (heap_alloc_new w _))
      have R1 := hide' (show w2.heap[w.heap.size + 1]? = some (.cells #[.int .i64 4, .int .i64 L, .int .i64 L] 157 (0, 0)) by rw [← hw2]; exact heap_alloc2_new _ _ _)
      have b0 := cell_of_row w2 _ 0 _ _ _ R0.out
      have b1 := cell_of_row w2 _ 1 _ _ _ R0.out
      have b2 := cell_of_row w2 _ 2 _ _ _ R0.out
      have b3 := cell_of_row w2 _ 3 _ _ _ R0.out
      simp at b0 b1 b2 b3
      clear hw2
      go_enter Tryd.func78, Tryd.ntmps78
      go_upto_region 4 with fail
      rw [HW.out]
      go_wp2_with (go_at_call 80; refine (NO.out _).mono ?_; rintro x W ⟨rfl, hb⟩)
      clear b0 b1 b2 b3
      rw [S2.out] at hb
      have BW := hide' (B2.out.trans (hb.mono (by omega)))
      have cu := HU.out W BW.out
      have q0 := cell_of_row W _ 0 _ _ _ ((hb.block w.heap.size (by omega)).trans R0.out)
      have c0 := cell_of_row W _ 0 _ _ _ ((hb.block (w.heap.size + 1) (by omega)).trans R1.out)
      have c1 := cell_of_row W _ 1 _ _ _ ((hb.block (w.heap.size + 1) (by omega)).trans R1.out)
      have c2 := cell_of_row W _ 2 _ _ _ ((hb.block (w.heap.size + 1) (by omega)).trans R1.out)
      simp at q0 c0 c1 c2
      clear hb
      go_loopw [22] (fun kv wr => ∃ k : Nat, kv = .int .i64 (k : Int) ∧ k ≤ 3 ∧ W = wr ∧ Hid (∀ j, j < k → okI L ((o : Int), a, t, e) j = true)) (fun kv _ => 3 - (intOf kv).toNat)
      case atStart => exact ⟨0, rfl, by omega, rfl, hide' (fun j h => by omega)⟩
      case round =>
        obtain ⟨k, rfl, hk, rfl, KS⟩ := hrel
        by_cases d : k = 3
        · subst d
          have F := hide' (show insB L ((o : Int), a, t, e) = true by unfold insB; rw [KS.out 0 (by omega), KS.out 1 (by omega), KS.out 2 (by omega)]; have := HO.out; simp; omega)
          go_wp2
          go_ret
          rw [F.out]; exact ⟨rfl, BW.out⟩
        · rcases (show k = 0 ∨ k = 1 ∨ k = 2 by omega) with rfl | rfl | rfl
          · have OK0 := hide' (OK.out 0)
            by_cases hu : u ≤ 0
            · by_cases n0 : a < 0
              · have n1 : ¬ 1 ≤ a := by omega
                have F := hide' (insB_no (k := 0) (by omega) (show okI L ((o : Int), a, t, e) 0 = false by rw [OK0.out]; simp [numI]; omega))
                go_wp2
                go_ret
                rw [F.out]; exact ⟨rfl, BW.out⟩
              · by_cases n1 : 1 ≤ a
                · have F := hide' (insB_no (k := 0) (by omega) (show okI L ((o : Int), a, t, e) 0 = false by rw [OK0.out]; simp [numI, hu]; omega))
                  go_wp2
                  go_ret
                  rw [F.out]; exact ⟨rfl, BW.out⟩
                · have F := hide' (show okI L ((o : Int), a, t, e) 0 = true by rw [OK0.out]; simp [numI, hu]; omega)
                  go_wp2
                  exact ⟨⟨1, by go_num, by omega, by simp, hide' fun j hj => by
                    by_cases ej : j = 0
                    · subst ej; exact F.out
                    · exact KS.out j (by omega)⟩, by simp [intOf]⟩
            · by_cases n0 : a < 0
              · have n1 : ¬ 4 ≤ a := by omega
                have F := hide' (insB_no (k := 0) (by omega) (show okI L ((o : Int), a, t, e) 0 = false by rw [OK0.out]; simp [numI]; omega))
                go_wp2
                go_ret
                rw [F.out]; exact ⟨rfl, BW.out⟩
              · by_cases n1 : 4 ≤ a
                · have F := hide' (insB_no (k := 0) (by omega) (show okI L ((o : Int), a, t, e) 0 = false by rw [OK0.out]; simp [numI, hu]; omega))
                  go_wp2
                  go_ret
                  rw [F.out]; exact ⟨rfl, BW.out⟩
                · have F := hide' (show okI L ((o : Int), a, t, e) 0 = true by rw [OK0.out]; simp [numI, hu]; omega)
                  go_wp2
                  exact ⟨⟨1, by go_num, by omega, by simp, hide' fun j hj => by
                    by_cases ej : j = 0
                    · subst ej; exact F.out
                    · exact KS.out j (by omega)⟩, by simp [intOf]⟩
          · have OK1 := hide' (OK.out 1)
            by_cases hu : u ≤ 1
            · by_cases n0 : t < 0
              · have n1 : ¬ 1 ≤ t := by omega
                have F := hide' (insB_no (k := 1) (by omega) (show okI L ((o : Int), a, t, e) 1 = false by rw [OK1.out]; simp [numI]; omega))
                go_wp2
                go_ret
                rw [F.out]; exact ⟨rfl, BW.out⟩
              · by_cases n1 : 1 ≤ t
                · have F := hide' (insB_no (k := 1) (by omega) (show okI L ((o : Int), a, t, e) 1 = false by rw [OK1.out]; simp [numI, hu]; omega))
                  go_wp2
                  go_ret
                  rw [F.out]; exact ⟨rfl, BW.out⟩
                · have F := hide' (show okI L ((o : Int), a, t, e) 1 = true by rw [OK1.out]; simp [numI, hu]; omega)
                  go_wp2
                  exact ⟨⟨2, by go_num, by omega, by simp, hide' fun j hj => by
                    by_cases ej : j = 1
                    · subst ej; exact F.out
                    · exact KS.out j (by omega)⟩, by simp [intOf]⟩
            · by_cases n0 : t < 0
              · have n1 : ¬ L ≤ t ∨ L ≤ t := by omega
                have N1 := hide' n1
                clear n1
                have F := hide' (insB_no (k := 1) (by omega) (show okI L ((o : Int), a, t, e) 1 = false by rw [OK1.out]; simp [numI]; omega))
                by_cases n1 : L ≤ t
                all_goals
                  go_wp2
                  go_ret
                  rw [F.out]; exact ⟨rfl, BW.out⟩
              · by_cases n1 : L ≤ t
                · have F := hide' (insB_no (k := 1) (by omega) (show okI L ((o : Int), a, t, e) 1 = false by rw [OK1.out]; simp [numI, hu]; omega))
                  go_wp2
                  go_ret
                  rw [F.out]; exact ⟨rfl, BW.out⟩
                · have F := hide' (show okI L ((o : Int), a, t, e) 1 = true by rw [OK1.out]; simp [numI, hu]; omega)
                  go_wp2
                  exact ⟨⟨2, by go_num, by omega, by simp, hide' fun j hj => by
                    by_cases ej : j = 1
                    · subst ej; exact F.out
                    · exact KS.out j (by omega)⟩, by simp [intOf]⟩
          · have OK2 := hide' (OK.out 2)
            by_cases hu : u ≤ 2
            · by_cases n0 : e < 0
              · have n1 : ¬ 1 ≤ e := by omega
                have F := hide' (insB_no (k := 2) (by omega) (show okI L ((o : Int), a, t, e) 2 = false by rw [OK2.out]; simp [numI]; omega))
                go_wp2
                go_ret
                rw [F.out]; exact ⟨rfl, BW.out⟩
              · by_cases n1 : 1 ≤ e
                · have F := hide' (insB_no (k := 2) (by omega) (show okI L ((o : Int), a, t, e) 2 = false by rw [OK2.out]; simp [numI, hu]; omega))
                  go_wp2
                  go_ret
                  rw [F.out]; exact ⟨rfl, BW.out⟩
                · have F := hide' (show okI L ((o : Int), a, t, e) 2 = true by rw [OK2.out]; simp [numI, hu]; omega)
                  go_wp2
                  exact ⟨⟨3, by go_num, by omega, by simp, hide' fun j hj => by
                    by_cases ej : j = 2
                    · subst ej; exact F.out
                    · exact KS.out j (by omega)⟩, by simp [intOf]⟩
            · by_cases n0 : e < 0
              · have n1 : ¬ L ≤ e ∨ L ≤ e := by omega
                have N1 := hide' n1
                clear n1
                have F := hide' (insB_no (k := 2) (by omega) (show okI L ((o : Int), a, t, e) 2 = false by rw [OK2.out]; simp [numI]; omega))
                by_cases n1 : L ≤ e
                all_goals
                  go_wp2
                  go_ret
                  rw [F.out]; exact ⟨rfl, BW.out⟩
              · by_cases n1 : L ≤ e
                · have F := hide' (insB_no (k := 2) (by omega) (show okI L ((o : Int), a, t, e) 2 = false by rw [OK2.out]; simp [numI, hu]; omega))
                  go_wp2
                  go_ret
                  rw [F.out]; exact ⟨rfl, BW.out⟩
                · have F := hide' (show okI L ((o : Int), a, t, e) 2 = true by rw [OK2.out]; simp [numI, hu]; omega)
                  go_wp2
                  exact ⟨⟨3, by go_num, by omega, by simp, hide' fun j hj => by
                    by_cases ej : j = 2
                    · subst ej; exact F.out
                    · exact KS.out j (by omega)⟩, by simp [intOf]⟩
end Go.Proofs.YtdkomlgkkepioaaDoor

