/-
  What the last text of this claim leans on, part 23: Pr7, Pr8.
-/
import Derived.Test.YtljdidimoagnhaaDoorJu22
import Derived.Test.YtljdidimoagnhaaDoorShelf
import Derived.Test.YtljdidimoagnhaaDoorJu5
import Derived.WalkSmall
import Derived.Deep.RegionWith
import Derived.Lib.ItoaLen
import Derived.Deep.RegionHeld3
import Derived.Deep.CutRange
namespace Go.Proofs.YtljdidimoagnhaaDoor
open Go.RowKit
set_option linter.unusedVariables false

/-- The library's table of powers reads as it is written. -/
def PowT (w : World) : Prop := Lib.TabIs Tryd.prog w "internal/strconv.uint64pow10" .u64 Lib.pow10Tab
theorem powAt : Tryd.prog.globalNamed "internal/strconv.uint64pow10" = some 1 := by kernel_rfl
theorem PowT.lt {w : World} (h : PowT w) : 1 < w.heap.size := by
  unfold PowT Lib.TabIs World.var? at h
  simp only [powAt, Option.bind_some] at h
  rcases Nat.lt_or_ge 1 w.heap.size with q | q
  · exact q
  · rw [Array.getElem?_eq_none q] at h; cases h
theorem PowT.below {w w' : World} (h : PowT w) (hb : Below w.heap.size w w') : PowT w' := var?_below hb powAt h.lt h
theorem below_grow (w : World) (k : Nat) (os : Array Obj) : Below w.heap.size w (Sort.grow (w.drewN k) os) :=
  ⟨rfl, rfl, rfl, by show w.heap.size ≤ (w.heap ++ os).size; simp, fun i hi => by show (w.heap ++ os)[i]? = w.heap[i]?; rw [Array.getElem?_append_left hi]⟩

set_option maxHeartbeats 1600000 in
theorem printLine_W (o : Out) (a : Option Addr) (n c : Nat) (w : World) (hR : ArgR w o a n c) (hP : PowT w) (h1 : o.states = 2) (h2 : o.radius = 1) (h8 : n = 8) (hb : ∀ k, k < o.table.length → 0 ≤ o.table.getD k 0 ∧ o.table.getD k 0 < 2) :
    Calls Tryd.prog 82 #[o.val (.slice a n c)] w fun e w' => e = .returned (.string (⟨#[87]⟩ ++ ⟨(Lib.itoa (tabNum o.table 8 : Int)).toArray⟩)) ∧ Below w.heap.size w w' := by
  have k1 : (o.states == 2) = true := by simp [h1]
  have k2 : (o.radius == 1) = true := by simp [h2]
  have H8 := hide' h8
  have HP := hide' hP
  have n8 : n ≤ 8 := by omega
  have hlt := tabNum_lt o.table hb 8 (by rw [← hR.len]; omega)
  clear h1 h2 h8 hP
  unfold Out.val
  go_enter Tryd.func82, Tryd.ntmps82
  go_wp2_with fail
  refine (numberOf_any o a n c _ (hR.alloc _) H8.out hb).mono ?_
  rintro e w1 ⟨rfl, rfl⟩
  go_wp2_with fail
  refine (Tryd.strconv_Itoa (tabNum o.table 8 : Int) (by omega) (by omega) _ (HP.out.below ((Below.refl _ _).alloc (Nat.le_refl _) _))).mono ?_
  rintro e w1 ⟨rfl, k, os, rfl⟩
  have B := hide' (below_grow (w.alloc (.cells #[.int .i64 o.kind, .int .i64 o.born, .int .i64 o.stay, .int .i64 o.states, .int .i64 o.radius, .slice a n c, .string o.turns] 24)) k os)
  have hl := Lib.itoa_length_le (tabNum o.table 8 : Int) (by omega) (by omega)
  go_wp2
  go_ret
  exact ⟨rfl, ((Below.refl _ _).alloc (Nat.le_refl _) _).trans (B.out.mono (by simp))⟩
end Go.Proofs.YtljdidimoagnhaaDoor

namespace Go.Proofs.YtljdidimoagnhaaDoor
open Go.RowKit
set_option linter.unusedVariables false

theorem itoaSmall (x : Int) (h0 : 0 ≤ x) (h1 : x < 100) (w : World) :
    Calls Tryd.prog 90 #[.int .i64 x] w fun e w' => e = .returned (.string ⟨(Lib.decDigits x.toNat).toArray⟩) ∧ w' = w := by
  obtain ⟨i, rfl⟩ := Int.eq_ofNat_of_zero_le h0
  exact Tryd.strconv_Itoa_small i (by omega) w
theorem decS_len (x : Int) (h0 : 0 ≤ x) (h1 : x < 100) : (Lib.decDigits x.toNat).length ≤ 21 := by
  obtain ⟨i, rfl⟩ := Int.eq_ofNat_of_zero_le h0
  have := Lib.itoa_length_le (i : Int) (by omega) (by omega)
  rw [Lib.itoa_nonneg] at this
  simpa using this

/-- The rule's copy lies at block b with these fields, and nothing older has turned. -/
def SL (w : World) (o : Out) (v : Value) (w' : World) : Prop :=
  w'.cell? ⟨w.heap.size, 3, none⟩ = some (.int .i64 o.states) ∧ w'.cell? ⟨w.heap.size, 4, none⟩ = some (.int .i64 o.radius) ∧ w'.cell? ⟨w.heap.size, 5, none⟩ = some v ∧ Hid (w.heap.size + 1 ≤ w'.heap.size ∧ Below w.heap.size w w')
theorem SL.next {w w1 w2 : World} {o : Out} {v : Value} (h : SL w o v w1) (hb : Below w1.heap.size w1 w2) : SL w o v w2 := by
  obtain ⟨h1, h2, h3, h4⟩ := h
  obtain ⟨h4, h5⟩ := h4.out
  have e : ∀ k, w2.cell? ⟨w.heap.size, k, none⟩ = w1.cell? ⟨w.heap.size, k, none⟩ := fun k =>
    World.cell?_of_block (w := w1) (a := ⟨w.heap.size, k, none⟩) (hb.block w.heap.size (by omega))
  exact ⟨(e 3).trans h1, (e 4).trans h2, (e 5).trans h3, hide' ⟨Nat.le_trans h4 hb.size, h5.trans (hb.mono (by omega))⟩⟩
theorem SL.start (w : World) (o : Out) (a : Option Addr) (n c : Nat) : SL w o (.slice a n c) ((w.alloc (.cells #[.int .i64 o.kind, .int .i64 o.born, .int .i64 o.stay, .int .i64 o.states, .int .i64 o.radius, .slice a n c, .string o.turns] 24)).drew) := by
  refine ⟨cell_all_new _ _ _ _, cell_all_new _ _ _ _, cell_all_new _ _ _ _, hide' ⟨?_, ((Below.refl _ _).alloc (Nat.le_refl _) _).drew⟩⟩
  simp

set_option maxHeartbeats 4000000 in
theorem printLine_L (o : Out) (a : Option Addr) (n c : Nat) (w : World) (hR : ArgR w o a n c) (hs0 : 0 ≤ o.states) (hs1 : o.states < 100) (hr0 : 0 ≤ o.radius) (hr1 : o.radius < 100) (hx : ((o.states == 2) && (o.radius == 1)) = false) (hn4 : n ≤ 4096) (hb : ∀ k, k < o.table.length → 0 ≤ o.table.getD k 0 ∧ o.table.getD k 0 < 4) :
    Calls Tryd.prog 82 #[o.val (.slice a n c)] w fun e w' => e = .returned (.string (((((⟨#[76, 32]⟩ ++ ⟨(Lib.decDigits o.states.toNat).toArray⟩) ++ ⟨#[32]⟩) ++ ⟨(Lib.decDigits o.radius.toNat).toArray⟩) ++ ⟨#[32]⟩) ++ ⟨((List.range n).map (stB o.table)).toArray⟩)) ∧ Below w.heap.size w w' := by
  have HR := hide' hR
  have HB := hide' hb
  have HS := hide' (itoaSmall o.states hs0 hs1)
  have HT := hide' (itoaSmall o.radius hr0 hr1)
  have l1 := decS_len o.states hs0 hs1
  have l2 := decS_len o.radius hr0 hr1
  have m1 : ¬ (9223372036854775807 < 2 + (Lib.decDigits o.states.toNat).length) := by omega
  have m2 : ¬ (9223372036854775807 < 2 + (Lib.decDigits o.states.toNat).length + 1) := by omega
  have m3 : ¬ (9223372036854775807 < 2 + (Lib.decDigits o.states.toNat).length + 1 + (Lib.decDigits o.radius.toNat).length) := by omega
  have m4 : ¬ (9223372036854775807 < 2 + (Lib.decDigits o.states.toNat).length + 1 + (Lib.decDigits o.radius.toNat).length + 1) := by omega
  have m5 : ¬ (9223372036854775807 < 2 + (Lib.decDigits o.states.toNat).length + 1 + (Lib.decDigits o.radius.toNat).length + 1 + n) := by omega
  clear hR hb hs0 hs1 hr0 hr1
  unfold Out.val
  go_enter Tryd.func82, Tryd.ntmps82
  rcases hk1 : (o.states == 2) with _ | _
  · clear hx
    go_upto_region 3 with fail
    have S0 := hide' (SL.start w o a n c)
    go_region_held3 (fun w' => w'.cell? ⟨w.heap.size, 3, none⟩ = some (.int .i64 o.states) ∧ w'.cell? ⟨w.heap.size, 4, none⟩ = some (.int .i64 o.radius) ∧ w'.cell? ⟨w.heap.size, 5, none⟩ = some (.slice a n c) ∧ Hid (w.heap.size + 1 ≤ w'.heap.size ∧ Below w.heap.size w w')) (first | exact S0.out | exact SL.next S0.out B1.out)
      (first
        | (go_at_call_of 90 (Value.int .i64 o.states); refine (HS.out _).mono ?_; rintro e w' ⟨rfl, rfl⟩)
        | (go_at_call_of 90 (Value.int .i64 o.radius); refine (HT.out _).mono ?_; rintro e w' ⟨rfl, rfl⟩)
        | (go_at_call 146; refine (statesOf_any o a n c _ (HR.out.below S0.out.2.2.2.out.2) hn4 HB.out).mono ?_; rintro e w1 ⟨rfl, hb1⟩; have B1 := hide' hb1; clear hb1))
    go_wp2
    go_ret
    exact ⟨rfl, (SL.next S0.out B1.out).2.2.2.out.2⟩
  · have k2 : (o.radius == 1) = false := by simpa [hk1] using hx
    clear hx
    go_upto_region 3 with fail
    have S0 := hide' (SL.start w o a n c)
    go_region_held3 (fun w' => w'.cell? ⟨w.heap.size, 3, none⟩ = some (.int .i64 o.states) ∧ w'.cell? ⟨w.heap.size, 4, none⟩ = some (.int .i64 o.radius) ∧ w'.cell? ⟨w.heap.size, 5, none⟩ = some (.slice a n c) ∧ Hid (w.heap.size + 1 ≤ w'.heap.size ∧ Below w.heap.size w w')) (first | exact S0.out | exact SL.next S0.out B1.out)
      (first
        | (go_at_call_of 90 (Value.int .i64 o.states); refine (HS.out _).mono ?_; rintro e w' ⟨rfl, rfl⟩)
        | (go_at_call_of 90 (Value.int .i64 o.radius); refine (HT.out _).mono ?_; rintro e w' ⟨rfl, rfl⟩)
        | (go_at_call 146; refine (statesOf_any o a n c _ (HR.out.below S0.out.2.2.2.out.2) hn4 HB.out).mono ?_; rintro e w1 ⟨rfl, hb1⟩; have B1 := hide' hb1; clear hb1))
    go_wp2
    go_ret
    exact ⟨rfl, (SL.next S0.out B1.out).2.2.2.out.2⟩
end Go.Proofs.YtljdidimoagnhaaDoor

