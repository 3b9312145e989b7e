/-
  What the last text of this claim leans on, part 17: Pr7, Pr8, Pr9, Pr10.
-/
import Derived.Test.YtljdidimoagnhaaDoorJv16
import Derived.Test.YtljdidimoagnhaaDoorShelf
import Derived.Test.YtljdidimoagnhaaDoorJv4
import Derived.WalkSmall
import Derived.Deep.RegionWith
import Derived.Lib.ItoaLen
import Derived.Deep.RegionHeld3
import Derived.Deep.CutRange
namespace Go.Proofs.YtljdidimoagnhaaDoor
open Go.RowKit
set_option linter.unusedVariables false

/-- The library's table of powers reads as it is written. -/
def PowT (w : World) : Prop := Lib.TabIs Tryd.prog w "internal/strconv.uint64pow10" .u64 Lib.pow10Tab
theorem powAt : Tryd.prog.globalNamed "internal/strconv.uint64pow10" = some 1 := by kernel_rfl
theorem PowT.lt {w : World} (h : PowT w) : 1 < w.heap.size := by
  unfold PowT Lib.TabIs World.var? at h
  simp only [powAt, Option.bind_some] at h
  rcases Nat.lt_or_ge 1 w.heap.size with q | q
  · exact q
  · rw [Array.getElem?_eq_none q] at h; cases h
theorem PowT.below {w w' : World} (h : PowT w) (hb : Below w.heap.size w w') : PowT w' := var?_below hb powAt h.lt h
theorem below_grow (w : World) (k : Nat) (os : Array Obj) : Below w.heap.size w (Sort.grow (w.drewN k) os) :=
  ⟨rfl, rfl, rfl, by show w.heap.size ≤ (w.heap ++ os).size; simp, fun i hi => by show (w.heap ++ os)[i]? = w.heap[i]?; rw [Array.getElem?_append_left hi]⟩

set_option maxHeartbeats 1600000 in
theorem printLine_W (o : Out) (a : Option Addr) (n c : Nat) (w : World) (hR : ArgR w o a n c) (hP : PowT w) (h1 : o.states = 2) (h2 : o.radius = 1) (h8 : n = 8) (hb : ∀ k, k < o.table.length → 0 ≤ o.table.getD k 0 ∧ o.table.getD k 0 < 2) :
    Calls Tryd.prog 82 #[o.val (.slice a n c)] w fun e w' => e = .returned (.string (⟨#[87]⟩ ++ ⟨(Lib.itoa (tabNum o.table 8 : Int)).toArray⟩)) ∧ Below w.heap.size w w' := by
  have k1 : (o.states == 2) = true := by simp [h1]
  have k2 : (o.radius == 1) = true := by simp [h2]
  have H8 := hide' h8
  have HP := hide' hP
  have n8 : n ≤ 8 := by omega
  have hlt := tabNum_lt o.table hb 8 (by rw [← hR.len]; omega)
  clear h1 h2 h8 hP
  unfold Out.val
  go_enter Tryd.func82, Tryd.ntmps82
  go_wp2_with fail
  refine (numberOf_any o a n c _ (hR.alloc _) H8.out hb).mono ?_
  rintro e w1 ⟨rfl, rfl⟩
  go_wp2_with fail
  refine (Tryd.strconv_Itoa (tabNum o.table 8 : Int) (by omega) (by omega) _ (HP.out.below ((Below.refl _ _).alloc (Nat.le_refl _) _))).mono ?_
  rintro e w1 ⟨rfl, k, os, rfl⟩
  have B := hide' (below_grow (w.alloc (.cells #[.int .i64 o.kind, .int .i64 o.born, .int .i64 o.stay, .int .i64 o.states, .int .i64 o.radius, .slice a n c, .string o.turns] 24)) k os)
  have hl := Lib.itoa_length_le (tabNum o.table 8 : Int) (by omega) (by omega)
  go_wp2
  go_ret
  exact ⟨rfl, ((Below.refl _ _).alloc (Nat.le_refl _) _).trans (B.out.mono (by simp))⟩
end Go.Proofs.YtljdidimoagnhaaDoor

namespace Go.Proofs.YtljdidimoagnhaaDoor
open Go.RowKit
set_option linter.unusedVariables false

theorem itoaSmall (x : Int) (h0 : 0 ≤ x) (h1 : x < 100) (w : World) :
    Calls Tryd.prog 90 #[.int .i64 x] w fun e w' => e = .returned (.string ⟨(Lib.decDigits x.toNat).toArray⟩) ∧ w' = w := by
  obtain ⟨i, rfl⟩ := Int.eq_ofNat_of_zero_le h0
  exact Tryd.strconv_Itoa_small i (by omega) w
theorem decS_len (x : Int) (h0 : 0 ≤ x) (h1 : x < 100) : (Lib.decDigits x.toNat).length ≤ 21 := by
  obtain ⟨i, rfl⟩ := Int.eq_ofNat_of_zero_le h0
  have := Lib.itoa_length_le (i : Int) (by omega) (by omega)
  rw [Lib.itoa_nonneg] at this
  simpa using this

/-- The rule's copy lies at block b with these fields, and nothing older has turned. -/
def SL (w : World) (o : Out) (v : Value) (w' : World) : Prop :=
  w'.cell? ⟨w.heap.size, 3, none⟩ = some (.int .i64 o.states) ∧ w'.cell? ⟨w.heap.size, 4, none⟩ = some (.int .i64 o.radius) ∧ w'.cell? ⟨w.heap.size, 5, none⟩ = some v ∧ Hid (w.heap.size + 1 ≤ w'.heap.size ∧ Below w.heap.size w w')
theorem SL.next {w w1 w2 : World} {o : Out} {v : Value} (h : SL w o v w1) (hb : Below w1.heap.size w1 w2) : SL w o v w2 := by
  obtain ⟨h1, h2, h3, h4⟩ := h
  obtain ⟨h4, h5⟩ := h4.out
  have e : ∀ k, w2.cell? ⟨w.heap.size, k, none⟩ = w1.cell? ⟨w.heap.size, k, none⟩ := fun k =>
    World.cell?_of_block (w := w1) (a := ⟨w.heap.size, k, none⟩) (hb.block w.heap.size (by omega))
  exact ⟨(e 3).trans h1, (e 4).trans h2, (e 5).trans h3, hide' ⟨Nat.le_trans h4 hb.size, h5.trans (hb.mono (by omega))⟩⟩
theorem SL.start (w : World) (o : Out) (a : Option Addr) (n c : Nat) : SL w o (.slice a n c) ((w.alloc (.cells #[.int .i64 o.kind, .int .i64 o.born, .int .i64 o.stay, .int .i64 o.states, .int .i64 o.radius, .slice a n c, .string o.turns] 24)).drew) := by
  refine ⟨cell_all_new _ _ _ _, cell_all_new _ _ _ _, cell_all_new _ _ _ _, hide' ⟨?_, ((Below.refl _ _).alloc (Nat.le_refl _) _).drew⟩⟩
  simp

set_option maxHeartbeats 4000000 in
theorem printLine_L (o : Out) (a : Option Addr) (n c : Nat) (w : World) (hR : ArgR w o a n c) (hs0 : 0 ≤ o.states) (hs1 : o.states < 100) (hr0 : 0 ≤ o.radius) (hr1 : o.radius < 100) (hx : ((o.states == 2) && (o.radius == 1)) = false) (hn4 : n ≤ 4096) (hb : ∀ k, k < o.table.length → 0 ≤ o.table.getD k 0 ∧ o.table.getD k 0 < 4) :
    Calls Tryd.prog 82 #[o.val (.slice a n c)] w fun e w' => e = .returned (.string (((((⟨#[76, 32]⟩ ++ ⟨(Lib.decDigits o.states.toNat).toArray⟩) ++ ⟨#[32]⟩) ++ ⟨(Lib.decDigits o.radius.toNat).toArray⟩) ++ ⟨#[32]⟩) ++ ⟨((List.range n).map (stB o.table)).toArray⟩)) ∧ Below w.heap.size w w' := by
  have HR := hide' hR
  have HB := hide' hb
  have HS := hide' (itoaSmall o.states hs0 hs1)
  have HT := hide' (itoaSmall o.radius hr0 hr1)
  have l1 := decS_len o.states hs0 hs1
  have l2 := decS_len o.radius hr0 hr1
  have m1 : ¬ (9223372036854775807 < 2 + (Lib.decDigits o.states.toNat).length) := by omega
  have m2 : ¬ (9223372036854775807 < 2 + (Lib.decDigits o.states.toNat).length + 1) := by omega
  have m3 : ¬ (9223372036854775807 < 2 + (Lib.decDigits o.states.toNat).length + 1 + (Lib.decDigits o.radius.toNat).length) := by omega
  have m4 : ¬ (9223372036854775807 < 2 + (Lib.decDigits o.states.toNat).length + 1 + (Lib.decDigits o.radius.toNat).length + 1) := by omega
  have m5 : ¬ (9223372036854775807 < 2 + (Lib.decDigits o.states.toNat).length + 1 + (Lib.decDigits o.radius.toNat).length + 1 + n) := by omega
  clear hR hb hs0 hs1 hr0 hr1
  unfold Out.val
  go_enter Tryd.func82, Tryd.ntmps82
  rcases hk1 : (o.states == 2) with _ | _
  · clear hx
    go_upto_region 3 with fail
    have S0 := hide' (SL.start w o a n c)
    go_region_held3 (fun w' => w'.cell? ⟨w.heap.size, 3, none⟩ = some (.int .i64 o.states) ∧ w'.cell? ⟨w.heap.size, 4, none⟩ = some (.int .i64 o.radius) ∧ w'.cell? ⟨w.heap.size, 5, none⟩ = some (.slice a n c) ∧ Hid (w.heap.size + 1 ≤ w'.heap.size ∧ Below w.heap.size w w')) (first | exact S0.out | exact SL.next S0.out B1.out)
      (first
        | (go_at_call_of 90 (Value.int .i64 o.states); refine (HS.out _).mono ?_; rintro e w' ⟨rfl, rfl⟩)
        | (go_at_call_of 90 (Value.int .i64 o.radius); refine (HT.out _).mono ?_; rintro e w' ⟨rfl, rfl⟩)
        | (go_at_call 146; refine (statesOf_any o a n c _ (HR.out.below S0.out.2.2.2.out.2) hn4 HB.out).mono ?_; rintro e w1 ⟨rfl, hb1⟩; have B1 := hide' hb1; clear hb1))
    go_wp2
    go_ret
    exact ⟨rfl, (SL.next S0.out B1.out).2.2.2.out.2⟩
  · have k2 : (o.radius == 1) = false := by simpa [hk1] using hx
    clear hx
    go_upto_region 3 with fail
    have S0 := hide' (SL.start w o a n c)
    go_region_held3 (fun w' => w'.cell? ⟨w.heap.size, 3, none⟩ = some (.int .i64 o.states) ∧ w'.cell? ⟨w.heap.size, 4, none⟩ = some (.int .i64 o.radius) ∧ w'.cell? ⟨w.heap.size, 5, none⟩ = some (.slice a n c) ∧ Hid (w.heap.size + 1 ≤ w'.heap.size ∧ Below w.heap.size w w')) (first | exact S0.out | exact SL.next S0.out B1.out)
      (first
        | (go_at_call_of 90 (Value.int .i64 o.states); refine (HS.out _).mono ?_; rintro e w' ⟨rfl, rfl⟩)
        | (go_at_call_of 90 (Value.int .i64 o.radius); refine (HT.out _).mono ?_; rintro e w' ⟨rfl, rfl⟩)
        | (go_at_call 146; refine (statesOf_any o a n c _ (HR.out.below S0.out.2.2.2.out.2) hn4 HB.out).mono ?_; rintro e w1 ⟨rfl, hb1⟩; have B1 := hide' hb1; clear hb1))
    go_wp2
    go_ret
    exact ⟨rfl, (SL.next S0.out B1.out).2.2.2.out.2⟩
end Go.Proofs.YtljdidimoagnhaaDoor

namespace Go.Proofs.YtljdidimoagnhaaDoor
open Go.RowKit
set_option linter.unusedVariables false

theorem digitsOf_int (x : Int) (h : bitsB x = true) (w : World) :
    Calls Tryd.prog 81 #[.int .i64 x] w fun e w' => e = .returned (.string ⟨(dl x.toNat 9).toArray⟩) ∧ Below w.heap.size w w' := by
  unfold bitsB at h
  simp at h
  obtain ⟨i, rfl⟩ := Int.eq_ofNat_of_zero_le h.1
  exact digitsOf_any i w (by omega)

/-- Two fields of the rule's copy, and nothing older has turned. -/
def SB (w : World) (o : Out) (w' : World) : Prop :=
  w'.cell? ⟨w.heap.size, 1, none⟩ = some (.int .i64 o.born) ∧ w'.cell? ⟨w.heap.size, 2, none⟩ = some (.int .i64 o.stay) ∧ Hid (w.heap.size + 1 ≤ w'.heap.size ∧ Below w.heap.size w w')
theorem SB.next {w w1 w2 : World} {o : Out} (h : SB w o w1) (hb : Below w1.heap.size w1 w2) : SB w o w2 := by
  obtain ⟨h1, h2, h4⟩ := h
  obtain ⟨h4, h5⟩ := h4.out
  have e : ∀ k, w2.cell? ⟨w.heap.size, k, none⟩ = w1.cell? ⟨w.heap.size, k, none⟩ := fun k =>
    World.cell?_of_block (w := w1) (a := ⟨w.heap.size, k, none⟩) (hb.block w.heap.size (by omega))
  exact ⟨(e 1).trans h1, (e 2).trans h2, hide' ⟨Nat.le_trans h4 hb.size, h5.trans (hb.mono (by omega))⟩⟩

/-- The text of a rule that has one. -/
def lineB (o : Out) : ByteArray :=
  if (o.states == 2 && o.radius == 1) = true then ⟨#[87]⟩ ++ ⟨(Lib.itoa (tabNum o.table 8 : Int)).toArray⟩
  else ((((⟨#[76, 32]⟩ ++ ⟨(Lib.decDigits o.states.toNat).toArray⟩) ++ ⟨#[32]⟩) ++ ⟨(Lib.decDigits o.radius.toNat).toArray⟩) ++ ⟨#[32]⟩) ++ ⟨((List.range o.table.length).map (stB o.table)).toArray⟩
def lifeB (o : Out) : ByteArray := ((⟨#[66]⟩ ++ ⟨(dl o.born.toNat 9).toArray⟩) ++ ⟨#[47, 83]⟩) ++ ⟨(dl o.stay.toNat 9).toArray⟩

set_option maxHeartbeats 1600000 in
theorem Print_bad (o : Out) (a : Option Addr) (n c : Nat) (w : World) (hR : ArgR w o a n c) (hg : ¬ Good o) :
    Calls Tryd.prog 22 #[.agg #[.int .i64 o.kind, .int .i64 o.born, .int .i64 o.stay, .int .i64 o.states, .int .i64 o.radius, .slice a n c, .string o.turns]] w fun e w' => e = .returned (.tuple #[.string ⟨#[]⟩, .iface 97 (.int .i64 1)]) ∧ Below w.heap.size w w' := by
  go_enter Tryd.func22, Tryd.ntmps22
  go_wp2_with fail
  refine (Check_any o a n c _ (hR.alloc _)).mono ?_
  rintro e w1 ⟨he, b1⟩
  have B1 := hide' b1
  clear b1
  rcases he with ⟨rfl, g⟩ | ⟨rfl, g⟩
  · exact absurd g hg
  clear hg g
  go_wp2
  go_ret2
  exact ⟨rfl, ((Below.refl _ _).alloc (Nat.le_refl _) _).trans (B1.out.mono (by simp))⟩

set_option maxHeartbeats 1600000 in
theorem Print_full (o : Out) (a : Option Addr) (n c : Nat) (w : World) (hR : ArgR w o a n c) (hg : Good o) (hr : 2 < o.radius) :
    Calls Tryd.prog 22 #[.agg #[.int .i64 o.kind, .int .i64 o.born, .int .i64 o.stay, .int .i64 o.states, .int .i64 o.radius, .slice a n c, .string o.turns]] w fun e w' => e = .returned (.tuple #[.string ⟨#[]⟩, .iface 97 (.int .i64 4)]) ∧ Below w.heap.size w w' := by
  go_enter Tryd.func22, Tryd.ntmps22
  go_wp2_with fail
  refine (Check_any o a n c _ (hR.alloc _)).mono ?_
  rintro e w1 ⟨he, b1⟩
  have B1 := hide' b1
  have x4 := b1.cell (p := ⟨w.heap.size, 4, none⟩) (by simp)
  simp at x4
  clear b1
  rcases he with ⟨rfl, g⟩ | ⟨rfl, g⟩
  · clear hg g
    go_wp2
    go_ret2
    exact ⟨rfl, ((Below.refl _ _).alloc (Nat.le_refl _) _).trans (B1.out.mono (by simp))⟩
  · exact absurd hg g

set_option maxHeartbeats 1600000 in
theorem Print_turns (o : Out) (a : Option Addr) (n c : Nat) (w : World) (hR : ArgR w o a n c) (hg : Good o) (hk : o.kind = 3) (hr : o.radius ≤ 2) (ht : 2 + o.turns.size ≤ maxLen) :
    Calls Tryd.prog 22 #[.agg #[.int .i64 o.kind, .int .i64 o.born, .int .i64 o.stay, .int .i64 o.states, .int .i64 o.radius, .slice a n c, .string o.turns]] w fun e w' => e = .returned (.tuple #[.string (⟨#[84, 32]⟩ ++ o.turns), .nilIface]) ∧ Below w.heap.size w w' := by
  have k1 : (o.kind == 1) = false := by simp; omega
  have k2 : (o.kind == 2) = false := by simp; omega
  have k3 : decide (2 < o.radius) = false := by simp; omega
  have m1 : ¬ (9223372036854775807 < 2 + o.turns.size) := by unfold maxLen at ht; omega
  clear hk ht
  go_enter Tryd.func22, Tryd.ntmps22
  go_wp2_with fail
  refine (Check_any o a n c _ (hR.alloc _)).mono ?_
  rintro e w1 ⟨he, b1⟩
  have B1 := hide' b1
  have x0 := b1.cell (p := ⟨w.heap.size, 0, none⟩) (by simp)
  have x4 := b1.cell (p := ⟨w.heap.size, 4, none⟩) (by simp)
  have x6 := b1.cell (p := ⟨w.heap.size, 6, none⟩) (by simp)
  simp at x0 x4 x6
  clear b1
  rcases he with ⟨rfl, g⟩ | ⟨rfl, g⟩
  · clear hg g
    go_wp2
    go_ret2
    exact ⟨rfl, ((Below.refl _ _).alloc (Nat.le_refl _) _).trans (B1.out.mono (by simp))⟩
  · exact absurd hg g

set_option maxHeartbeats 1600000 in
theorem Print_life (o : Out) (a : Option Addr) (n c : Nat) (w : World) (hR : ArgR w o a n c) (hg : Good o) (hk : o.kind = 1) (hr : o.radius ≤ 2) (h1 : bitsB o.born = true) (h2 : bitsB o.stay = true) :
    Calls Tryd.prog 22 #[.agg #[.int .i64 o.kind, .int .i64 o.born, .int .i64 o.stay, .int .i64 o.states, .int .i64 o.radius, .slice a n c, .string o.turns]] w fun e w' => e = .returned (.tuple #[.string (((⟨#[66]⟩ ++ ⟨(dl o.born.toNat 9).toArray⟩) ++ ⟨#[47, 83]⟩) ++ ⟨(dl o.stay.toNat 9).toArray⟩), .nilIface]) ∧ Below w.heap.size w w' := by
  have k1 : (o.kind == 1) = true := by simp; omega
  have k3 : decide (2 < o.radius) = false := by simp; omega
  have H1 := hide' (digitsOf_int o.born h1)
  have H2 := hide' (digitsOf_int o.stay h2)
  have l1 := dl_len o.born.toNat 9
  have l2 := dl_len o.stay.toNat 9
  have m1 : ¬ (9223372036854775807 < 1 + (dl o.born.toNat 9).length) := by omega
  have m2 : ¬ (9223372036854775807 < 1 + (dl o.born.toNat 9).length + 2) := by omega
  have m3 : ¬ (9223372036854775807 < 1 + (dl o.born.toNat 9).length + 2 + (dl o.stay.toNat 9).length) := by omega
  clear hk h1 h2
  go_enter Tryd.func22, Tryd.ntmps22
  go_wp2_with fail
  refine (Check_any o a n c _ (hR.alloc _)).mono ?_
  rintro e w1 ⟨he, b1⟩
  have B1 := hide' b1
  have x0 := b1.cell (p := ⟨w.heap.size, 0, none⟩) (by simp)
  have x1 := b1.cell (p := ⟨w.heap.size, 1, none⟩) (by simp)
  have x2 := b1.cell (p := ⟨w.heap.size, 2, none⟩) (by simp)
  have x4 := b1.cell (p := ⟨w.heap.size, 4, none⟩) (by simp)
  have hsz := b1.size
  simp at x0 x1 x2 x4 hsz
  clear b1
  rcases he with ⟨rfl, g⟩ | ⟨rfl, g⟩
  · clear hg g
    have S0 := hide' (show SB w o w1.drew from ⟨x1, x2, hide' ⟨hsz, (((Below.refl _ _).alloc (Nat.le_refl _) _).trans (B1.out.mono (by simp))).drew⟩⟩)
    go_upto_region 8 with fail
    go_region_held3 (fun w' => w'.cell? ⟨w.heap.size, 1, none⟩ = some (.int .i64 o.born) ∧ w'.cell? ⟨w.heap.size, 2, none⟩ = some (.int .i64 o.stay) ∧ Hid (w.heap.size + 1 ≤ w'.heap.size ∧ Below w.heap.size w w'))
      (first | exact S0.out | exact SB.next S0.out B2.out | exact SB.next (SB.next S0.out B2.out) B3.out)
      (first
        | (go_at_call_of 81 (Value.int .i64 o.born); refine (H1.out _).mono ?_; rintro e w2 ⟨rfl, hb1⟩; have B2 := hide' hb1; clear hb1)
        | (go_at_call_of 81 (Value.int .i64 o.stay); refine (H2.out _).mono ?_; rintro e w3 ⟨rfl, hb1⟩; have B3 := hide' hb1; clear hb1))
    go_wp2
    go_ret2
    exact ⟨rfl, (SB.next (SB.next S0.out B2.out) B3.out).2.2.out.2⟩
  · exact absurd hg g
/-- A line rule's conditions, as the walks want them. -/
theorem lineP_parts (o : Out) (h : lineP o) (hr : o.radius ≤ 2) : 0 ≤ o.states ∧ o.states < 100 ∧ 0 ≤ o.radius ∧ o.table.length ≤ 4096 ∧ (∀ k, k < o.table.length → 0 ≤ o.table.getD k 0 ∧ o.table.getD k 0 < o.states) ∧ o.states ≤ 4 ∧ ((o.states == 2 && o.radius == 1) = true → o.table.length = 8) := by
  obtain ⟨h1, h2, h3, h4, h5, h6⟩ := h
  refine ⟨by omega, by omega, h3, by omega, fun k hk => ?_, h2, fun hx => ?_⟩
  · have := h6 k hk
    rw [List.getD_eq_getElem?_getD, List.getElem?_eq_getElem hk]
    exact this
  · simp at hx
    rw [h5, hx.1, hx.2]
    decide

theorem printLine_any (o : Out) (a : Option Addr) (n c : Nat) (w : World) (hR : ArgR w o a n c) (hP : PowT w) (h : lineP o) (hr : o.radius ≤ 2) :
    Calls Tryd.prog 82 #[.agg #[.int .i64 o.kind, .int .i64 o.born, .int .i64 o.stay, .int .i64 o.states, .int .i64 o.radius, .slice a n c, .string o.turns]] w fun e w' => e = .returned (.string (lineB o)) ∧ Below w.heap.size w w' := by
  obtain ⟨p1, p2, p3, p4, p5, p6, p7⟩ := lineP_parts o h hr
  have hl := hR.len
  rcases hx : ((o.states == 2) && (o.radius == 1)) with _ | _
  · have H := printLine_L o a n c w hR p1 p2 p3 (by omega) hx (by omega) (fun k hk => ⟨(p5 k hk).1, by have := (p5 k hk).2; omega⟩)
    unfold Out.val at H
    refine H.mono ?_
    rintro e w' ⟨rfl, hb⟩
    refine ⟨?_, hb⟩
    unfold lineB
    rw [hx, ← hl]
    rfl
  · have h8 := p7 hx
    simp at hx
    have H := printLine_W o a n c w hR hP hx.1 hx.2 (by omega) (fun k hk => ⟨(p5 k hk).1, by have := (p5 k hk).2; omega⟩)
    unfold Out.val at H
    refine H.mono ?_
    rintro e w' ⟨rfl, hb⟩
    refine ⟨?_, hb⟩
    unfold lineB
    rw [hx.1, hx.2]
    rfl

set_option maxHeartbeats 1600000 in
theorem Print_line (o : Out) (a : Option Addr) (n c : Nat) (w : World) (hR : ArgR w o a n c) (hP : PowT w) (hg : Good o) (hk : o.kind = 2) (hr : o.radius ≤ 2) (hl : lineP o) :
    Calls Tryd.prog 22 #[.agg #[.int .i64 o.kind, .int .i64 o.born, .int .i64 o.stay, .int .i64 o.states, .int .i64 o.radius, .slice a n c, .string o.turns]] w fun e w' => e = .returned (.tuple #[.string (lineB o), .nilIface]) ∧ Below w.heap.size w w' := by
  have k1 : (o.kind == 1) = false := by simp; omega
  have k2 : (o.kind == 2) = true := by simp; omega
  have k3 : decide (2 < o.radius) = false := by simp; omega
  have HR := hide' hR
  have HP := hide' hP
  have HK := hide' (And.intro hl hr)
  have A0 := hide' (hR.alloc (.cells #[.int .i64 o.kind, .int .i64 o.born, .int .i64 o.stay, .int .i64 o.states, .int .i64 o.radius, .slice a n c, .string o.turns] 24))
  clear hk hP hl
  go_enter Tryd.func22, Tryd.ntmps22
  go_wp2_with fail
  refine (Check_any o a n c _ A0.out).mono ?_
  rintro e w1 ⟨he, b1⟩
  have B1 := hide' b1
  have x0 := b1.cell (p := ⟨w.heap.size, 0, none⟩) (by simp)
  have x1 := b1.cell (p := ⟨w.heap.size, 1, none⟩) (by simp)
  have x2 := b1.cell (p := ⟨w.heap.size, 2, none⟩) (by simp)
  have x3 := b1.cell (p := ⟨w.heap.size, 3, none⟩) (by simp)
  have x4 := b1.cell (p := ⟨w.heap.size, 4, none⟩) (by simp)
  have x5 := b1.cell (p := ⟨w.heap.size, 5, none⟩) (by simp)
  have x6 := b1.cell (p := ⟨w.heap.size, 6, none⟩) (by simp)
  simp at x0 x1 x2 x3 x4 x5 x6
  clear b1
  rcases he with ⟨rfl, g⟩ | ⟨rfl, g⟩
  · clear hg g hR
    have BW := hide' (((Below.refl _ _).alloc (Nat.le_refl _) (.cells #[.int .i64 o.kind, .int .i64 o.born, .int .i64 o.stay, .int .i64 o.states, .int .i64 o.radius, .slice a n c, .string o.turns] 24)).trans (B1.out.mono (by simp)) : Below w.heap.size w w1)
    go_wp2_with fail
    refine (printLine_any o a n c _ (HR.out.below BW.out) (HP.out.below BW.out) HK.out.1 HK.out.2).mono ?_
    rintro e w2 ⟨rfl, b2⟩
    have B2 := hide' b2
    clear b2
    go_wp2
    go_ret2
    exact ⟨rfl, BW.out.trans (B2.out.mono BW.out.size)⟩
  · exact absurd hg g
end Go.Proofs.YtljdidimoagnhaaDoor

namespace Go.Proofs.YtljdidimoagnhaaDoor
open Go.RowKit
set_option linter.unusedVariables false

theorem one_string (w : World) (x : Nat) (hx : x < 10) :
    (convert 105 9 (.slice (some ⟨w.heap.size, 0, none⟩) 1 1)).run Tryd.prog (w.alloc (.cells #[.int .u8 (48 + (x : Int))] 5)) = .ok (.string ⟨#[UInt8.ofNat (48 + x)]⟩) (w.alloc (.cells #[.int .u8 (48 + (x : Int))] 5)) := by
  refine run_convert_bytes_back _ 105 9 5 ⟨w.heap.size, 0, none⟩ 1 [UInt8.ofNat (48 + x)] Tryd.underlying105 Tryd.underlying5 Tryd.underlying9 fun j hj => ?_
  have hj0 : j = 0 := by simpa using hj
  subst hj0
  show (w.alloc _).cell? ⟨w.heap.size, 0, none⟩ = _
  rw [cell_new_at]
  have h1 : (UInt8.ofNat (48 + x)).toNat = 48 + x := by simp; omega
  show some (Value.int .u8 (48 + (x : Int))) = some (.int .u8 (((UInt8.ofNat (48 + x)).toNat : Nat) : Int))
  rw [h1]
  simp
theorem one_string' (w : World) (n : Nat) :
    (convert 105 9 (.slice (some ⟨w.heap.size, 0, none⟩) 1 1)).run Tryd.prog (w.alloc (.cells #[.int .u8 (48 + (n : Int) % 10)] 5)) = .ok (.string ⟨#[UInt8.ofNat (48 + n % 10)]⟩) (w.alloc (.cells #[.int .u8 (48 + (n : Int) % 10)] 5)) := one_string w (n % 10) (by omega)
theorem cat_one (d : UInt8) (l : List UInt8) : (⟨#[d]⟩ ++ ⟨l.toArray⟩ : ByteArray) = ⟨(d :: l).toArray⟩ := by
  apply ByteArray.ext
  simp [ByteArray.data_append]

/-- What is still ahead of the digits that are written, when m is left. -/
def frontD (m : Nat) : List UInt8 := if m < 10 then [] else Lib.decDigits (m / 10)
theorem frontD_start (n : Nat) : Lib.decDigits n = frontD n ++ [UInt8.ofNat (48 + n % 10)] := by
  rw [Lib.decDigits]
  unfold frontD
  by_cases h : n < 10
  · rw [dif_pos h, if_pos h, Nat.mod_eq_of_lt h]; rfl
  · rw [dif_neg h, if_neg h]
theorem frontD_step (m : Nat) (h : 10 ≤ m) (l : List UInt8) : frontD m ++ l = frontD (m / 10) ++ (UInt8.ofNat (48 + m / 10 % 10) :: l) := by
  have e : frontD m = Lib.decDigits (m / 10) := by unfold frontD; rw [if_neg (by omega)]
  rw [e, frontD_start]
  simp

set_option maxHeartbeats 1600000 in
theorem Digits_ref (n : Nat) (w : World) (hn : n ≤ 1000000) :
    Calls Tryd.prog 84 #[.int .i64 (n : Int)] w fun e w' => e = .returned (.string ⟨(Lib.decDigits n).toArray⟩) ∧ Below w.heap.size w w' := by
  have hneg : ¬ ((n : Int) < 0) := by omega
  have c0 := one_string' w n
  obtain ⟨d, hd⟩ : ∃ d, d = UInt8.ofNat (48 + n % 10) := ⟨_, rfl⟩
  rw [← hd] at c0
  have HD := hide' hd
  clear hd
  go_enter Tryd.func84, Tryd.ntmps84
  have hlen : (Lib.decDigits n).length ≤ 21 := by
    have := Lib.itoa_length_le (n : Int) (by omega) (by omega)
    rw [Lib.itoa_nonneg] at this
    simpa using this
  have HL := hide' hlen
  clear hlen
  go_wp2
  go_loopw [0, 4] (fun nv sv wr => ∃ (m : Nat) (l : List UInt8), nv = .int .i64 (m : Int) ∧ m ≤ 1000000 ∧ sv = .string ⟨l.toArray⟩ ∧ Hid (Lib.decDigits n = frontD m ++ l) ∧ Hid (Below w.heap.size w wr)) (fun nv _ _ => (intOf nv).toNat)
  case atStart => exact ⟨n, [d], rfl, hn, rfl, hide' (by rw [frontD_start, HD.out]), hide' ((Below.refl _ _).alloc (Nat.le_refl _) _)⟩
  case round =>
    obtain ⟨m, l, rfl, hm, rfl, E, B⟩ := hrel
    have ll : l.length ≤ 21 := by
      have h1 := HL.out
      rw [E.out, List.length_append] at h1
      omega
    have m1 : ¬ (9223372036854775807 < 1 + l.length) := by omega
    by_cases c : 10 ≤ (m : Int)
    · have c1 := one_string' wr (m / 10)
      obtain ⟨d1, hd1⟩ : ∃ d1, d1 = UInt8.ofNat (48 + m / 10 % 10) := ⟨_, rfl⟩
      rw [← hd1] at c1
      have HD1 := hide' hd1
      have e1 : ((m / 10 : Nat) : Int) = (m : Int) / 10 := by simp
      rw [e1] at c1
      clear hd1 e1 c0
      go_wp2
      refine ⟨⟨m / 10, d1 :: l, by simp, by omega, ?_, hide' ?_, hide' (B.out.alloc B.out.size _)⟩, ?_⟩
      · rw [cat_one]
      · rw [E.out, frontD_step m (by omega), HD1.out]
      · simp [intOf]; omega
    · clear c0
      go_wp2
      go_ret
      have e := E.out
      unfold frontD at e
      rw [if_pos (by omega), List.nil_append] at e
      rw [e]
      exact ⟨rfl, B.out⟩
end Go.Proofs.YtljdidimoagnhaaDoor

