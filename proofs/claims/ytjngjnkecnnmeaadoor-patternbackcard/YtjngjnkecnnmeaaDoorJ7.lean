/-
  What the last text of this claim leans on, part 7: Pr7, Pr8, Pr9, Pr10, Wl1, Wl2, Wl3, Wl4, Wl5, Wm1, LawW, LawX.
-/
import Derived.Test.YtjngjnkecnnmeaaDoorJ6
import Derived.Test.YtjngjnkecnnmeaaDoorShelf
import Derived.Test.YtjngjnkecnnmeaaDoorJ1
import Derived.Test.YtjngjnkecnnmeaaDoorJ2
import Derived.Test.YtjngjnkecnnmeaaDoorJ4
import Derived.WalkSmall
import Derived.Deep.RegionWith
import Derived.Lib.ItoaLen
import Derived.Deep.RegionHeld3
import Derived.Deep.CutRange
import Derived.BigQuiet
namespace Go.Proofs.YtjngjnkecnnmeaaDoor
open Go.RowKit
set_option linter.unusedVariables false

/-- The library's table of powers reads as it is written. -/
def PowT (w : World) : Prop := Lib.TabIs Tryd.prog w "internal/strconv.uint64pow10" .u64 Lib.pow10Tab
theorem powAt : Tryd.prog.globalNamed "internal/strconv.uint64pow10" = some 1 := by kernel_rfl
theorem PowT.lt {w : World} (h : PowT w) : 1 < w.heap.size := by
  unfold PowT Lib.TabIs World.var? at h
  simp only [powAt, Option.bind_some] at h
  rcases Nat.lt_or_ge 1 w.heap.size with q | q
  · exact q
  · rw [Array.getElem?_eq_none q] at h; cases h
theorem PowT.below {w w' : World} (h : PowT w) (hb : Below w.heap.size w w') : PowT w' := var?_below hb powAt h.lt h
theorem below_grow (w : World) (k : Nat) (os : Array Obj) : Below w.heap.size w (Sort.grow (w.drewN k) os) :=
  ⟨rfl, rfl, rfl, by show w.heap.size ≤ (w.heap ++ os).size; simp, fun i hi => by show (w.heap ++ os)[i]? = w.heap[i]?; rw [Array.getElem?_append_left hi]⟩

set_option maxHeartbeats 1600000 in
theorem printLine_W (o : Out) (a : Option Addr) (n c : Nat) (w : World) (hR : ArgR w o a n c) (hP : PowT w) (h1 : o.states = 2) (h2 : o.radius = 1) (h8 : n = 8) (hb : ∀ k, k < o.table.length → 0 ≤ o.table.getD k 0 ∧ o.table.getD k 0 < 2) :
    Calls Tryd.prog 64 #[o.val (.slice a n c)] w fun e w' => e = .returned (.string (⟨#[87]⟩ ++ ⟨(Lib.itoa (tabNum o.table 8 : Int)).toArray⟩)) ∧ Below w.heap.size w w' := by
  have k1 : (o.states == 2) = true := by simp [h1]
  have k2 : (o.radius == 1) = true := by simp [h2]
  have H8 := hide' h8
  have HP := hide' hP
  have n8 : n ≤ 8 := by omega
  have hlt := tabNum_lt o.table hb 8 (by rw [← hR.len]; omega)
  clear h1 h2 h8 hP
  unfold Out.val
  go_enter Tryd.func64, Tryd.ntmps64
  go_wp2_with fail
  refine (numberOf_any o a n c _ (hR.alloc _) H8.out hb).mono ?_
  rintro e w1 ⟨rfl, rfl⟩
  go_wp2_with fail
  refine (Tryd.strconv_Itoa (tabNum o.table 8 : Int) (by omega) (by omega) _ (HP.out.below ((Below.refl _ _).alloc (Nat.le_refl _) _))).mono ?_
  rintro e w1 ⟨rfl, k, os, rfl⟩
  have B := hide' (below_grow (w.alloc (.cells #[.int .i64 o.kind, .int .i64 o.born, .int .i64 o.stay, .int .i64 o.states, .int .i64 o.radius, .slice a n c, .string o.turns] 24)) k os)
  have hl := Lib.itoa_length_le (tabNum o.table 8 : Int) (by omega) (by omega)
  go_wp2
  go_ret
  exact ⟨rfl, ((Below.refl _ _).alloc (Nat.le_refl _) _).trans (B.out.mono (by simp))⟩
end Go.Proofs.YtjngjnkecnnmeaaDoor

namespace Go.Proofs.YtjngjnkecnnmeaaDoor
open Go.RowKit
set_option linter.unusedVariables false

theorem itoaSmall (x : Int) (h0 : 0 ≤ x) (h1 : x < 100) (w : World) :
    Calls Tryd.prog 72 #[.int .i64 x] w fun e w' => e = .returned (.string ⟨(Lib.decDigits x.toNat).toArray⟩) ∧ w' = w := by
  obtain ⟨i, rfl⟩ := Int.eq_ofNat_of_zero_le h0
  exact Tryd.strconv_Itoa_small i (by omega) w
theorem decS_len (x : Int) (h0 : 0 ≤ x) (h1 : x < 100) : (Lib.decDigits x.toNat).length ≤ 21 := by
  obtain ⟨i, rfl⟩ := Int.eq_ofNat_of_zero_le h0
  have := Lib.itoa_length_le (i : Int) (by omega) (by omega)
  rw [Lib.itoa_nonneg] at this
  simpa using this

/-- The rule's copy lies at block b with these fields, and nothing older has turned. -/
def SL (w : World) (o : Out) (v : Value) (w' : World) : Prop :=
  w'.cell? ⟨w.heap.size, 3, none⟩ = some (.int .i64 o.states) ∧ w'.cell? ⟨w.heap.size, 4, none⟩ = some (.int .i64 o.radius) ∧ w'.cell? ⟨w.heap.size, 5, none⟩ = some v ∧ Hid (w.heap.size + 1 ≤ w'.heap.size ∧ Below w.heap.size w w')
theorem SL.next {w w1 w2 : World} {o : Out} {v : Value} (h : SL w o v w1) (hb : Below w1.heap.size w1 w2) : SL w o v w2 := by
  obtain ⟨h1, h2, h3, h4⟩ := h
  obtain ⟨h4, h5⟩ := h4.out
  have e : ∀ k, w2.cell? ⟨w.heap.size, k, none⟩ = w1.cell? ⟨w.heap.size, k, none⟩ := fun k =>
    World.cell?_of_block (w := w1) (a := ⟨w.heap.size, k, none⟩) (hb.block w.heap.size (by omega))
  exact ⟨(e 3).trans h1, (e 4).trans h2, (e 5).trans h3, hide' ⟨Nat.le_trans h4 hb.size, h5.trans (hb.mono (by omega))⟩⟩
theorem SL.start (w : World) (o : Out) (a : Option Addr) (n c : Nat) : SL w o (.slice a n c) ((w.alloc (.cells #[.int .i64 o.kind, .int .i64 o.born, .int .i64 o.stay, .int .i64 o.states, .int .i64 o.radius, .slice a n c, .string o.turns] 24)).drew) := by
  refine ⟨cell_all_new _ _ _ _, cell_all_new _ _ _ _, cell_all_new _ _ _ _, hide' ⟨?_, ((Below.refl _ _).alloc (Nat.le_refl _) _).drew⟩⟩
  simp

set_option maxHeartbeats 4000000 in
theorem printLine_L (o : Out) (a : Option Addr) (n c : Nat) (w : World) (hR : ArgR w o a n c) (hs0 : 0 ≤ o.states) (hs1 : o.states < 100) (hr0 : 0 ≤ o.radius) (hr1 : o.radius < 100) (hx : ((o.states == 2) && (o.radius == 1)) = false) (hn4 : n ≤ 4096) (hb : ∀ k, k < o.table.length → 0 ≤ o.table.getD k 0 ∧ o.table.getD k 0 < 4) :
    Calls Tryd.prog 64 #[o.val (.slice a n c)] w fun e w' => e = .returned (.string (((((⟨#[76, 32]⟩ ++ ⟨(Lib.decDigits o.states.toNat).toArray⟩) ++ ⟨#[32]⟩) ++ ⟨(Lib.decDigits o.radius.toNat).toArray⟩) ++ ⟨#[32]⟩) ++ ⟨((List.range n).map (stB o.table)).toArray⟩)) ∧ Below w.heap.size w w' := by
  have HR := hide' hR
  have HB := hide' hb
  have HS := hide' (itoaSmall o.states hs0 hs1)
  have HT := hide' (itoaSmall o.radius hr0 hr1)
  have l1 := decS_len o.states hs0 hs1
  have l2 := decS_len o.radius hr0 hr1
  have m1 : ¬ (9223372036854775807 < 2 + (Lib.decDigits o.states.toNat).length) := by omega
  have m2 : ¬ (9223372036854775807 < 2 + (Lib.decDigits o.states.toNat).length + 1) := by omega
  have m3 : ¬ (9223372036854775807 < 2 + (Lib.decDigits o.states.toNat).length + 1 + (Lib.decDigits o.radius.toNat).length) := by omega
  have m4 : ¬ (9223372036854775807 < 2 + (Lib.decDigits o.states.toNat).length + 1 + (Lib.decDigits o.radius.toNat).length + 1) := by omega
  have m5 : ¬ (9223372036854775807 < 2 + (Lib.decDigits o.states.toNat).length + 1 + (Lib.decDigits o.radius.toNat).length + 1 + n) := by omega
  clear hR hb hs0 hs1 hr0 hr1
  unfold Out.val
  go_enter Tryd.func64, Tryd.ntmps64
  rcases hk1 : (o.states == 2) with _ | _
  · clear hx
    go_upto_region 3 with fail
    have S0 := hide' (SL.start w o a n c)
    go_region_held3 (fun w' => w'.cell? ⟨w.heap.size, 3, none⟩ = some (.int .i64 o.states) ∧ w'.cell? ⟨w.heap.size, 4, none⟩ = some (.int .i64 o.radius) ∧ w'.cell? ⟨w.heap.size, 5, none⟩ = some (.slice a n c) ∧ Hid (w.heap.size + 1 ≤ w'.heap.size ∧ Below w.heap.size w w')) (first | exact S0.out | exact SL.next S0.out B1.out)
      (first
        | (go_at_call_of 72 (Value.int .i64 o.states); refine (HS.out _).mono ?_; rintro e w' ⟨rfl, rfl⟩)
        | (go_at_call_of 72 (Value.int .i64 o.radius); refine (HT.out _).mono ?_; rintro e w' ⟨rfl, rfl⟩)
        | (go_at_call 116; refine (statesOf_any o a n c _ (HR.out.below S0.out.2.2.2.out.2) hn4 HB.out).mono ?_; rintro e w1 ⟨rfl, hb1⟩; have B1 := hide' hb1; clear hb1))
    go_wp2
    go_ret
    exact ⟨rfl, (SL.next S0.out B1.out).2.2.2.out.2⟩
  · have k2 : (o.radius == 1) = false := by simpa [hk1] using hx
    clear hx
    go_upto_region 3 with fail
    have S0 := hide' (SL.start w o a n c)
    go_region_held3 (fun w' => w'.cell? ⟨w.heap.size, 3, none⟩ = some (.int .i64 o.states) ∧ w'.cell? ⟨w.heap.size, 4, none⟩ = some (.int .i64 o.radius) ∧ w'.cell? ⟨w.heap.size, 5, none⟩ = some (.slice a n c) ∧ Hid (w.heap.size + 1 ≤ w'.heap.size ∧ Below w.heap.size w w')) (first | exact S0.out | exact SL.next S0.out B1.out)
      (first
        | (go_at_call_of 72 (Value.int .i64 o.states); refine (HS.out _).mono ?_; rintro e w' ⟨rfl, rfl⟩)
        | (go_at_call_of 72 (Value.int .i64 o.radius); refine (HT.out _).mono ?_; rintro e w' ⟨rfl, rfl⟩)
        | (go_at_call 116; refine (statesOf_any o a n c _ (HR.out.below S0.out.2.2.2.out.2) hn4 HB.out).mono ?_; rintro e w1 ⟨rfl, hb1⟩; have B1 := hide' hb1; clear hb1))
    go_wp2
    go_ret
    exact ⟨rfl, (SL.next S0.out B1.out).2.2.2.out.2⟩
end Go.Proofs.YtjngjnkecnnmeaaDoor

namespace Go.Proofs.YtjngjnkecnnmeaaDoor
open Go.RowKit
set_option linter.unusedVariables false

theorem digitsOf_int (x : Int) (h : bitsB x = true) (w : World) :
    Calls Tryd.prog 63 #[.int .i64 x] w fun e w' => e = .returned (.string ⟨(dl x.toNat 9).toArray⟩) ∧ Below w.heap.size w w' := by
  unfold bitsB at h
  simp at h
  obtain ⟨i, rfl⟩ := Int.eq_ofNat_of_zero_le h.1
  exact digitsOf_any i w (by omega)

/-- Two fields of the rule's copy, and nothing older has turned. -/
def SB (w : World) (o : Out) (w' : World) : Prop :=
  w'.cell? ⟨w.heap.size, 1, none⟩ = some (.int .i64 o.born) ∧ w'.cell? ⟨w.heap.size, 2, none⟩ = some (.int .i64 o.stay) ∧ Hid (w.heap.size + 1 ≤ w'.heap.size ∧ Below w.heap.size w w')
theorem SB.next {w w1 w2 : World} {o : Out} (h : SB w o w1) (hb : Below w1.heap.size w1 w2) : SB w o w2 := by
  obtain ⟨h1, h2, h4⟩ := h
  obtain ⟨h4, h5⟩ := h4.out
  have e : ∀ k, w2.cell? ⟨w.heap.size, k, none⟩ = w1.cell? ⟨w.heap.size, k, none⟩ := fun k =>
    World.cell?_of_block (w := w1) (a := ⟨w.heap.size, k, none⟩) (hb.block w.heap.size (by omega))
  exact ⟨(e 1).trans h1, (e 2).trans h2, hide' ⟨Nat.le_trans h4 hb.size, h5.trans (hb.mono (by omega))⟩⟩

/-- The text of a rule that has one. -/
def lineB (o : Out) : ByteArray :=
  if (o.states == 2 && o.radius == 1) = true then ⟨#[87]⟩ ++ ⟨(Lib.itoa (tabNum o.table 8 : Int)).toArray⟩
  else ((((⟨#[76, 32]⟩ ++ ⟨(Lib.decDigits o.states.toNat).toArray⟩) ++ ⟨#[32]⟩) ++ ⟨(Lib.decDigits o.radius.toNat).toArray⟩) ++ ⟨#[32]⟩) ++ ⟨((List.range o.table.length).map (stB o.table)).toArray⟩
def lifeB (o : Out) : ByteArray := ((⟨#[66]⟩ ++ ⟨(dl o.born.toNat 9).toArray⟩) ++ ⟨#[47, 83]⟩) ++ ⟨(dl o.stay.toNat 9).toArray⟩

set_option maxHeartbeats 1600000 in
theorem Print_bad (o : Out) (a : Option Addr) (n c : Nat) (w : World) (hR : ArgR w o a n c) (hg : ¬ Good o) :
    Calls Tryd.prog 18 #[.agg #[.int .i64 o.kind, .int .i64 o.born, .int .i64 o.stay, .int .i64 o.states, .int .i64 o.radius, .slice a n c, .string o.turns]] w fun e w' => e = .returned (.tuple #[.string ⟨#[]⟩, .iface 87 (.int .i64 1)]) ∧ Below w.heap.size w w' := by
  go_enter Tryd.func18, Tryd.ntmps18
  go_wp2_with fail
  refine (Check_any o a n c _ (hR.alloc _)).mono ?_
  rintro e w1 ⟨he, b1⟩
  have B1 := hide' b1
  clear b1
  rcases he with ⟨rfl, g⟩ | ⟨rfl, g⟩
  · exact absurd g hg
  clear hg g
  go_wp2
  go_ret2
  exact ⟨rfl, ((Below.refl _ _).alloc (Nat.le_refl _) _).trans (B1.out.mono (by simp))⟩

set_option maxHeartbeats 1600000 in
theorem Print_full (o : Out) (a : Option Addr) (n c : Nat) (w : World) (hR : ArgR w o a n c) (hg : Good o) (hr : 2 < o.radius) :
    Calls Tryd.prog 18 #[.agg #[.int .i64 o.kind, .int .i64 o.born, .int .i64 o.stay, .int .i64 o.states, .int .i64 o.radius, .slice a n c, .string o.turns]] w fun e w' => e = .returned (.tuple #[.string ⟨#[]⟩, .iface 87 (.int .i64 4)]) ∧ Below w.heap.size w w' := by
  go_enter Tryd.func18, Tryd.ntmps18
  go_wp2_with fail
  refine (Check_any o a n c _ (hR.alloc _)).mono ?_
  rintro e w1 ⟨he, b1⟩
  have B1 := hide' b1
  have x4 := b1.cell (p := ⟨w.heap.size, 4, none⟩) (by simp)
  simp at x4
  clear b1
  rcases he with ⟨rfl, g⟩ | ⟨rfl, g⟩
  · clear hg g
    go_wp2
    go_ret2
    exact ⟨rfl, ((Below.refl _ _).alloc (Nat.le_refl _) _).trans (B1.out.mono (by simp))⟩
  · exact absurd hg g

set_option maxHeartbeats 1600000 in
theorem Print_turns (o : Out) (a : Option Addr) (n c : Nat) (w : World) (hR : ArgR w o a n c) (hg : Good o) (hk : o.kind = 3) (hr : o.radius ≤ 2) (ht : 2 + o.turns.size ≤ maxLen) :
    Calls Tryd.prog 18 #[.agg #[.int .i64 o.kind, .int .i64 o.born, .int .i64 o.stay, .int .i64 o.states, .int .i64 o.radius, .slice a n c, .string o.turns]] w fun e w' => e = .returned (.tuple #[.string (⟨#[84, 32]⟩ ++ o.turns), .nilIface]) ∧ Below w.heap.size w w' := by
  have k1 : (o.kind == 1) = false := by simp; omega
  have k2 : (o.kind == 2) = false := by simp; omega
  have k3 : decide (2 < o.radius) = false := by simp; omega
  have m1 : ¬ (9223372036854775807 < 2 + o.turns.size) := by unfold maxLen at ht; omega
  clear hk ht
  go_enter Tryd.func18, Tryd.ntmps18
  go_wp2_with fail
  refine (Check_any o a n c _ (hR.alloc _)).mono ?_
  rintro e w1 ⟨he, b1⟩
  have B1 := hide' b1
  have x0 := b1.cell (p := ⟨w.heap.size, 0, none⟩) (by simp)
  have x4 := b1.cell (p := ⟨w.heap.size, 4, none⟩) (by simp)
  have x6 := b1.cell (p := ⟨w.heap.size, 6, none⟩) (by simp)
  simp at x0 x4 x6
  clear b1
  rcases he with ⟨rfl, g⟩ | ⟨rfl, g⟩
  · clear hg g
    go_wp2
    go_ret2
    exact ⟨rfl, ((Below.refl _ _).alloc (Nat.le_refl _) _).trans (B1.out.mono (by simp))⟩
  · exact absurd hg g

set_option maxHeartbeats 1600000 in
theorem Print_life (o : Out) (a : Option Addr) (n c : Nat) (w : World) (hR : ArgR w o a n c) (hg : Good o) (hk : o.kind = 1) (hr : o.radius ≤ 2) (h1 : bitsB o.born = true) (h2 : bitsB o.stay = true) :
    Calls Tryd.prog 18 #[.agg #[.int .i64 o.kind, .int .i64 o.born, .int .i64 o.stay, .int .i64 o.states, .int .i64 o.radius, .slice a n c, .string o.turns]] w fun e w' => e = .returned (.tuple #[.string (((⟨#[66]⟩ ++ ⟨(dl o.born.toNat 9).toArray⟩) ++ ⟨#[47, 83]⟩) ++ ⟨(dl o.stay.toNat 9).toArray⟩), .nilIface]) ∧ Below w.heap.size w w' := by
  have k1 : (o.kind == 1) = true := by simp; omega
  have k3 : decide (2 < o.radius) = false := by simp; omega
  have H1 := hide' (digitsOf_int o.born h1)
  have H2 := hide' (digitsOf_int o.stay h2)
  have l1 := dl_len o.born.toNat 9
  have l2 := dl_len o.stay.toNat 9
  have m1 : ¬ (9223372036854775807 < 1 + (dl o.born.toNat 9).length) := by omega
  have m2 : ¬ (9223372036854775807 < 1 + (dl o.born.toNat 9).length + 2) := by omega
  have m3 : ¬ (9223372036854775807 < 1 + (dl o.born.toNat 9).length + 2 + (dl o.stay.toNat 9).length) := by omega
  clear hk h1 h2
  go_enter Tryd.func18, Tryd.ntmps18
  go_wp2_with fail
  refine (Check_any o a n c _ (hR.alloc _)).mono ?_
  rintro e w1 ⟨he, b1⟩
  have B1 := hide' b1
  have x0 := b1.cell (p := ⟨w.heap.size, 0, none⟩) (by simp)
  have x1 := b1.cell (p := ⟨w.heap.size, 1, none⟩) (by simp)
  have x2 := b1.cell (p := ⟨w.heap.size, 2, none⟩) (by simp)
  have x4 := b1.cell (p := ⟨w.heap.size, 4, none⟩) (by simp)
  have hsz := b1.size
  simp at x0 x1 x2 x4 hsz
  clear b1
  rcases he with ⟨rfl, g⟩ | ⟨rfl, g⟩
  · clear hg g
    have S0 := hide' (show SB w o w1.drew from ⟨x1, x2, hide' ⟨hsz, (((Below.refl _ _).alloc (Nat.le_refl _) _).trans (B1.out.mono (by simp))).drew⟩⟩)
    go_upto_region 8 with fail
    go_region_held3 (fun w' => w'.cell? ⟨w.heap.size, 1, none⟩ = some (.int .i64 o.born) ∧ w'.cell? ⟨w.heap.size, 2, none⟩ = some (.int .i64 o.stay) ∧ Hid (w.heap.size + 1 ≤ w'.heap.size ∧ Below w.heap.size w w'))
      (first | exact S0.out | exact SB.next S0.out B2.out | exact SB.next (SB.next S0.out B2.out) B3.out)
      (first
        | (go_at_call_of 63 (Value.int .i64 o.born); refine (H1.out _).mono ?_; rintro e w2 ⟨rfl, hb1⟩; have B2 := hide' hb1; clear hb1)
        | (go_at_call_of 63 (Value.int .i64 o.stay); refine (H2.out _).mono ?_; rintro e w3 ⟨rfl, hb1⟩; have B3 := hide' hb1; clear hb1))
    go_wp2
    go_ret2
    exact ⟨rfl, (SB.next (SB.next S0.out B2.out) B3.out).2.2.out.2⟩
  · exact absurd hg g
/-- A line rule's conditions, as the walks want them. -/
theorem lineP_parts (o : Out) (h : lineP o) (hr : o.radius ≤ 2) : 0 ≤ o.states ∧ o.states < 100 ∧ 0 ≤ o.radius ∧ o.table.length ≤ 4096 ∧ (∀ k, k < o.table.length → 0 ≤ o.table.getD k 0 ∧ o.table.getD k 0 < o.states) ∧ o.states ≤ 4 ∧ ((o.states == 2 && o.radius == 1) = true → o.table.length = 8) := by
  obtain ⟨h1, h2, h3, h4, h5, h6⟩ := h
  refine ⟨by omega, by omega, h3, by omega, fun k hk => ?_, h2, fun hx => ?_⟩
  · have := h6 k hk
    rw [List.getD_eq_getElem?_getD, List.getElem?_eq_getElem hk]
    exact this
  · simp at hx
    rw [h5, hx.1, hx.2]
    decide

theorem printLine_any (o : Out) (a : Option Addr) (n c : Nat) (w : World) (hR : ArgR w o a n c) (hP : PowT w) (h : lineP o) (hr : o.radius ≤ 2) :
    Calls Tryd.prog 64 #[.agg #[.int .i64 o.kind, .int .i64 o.born, .int .i64 o.stay, .int .i64 o.states, .int .i64 o.radius, .slice a n c, .string o.turns]] w fun e w' => e = .returned (.string (lineB o)) ∧ Below w.heap.size w w' := by
  obtain ⟨p1, p2, p3, p4, p5, p6, p7⟩ := lineP_parts o h hr
  have hl := hR.len
  rcases hx : ((o.states == 2) && (o.radius == 1)) with _ | _
  · have H := printLine_L o a n c w hR p1 p2 p3 (by omega) hx (by omega) (fun k hk => ⟨(p5 k hk).1, by have := (p5 k hk).2; omega⟩)
    unfold Out.val at H
    refine H.mono ?_
    rintro e w' ⟨rfl, hb⟩
    refine ⟨?_, hb⟩
    unfold lineB
    rw [hx, ← hl]
    rfl
  · have h8 := p7 hx
    simp at hx
    have H := printLine_W o a n c w hR hP hx.1 hx.2 (by omega) (fun k hk => ⟨(p5 k hk).1, by have := (p5 k hk).2; omega⟩)
    unfold Out.val at H
    refine H.mono ?_
    rintro e w' ⟨rfl, hb⟩
    refine ⟨?_, hb⟩
    unfold lineB
    rw [hx.1, hx.2]
    rfl

set_option maxHeartbeats 1600000 in
theorem Print_line (o : Out) (a : Option Addr) (n c : Nat) (w : World) (hR : ArgR w o a n c) (hP : PowT w) (hg : Good o) (hk : o.kind = 2) (hr : o.radius ≤ 2) (hl : lineP o) :
    Calls Tryd.prog 18 #[.agg #[.int .i64 o.kind, .int .i64 o.born, .int .i64 o.stay, .int .i64 o.states, .int .i64 o.radius, .slice a n c, .string o.turns]] w fun e w' => e = .returned (.tuple #[.string (lineB o), .nilIface]) ∧ Below w.heap.size w w' := by
  have k1 : (o.kind == 1) = false := by simp; omega
  have k2 : (o.kind == 2) = true := by simp; omega
  have k3 : decide (2 < o.radius) = false := by simp; omega
  have HR := hide' hR
  have HP := hide' hP
  have HK := hide' (And.intro hl hr)
  have A0 := hide' (hR.alloc (.cells #[.int .i64 o.kind, .int .i64 o.born, .int .i64 o.stay, .int .i64 o.states, .int .i64 o.radius, .slice a n c, .string o.turns] 24))
  clear hk hP hl
  go_enter Tryd.func18, Tryd.ntmps18
  go_wp2_with fail
  refine (Check_any o a n c _ A0.out).mono ?_
  rintro e w1 ⟨he, b1⟩
  have B1 := hide' b1
  have x0 := b1.cell (p := ⟨w.heap.size, 0, none⟩) (by simp)
  have x1 := b1.cell (p := ⟨w.heap.size, 1, none⟩) (by simp)
  have x2 := b1.cell (p := ⟨w.heap.size, 2, none⟩) (by simp)
  have x3 := b1.cell (p := ⟨w.heap.size, 3, none⟩) (by simp)
  have x4 := b1.cell (p := ⟨w.heap.size, 4, none⟩) (by simp)
  have x5 := b1.cell (p := ⟨w.heap.size, 5, none⟩) (by simp)
  have x6 := b1.cell (p := ⟨w.heap.size, 6, none⟩) (by simp)
  simp at x0 x1 x2 x3 x4 x5 x6
  clear b1
  rcases he with ⟨rfl, g⟩ | ⟨rfl, g⟩
  · clear hg g hR
    have BW := hide' (((Below.refl _ _).alloc (Nat.le_refl _) (.cells #[.int .i64 o.kind, .int .i64 o.born, .int .i64 o.stay, .int .i64 o.states, .int .i64 o.radius, .slice a n c, .string o.turns] 24)).trans (B1.out.mono (by simp)) : Below w.heap.size w w1)
    go_wp2_with fail
    refine (printLine_any o a n c _ (HR.out.below BW.out) (HP.out.below BW.out) HK.out.1 HK.out.2).mono ?_
    rintro e w2 ⟨rfl, b2⟩
    have B2 := hide' b2
    clear b2
    go_wp2
    go_ret2
    exact ⟨rfl, BW.out.trans (B2.out.mono BW.out.size)⟩
  · exact absurd hg g
end Go.Proofs.YtjngjnkecnnmeaaDoor

namespace Go.Proofs.YtjngjnkecnnmeaaDoor
open Go.RowKit
set_option linter.unusedVariables false

theorem one_string (w : World) (x : Nat) (hx : x < 10) :
    (convert 95 9 (.slice (some ⟨w.heap.size, 0, none⟩) 1 1)).run Tryd.prog (w.alloc (.cells #[.int .u8 (48 + (x : Int))] 5)) = .ok (.string ⟨#[UInt8.ofNat (48 + x)]⟩) (w.alloc (.cells #[.int .u8 (48 + (x : Int))] 5)) := by
  refine run_convert_bytes_back _ 95 9 5 ⟨w.heap.size, 0, none⟩ 1 [UInt8.ofNat (48 + x)] Tryd.underlying95 Tryd.underlying5 Tryd.underlying9 fun j hj => ?_
  have hj0 : j = 0 := by simpa using hj
  subst hj0
  show (w.alloc _).cell? ⟨w.heap.size, 0, none⟩ = _
  rw [cell_new_at]
  have h1 : (UInt8.ofNat (48 + x)).toNat = 48 + x := by simp; omega
  show some (Value.int .u8 (48 + (x : Int))) = some (.int .u8 (((UInt8.ofNat (48 + x)).toNat : Nat) : Int))
  rw [h1]
  simp
theorem one_string' (w : World) (n : Nat) :
    (convert 95 9 (.slice (some ⟨w.heap.size, 0, none⟩) 1 1)).run Tryd.prog (w.alloc (.cells #[.int .u8 (48 + (n : Int) % 10)] 5)) = .ok (.string ⟨#[UInt8.ofNat (48 + n % 10)]⟩) (w.alloc (.cells #[.int .u8 (48 + (n : Int) % 10)] 5)) := one_string w (n % 10) (by omega)
theorem cat_one (d : UInt8) (l : List UInt8) : (⟨#[d]⟩ ++ ⟨l.toArray⟩ : ByteArray) = ⟨(d :: l).toArray⟩ := by
  apply ByteArray.ext
  simp [ByteArray.data_append]

/-- What is still ahead of the digits that are written, when m is left. -/
def frontD (m : Nat) : List UInt8 := if m < 10 then [] else Lib.decDigits (m / 10)
theorem frontD_start (n : Nat) : Lib.decDigits n = frontD n ++ [UInt8.ofNat (48 + n % 10)] := by
  rw [Lib.decDigits]
  unfold frontD
  by_cases h : n < 10
  · rw [dif_pos h, if_pos h, Nat.mod_eq_of_lt h]; rfl
  · rw [dif_neg h, if_neg h]
theorem frontD_step (m : Nat) (h : 10 ≤ m) (l : List UInt8) : frontD m ++ l = frontD (m / 10) ++ (UInt8.ofNat (48 + m / 10 % 10) :: l) := by
  have e : frontD m = Lib.decDigits (m / 10) := by unfold frontD; rw [if_neg (by omega)]
  rw [e, frontD_start]
  simp

set_option maxHeartbeats 1600000 in
theorem Digits_ref (n : Nat) (w : World) (hn : n ≤ 1000000) :
    Calls Tryd.prog 66 #[.int .i64 (n : Int)] w fun e w' => e = .returned (.string ⟨(Lib.decDigits n).toArray⟩) ∧ Below w.heap.size w w' := by
  have hneg : ¬ ((n : Int) < 0) := by omega
  have c0 := one_string' w n
  obtain ⟨d, hd⟩ : ∃ d, d = UInt8.ofNat (48 + n % 10) := ⟨_, rfl⟩
  rw [← hd] at c0
  have HD := hide' hd
  clear hd
  go_enter Tryd.func66, Tryd.ntmps66
  have hlen : (Lib.decDigits n).length ≤ 21 := by
    have := Lib.itoa_length_le (n : Int) (by omega) (by omega)
    rw [Lib.itoa_nonneg] at this
    simpa using this
  have HL := hide' hlen
  clear hlen
  go_wp2
  go_loopw [0, 4] (fun nv sv wr => ∃ (m : Nat) (l : List UInt8), nv = .int .i64 (m : Int) ∧ m ≤ 1000000 ∧ sv = .string ⟨l.toArray⟩ ∧ Hid (Lib.decDigits n = frontD m ++ l) ∧ Hid (Below w.heap.size w wr)) (fun nv _ _ => (intOf nv).toNat)
  case atStart => exact ⟨n, [d], rfl, hn, rfl, hide' (by rw [frontD_start, HD.out]), hide' ((Below.refl _ _).alloc (Nat.le_refl _) _)⟩
  case round =>
    obtain ⟨m, l, rfl, hm, rfl, E, B⟩ := hrel
    have ll : l.length ≤ 21 := by
      have h1 := HL.out
      rw [E.out, List.length_append] at h1
      omega
    have m1 : ¬ (9223372036854775807 < 1 + l.length) := by omega
    by_cases c : 10 ≤ (m : Int)
    · have c1 := one_string' wr (m / 10)
      obtain ⟨d1, hd1⟩ : ∃ d1, d1 = UInt8.ofNat (48 + m / 10 % 10) := ⟨_, rfl⟩
      rw [← hd1] at c1
      have HD1 := hide' hd1
      have e1 : ((m / 10 : Nat) : Int) = (m : Int) / 10 := by simp
      rw [e1] at c1
      clear hd1 e1 c0
      go_wp2
      refine ⟨⟨m / 10, d1 :: l, by simp, by omega, ?_, hide' ?_, hide' (B.out.alloc B.out.size _)⟩, ?_⟩
      · rw [cat_one]
      · rw [E.out, frontD_step m (by omega), HD1.out]
      · simp [intOf]; omega
    · clear c0
      go_wp2
      go_ret
      have e := E.out
      unfold frontD at e
      rw [if_pos (by omega), List.nil_append] at e
      rw [e]
      exact ⟨rfl, B.out⟩
end Go.Proofs.YtjngjnkecnnmeaaDoor

namespace Go.Proofs.YtjngjnkecnnmeaaDoor
open Go.RowKit
set_option linter.unusedVariables false

def timesB (n : Nat) (t : UInt8) : List UInt8 := if n = 0 then [] else if n = 1 then [t] else Lib.decDigits n ++ [t]
theorem dec_len (n : Nat) (hn : n ≤ 1000000) : (Lib.decDigits n).length ≤ 21 := by
  have := Lib.itoa_length_le (n : Int) (by omega) (by omega)
  rw [Lib.itoa_nonneg] at this
  simpa using this
theorem times_len (n : Nat) (t : UInt8) (hn : n ≤ 1000000) : (timesB n t).length ≤ 22 := by
  have := dec_len n hn
  unfold timesB
  split
  · simp
  · split <;> simp; omega
theorem itoaN (n : Nat) (hn : n ≤ 1000000) (w : World) (hP : PowT w) :
    Calls Tryd.prog 72 #[.int .i64 (n : Int)] w fun e w' => e = .returned (.string ⟨(Lib.decDigits n).toArray⟩) ∧ Below w.heap.size w w' := by
  refine (Tryd.strconv_Itoa (n : Int) (by omega) (by omega) w hP).mono ?_
  rintro e w' ⟨rfl, k, os, rfl⟩
  refine ⟨?_, below_grow w k os⟩
  rw [Lib.itoa_nonneg]
theorem DW.keep {w2 w w' : World} {l : List UInt8} (h : DW w2 w l) (hb : Below w.heap.size w w') : DW w2 w' l := by
  have hk : ∀ p, Lib.BuilderAt 102 5 w2.heap.size w2.heap.size p (Lib.byteCells l) w → Lib.BuilderAt 102 5 w2.heap.size w2.heap.size p (Lib.byteCells l) w' := by
    intro p q
    have hlt := q.lt
    obtain ⟨hB, v, hbk, hown, hne⟩ := q
    have hor : v.ownBlock = none ∨ v.ownBlock ≠ none := Decidable.em _
    exact ⟨hB, v, (hb.block _ hlt).trans hbk, hown.kept (row := none) ⟨hb.os, hb.tape, hb.output, hb.size, fun k hk _ => hb.block k hk⟩ hor, hne⟩
  exact ⟨h.bld.elim (fun q => Or.inl (hk _ q)) (fun q => Or.inr (hk _ q)), h.below.trans (hb.mono h.below.size)⟩
theorem strCells_bytes (l : List UInt8) : Lib.strCells ⟨l.toArray⟩ = Lib.byteCells l := rfl

theorem tagOf_0 (w : World) : Calls Tryd.prog 121 #[.int .i64 0] w fun e w' => e = .returned (.int .u8 98) ∧ w' = w := by
  go_enter Tryd.func121, Tryd.ntmps121
  go_wp2
  go_ret
  exact ⟨rfl, rfl⟩
theorem tagOf_1 (w : World) : Calls Tryd.prog 121 #[.int .i64 1] w fun e w' => e = .returned (.int .u8 111) ∧ w' = w := by
  go_enter Tryd.func121, Tryd.ntmps121
  go_wp2
  go_ret
  exact ⟨rfl, rfl⟩

set_option maxHeartbeats 1600000 in
set_option maxRecDepth 100000 in
theorem writeRun_any (w2 : World) (n : Nat) (t : UInt8) (l : List UInt8) (w : World) (h : DW w2 w l) (hP : PowT w2) (hn : n ≤ 100) (hl : l.length ≤ 900000) :
    Calls Tryd.prog 74 #[.pointer (some ⟨w2.heap.size, 0, none⟩), .int .i64 (n : Int), .int .u8 (t.toNat : Int)] w fun e w' => e = .returned (.tuple #[]) ∧ DW w2 w' (l ++ timesB n t) := by
  have HH := hide' h
  have HP := hide' hP
  have hs := h.below.size
  have hbl : (Lib.byteCells l).length ≤ 1000000 := by rw [Lib.byteCells_length]; omega
  clear h hP
  by_cases n0 : n = 0
  · have E := hide' (show timesB n t = [] by unfold timesB; rw [if_pos n0])
    have k0 : ((n : Int) == 0) = true := by simp; omega
    clear n0
    go_enter Tryd.func74, Tryd.ntmps74
    go_wp2
    refine bodyPost_ret (v := .tuple #[]) (by simp [results, Tryd.results74, go_sem]) rfl ?_
    rw [E.out, List.append_nil]
    exact ⟨rfl, HH.out⟩
  · have k0 : ((n : Int) == 0) = false := by simp; omega
    by_cases n1 : n = 1
    · have E := hide' (show timesB n t = [t] by unfold timesB; rw [if_neg n0, if_pos n1])
      have k1 : ¬ (1 : Int) < (n : Int) := by omega
      clear n0 n1
      go_enter Tryd.func74, Tryd.ntmps74
      go_wp2_with fail
      refine (writeByte_any _ _ _ _ _ HH.out.bld hs hbl).mono ?_
      rintro e w4 ⟨rfl, u4, b4⟩
      have D4 := hide' (HH.out.next (m := [t]) u4 b4)
      clear u4 b4
      go_wp2
      go_end0
      rw [E.out]
      exact ⟨rfl, D4.out⟩
    · have E := hide' (show timesB n t = Lib.decDigits n ++ [t] by unfold timesB; rw [if_neg n0, if_neg n1])
      have k1 : (1 : Int) < (n : Int) := by omega
      have hd := dec_len n (by omega)
      clear n0 n1
      go_enter Tryd.func74, Tryd.ntmps74
      go_wp2_with fail
      refine (itoaN n (by omega) _ (HP.out.below HH.out.below)).mono ?_
      rintro e w3 ⟨rfl, b3⟩
      have D3 := hide' (HH.out.keep b3)
      have hs3 := D3.out.below.size
      clear b3
      go_wp2_with fail
      refine (writeString_any _ _ _ _ _ D3.out.bld hs3 hbl (by show (Lib.decDigits n).toArray.size ≤ _; simp; omega)).mono ?_
      rintro e w4 ⟨rfl, u4, b4⟩
      have D4 := hide' (D3.out.next (m := Lib.decDigits n) u4 b4)
      have hs4 := D4.out.below.size
      have hbl4 : (Lib.byteCells (l ++ Lib.decDigits n)).length ≤ 1000000 := by rw [Lib.byteCells_length, List.length_append]; omega
      clear u4 b4
      go_wp2_with fail
      refine (writeByte_any _ _ _ _ _ D4.out.bld hs4 hbl4).mono ?_
      rintro e w5 ⟨rfl, u5, b5⟩
      have D5 := hide' (D4.out.next (m := [t]) u5 b5)
      clear u5 b5
      go_wp2
      go_end0
      rw [E.out, ← List.append_assoc]
      exact ⟨rfl, D5.out⟩

set_option maxHeartbeats 1600000 in
set_option maxRecDepth 100000 in
theorem refTimes (n : Nat) (t : UInt8) (w : World) (hn : n ≤ 100) :
    Calls Tryd.prog 82 #[.int .i64 (n : Int), .string ⟨#[t]⟩] w fun e w' => e = .returned (.string ⟨(timesB n t).toArray⟩) ∧ Below w.heap.size w w' := by
  by_cases n0 : n = 0
  · have E := hide' (show timesB n t = [] by unfold timesB; rw [if_pos n0])
    have k0 : ((n : Int) == 0) = true := by simp; omega
    clear n0
    go_enter Tryd.func82, Tryd.ntmps82
    go_wp2
    go_ret
    rw [E.out]
    exact ⟨rfl, Below.refl _ _⟩
  · have k0 : ((n : Int) == 0) = false := by simp; omega
    by_cases n1 : n = 1
    · have E := hide' (show timesB n t = [t] by unfold timesB; rw [if_neg n0, if_pos n1])
      have k1 : ((n : Int) == 1) = true := by simp; omega
      clear n0 n1
      go_enter Tryd.func82, Tryd.ntmps82
      go_wp2
      go_ret
      rw [E.out]
      exact ⟨rfl, Below.refl _ _⟩
    · have E := hide' (show timesB n t = Lib.decDigits n ++ [t] by unfold timesB; rw [if_neg n0, if_neg n1])
      have k1 : ((n : Int) == 1) = false := by simp; omega
      have hd := dec_len n (by omega)
      clear n0 n1
      go_enter Tryd.func82, Tryd.ntmps82
      go_wp2_with fail
      refine (Digits_ref n _ (by omega)).mono ?_
      rintro e w3 ⟨rfl, b3⟩
      have B3 := hide' b3
      have hsz : ¬ (9223372036854775807 < (Lib.decDigits n).length + 1) := by omega
      clear b3
      go_wp2
      go_ret
      refine ⟨?_, B3.out⟩
      rw [E.out]
      rw [show (⟨(Lib.decDigits n).toArray⟩ : ByteArray) ++ ⟨#[t]⟩ = ⟨(Lib.decDigits n ++ [t]).toArray⟩ from ByteArray.mk_append_mk _ _]
      rfl
end Go.Proofs.YtjngjnkecnnmeaaDoor

namespace Go.Proofs.YtjngjnkecnnmeaaDoor
open Go.RowKit
set_option linter.unusedVariables false

/-- How many of a row's first n cells are left when the 0s at its end are left out. -/
def endF (f : Nat → Int) : Nat → Nat
  | 0 => 0
  | k + 1 => if f k = 0 then endF f k else k + 1
/-- Where the cells of one kind end, from x on, at most k of them. -/
def cntF (f : Nat → Int) (c : Int) : Nat → Nat → Nat
  | 0, x => x
  | k + 1, x => if f x = c then cntF f c k (x + 1) else x
def nextF (f : Nat → Int) (m x : Nat) : Nat := cntF f (f x) (m - x) x
def tagB (c : Int) : UInt8 := if c = 1 then 111 else 98
def runsF (f : Nat → Int) (m : Nat) : Nat → Nat → List UInt8
  | 0, _ => []
  | k + 1, x => if x < m then timesB (nextF f m x - x) (tagB (f x)) ++ runsF f m k (nextF f m x) else []
/-- The rows above y: their bytes, and the last row that was written. -/
def rowsF (W : Nat) (xs : List Int) : Nat → List UInt8 × Nat
  | 0 => ([], 0)
  | y + 1 =>
    let f := fun i => xs.getD (y * W + i) 0
    let m := endF f W
    if m = 0 then rowsF W xs y else ((rowsF W xs y).1 ++ timesB (y - (rowsF W xs y).2) 36 ++ runsF f m m 0, y)
def runsB (p : Pat) : List UInt8 := [120, 32, 61, 32] ++ Lib.decDigits p.W ++ [44, 32, 121, 32, 61, 32] ++ Lib.decDigits p.H ++ [10] ++ (rowsF p.W p.xs p.H).1 ++ [33, 10]

theorem endF_le (f : Nat → Int) : ∀ n, endF f n ≤ n := by
  intro n
  induction n with
  | zero => simp [endF]
  | succ n ih => rw [endF]; split <;> omega
theorem endF_zero {f : Nat → Int} {k : Nat} (h : f k = 0) : endF f (k + 1) = endF f k := by rw [endF, if_pos h]
theorem endF_one {f : Nat → Int} {k : Nat} (h : ¬ f k = 0) : endF f (k + 1) = k + 1 := by rw [endF, if_neg h]
theorem cntF_le (f : Nat → Int) (c : Int) : ∀ k x, x ≤ cntF f c k x ∧ cntF f c k x ≤ x + k := by
  intro k
  induction k with
  | zero => intro x; simp [cntF]
  | succ k ih =>
    intro x
    rw [cntF]
    split
    · have := ih (x + 1); omega
    · omega
theorem nextF_step {f : Nat → Int} {m x : Nat} (h : x < m) : nextF f m x = cntF f (f x) (m - (x + 1)) (x + 1) := by
  unfold nextF
  rw [show m - x = (m - (x + 1)) + 1 by omega, cntF, if_pos rfl]
theorem nextF_lt {f : Nat → Int} {m x : Nat} (h : x < m) : x < nextF f m x ∧ nextF f m x ≤ m := by
  rw [nextF_step h]
  have := cntF_le f (f x) (m - (x + 1)) (x + 1)
  omega
theorem runsF_fuel (f : Nat → Int) (m : Nat) : ∀ k j x, m - x ≤ k → m - x ≤ j → runsF f m k x = runsF f m j x := by
  intro k
  induction k with
  | zero =>
    intro j x hk hj
    cases j with
    | zero => rfl
    | succ j => rw [runsF, runsF, if_neg (by omega)]
  | succ k ih =>
    intro j x hk hj
    cases j with
    | zero => rw [runsF, runsF, if_neg (by omega)]
    | succ j =>
      rw [runsF, runsF]
      by_cases h : x < m
      · rw [if_pos h, if_pos h]
        have := nextF_lt (f := f) h
        rw [ih j _ (by omega) (by omega)]
      · rw [if_neg h, if_neg h]
theorem runsF_step {f : Nat → Int} {m x : Nat} (h : x < m) : runsF f m (m - x) x = timesB (nextF f m x - x) (tagB (f x)) ++ runsF f m (m - nextF f m x) (nextF f m x) := by
  have := nextF_lt (f := f) h
  rw [show m - x = (m - x - 1) + 1 by omega, runsF, if_pos h]
  rw [runsF_fuel f m (m - x - 1) (m - nextF f m x) _ (by omega) (by omega)]
theorem runsF_end {f : Nat → Int} {m : Nat} : runsF f m (m - m) m = [] := by rw [Nat.sub_self]; rfl
theorem runsF_len (f : Nat → Int) (m : Nat) (hm : m ≤ 1000) : ∀ k x, (runsF f m k x).length ≤ 22 * (m - x) := by
  intro k
  induction k with
  | zero => intro x; simp [runsF]
  | succ k ih =>
    intro x
    rw [runsF]
    split
    · rename_i h
      have h1 := nextF_lt (f := f) h
      have h2 := ih (nextF f m x)
      have h3 := times_len (nextF f m x - x) (tagB (f x)) (by omega)
      rw [List.length_append]
      omega
    · simp

set_option maxHeartbeats 1600000 in
set_option maxRecDepth 100000 in
theorem withoutEnd_some (f : Nat → Int) (g off n c : Nat) (w : World) (hn : n ≤ 1000) (hnc : n ≤ c) (hc0 : 0 < c) (hcm : c ≤ maxLen) (hcell : ∀ i, i < n → w.cell? ⟨g, off + i, none⟩ = some (.int .i64 (f i))) :
    Calls Tryd.prog 73 #[.slice (some ⟨g, off, none⟩) n c] w fun e w' => e = .returned (.slice (some ⟨g, off, none⟩) (endF f n) c) ∧ w' = w := by
  have HC := hide' hcell
  have c1 : ¬ c = 0 := by omega
  clear hcell
  go_enter Tryd.func73, Tryd.ntmps73
  go_wp2
  go_loop [0] (fun v => ∃ k : Nat, v = .slice (some ⟨g, off, none⟩) k c ∧ k ≤ n ∧ endF f k = endF f n) (fun v => match v with | .slice _ k _ => k | _ => 0)
  case atStart => exact ⟨n, rfl, Nat.le_refl _, rfl⟩
  case round =>
    obtain ⟨k, rfl, hk, he⟩ := hrel
    have HE := hide' he
    clear he
    cases k with
    | zero =>
      go_wp2
      go_ret
      rw [← HE.out]
      exact ⟨rfl, rfl⟩
    | succ k =>
      have hcc := HC.out k (by omega)
      obtain ⟨z, hz⟩ : ∃ z, f k = z := ⟨_, rfl⟩
      rw [hz] at hcc
      have HZ := hide' hz
      have d1 : k + 1 ≤ c := by omega
      have q1 : ((k + 1 : Nat) : Int) - 1 = (k : Int) := by omega
      clear hz
      by_cases z0 : z = 0
      · have m0 : (z == 0) = true := by simp [z0]
        have E := hide' (show endF f k = endF f n by rw [← HE.out, endF_zero (by rw [HZ.out]; exact z0)])
        clear z0
        go_wp2
        exact ⟨⟨k, rfl, by omega, E.out⟩, Nat.lt_succ_self _⟩
      · have m0 : (z == 0) = false := by simp [z0]
        have E := hide' (show endF f n = k + 1 by rw [← HE.out, endF_one (by rw [HZ.out]; exact z0)])
        clear z0
        go_wp2
        go_ret
        rw [E.out]
        exact ⟨rfl, rfl⟩

set_option maxHeartbeats 1600000 in
theorem withoutEnd_none (a : Option Addr) (c : Nat) (w : World) :
    Calls Tryd.prog 73 #[.slice a 0 c] w fun e w' => e = .returned (.slice a 0 c) ∧ w' = w := by
  go_enter Tryd.func73, Tryd.ntmps73
  go_wp2
  go_loop [0] (fun v => v = .slice a 0 c) (fun _ => 0)
  case atStart => exact rfl
  case round =>
    obtain rfl := hrel
    go_wp2
    go_ret
    exact ⟨rfl, rfl⟩
end Go.Proofs.YtjngjnkecnnmeaaDoor

namespace Go.Proofs.YtjngjnkecnnmeaaDoor
open Go.RowKit
set_option linter.unusedVariables false

theorem tagOf_any (z : Int) (hz : z = 0 ∨ z = 1) (w : World) : Calls Tryd.prog 121 #[.int .i64 z] w fun e w' => e = .returned (.int .u8 ((tagB z).toNat : Int)) ∧ w' = w := by
  rcases hz with rfl | rfl
  · exact tagOf_0 w
  · exact tagOf_1 w
theorem cnt_yes {f : Nat → Int} {z : Int} {m y : Nat} (h : y < m) (e : f y = z) : cntF f z (m - y) y = cntF f z (m - (y + 1)) (y + 1) := by
  rw [show m - y = (m - (y + 1)) + 1 by omega, cntF, if_pos e]
theorem cnt_no {f : Nat → Int} {z : Int} {m y : Nat} (h : y < m) (e : ¬ f y = z) : cntF f z (m - y) y = y := by
  rw [show m - y = (m - (y + 1)) + 1 by omega, cntF, if_neg e]
theorem DW.drewN {w2 w : World} {l : List UInt8} (h : DW w2 w l) (j : Nat) : DW w2 (w.drewN j) l := h.keep ⟨rfl, rfl, rfl, Nat.le_refl _, fun _ _ => rfl⟩

set_option maxHeartbeats 1600000 in
set_option maxRecDepth 100000 in
theorem writeRow_any (w2 : World) (f : Nat → Int) (g off m c : Nat) (l : List UInt8) (w : World) (h : DW w2 w l) (hP : PowT w2) (hm : m ≤ 100) (hmc : m ≤ c) (hcm : c ≤ maxLen) (hl : l.length ≤ 800000) (hg : g < w2.heap.size)
    (hcell : ∀ i, i < m → w2.cell? ⟨g, off + i, none⟩ = some (.int .i64 (f i))) (hbit : ∀ i, i < m → f i = 0 ∨ f i = 1) :
    Calls Tryd.prog 75 #[.pointer (some ⟨w2.heap.size, 0, none⟩), .slice (some ⟨g, off, none⟩) m c] w fun e w' => e = .returned (.tuple #[]) ∧ DW w2 w' (l ++ runsF f m m 0) := by
  have HH := hide' h
  have HP := hide' hP
  have HC := hide' hcell
  have HB := hide' hbit
  have S0 := hide' (show l ++ runsF f m m 0 = l ++ runsF f m (m - 0) 0 from rfl)
  clear h hP hcell hbit
  go_enter Tryd.func75, Tryd.ntmps75
  go_wp2
  go_loopw [1] (fun v wr => ∃ (x : Nat) (a : Option Addr) (cc : Nat) (l' : List UInt8), v = .slice a (m - x) cc ∧ x ≤ m ∧ Hid (x < m → a = some ⟨g, off + x, none⟩ ∧ cc = c - x) ∧ l'.length ≤ 800000 + 22 * x ∧ DW w2 wr l' ∧ l' ++ runsF f m (m - x) x = l ++ runsF f m m 0) (fun v _ => match v with | .slice _ k _ => k | _ => 0)
  case atStart => exact ⟨0, _, _, l, rfl, Nat.zero_le _, hide' (fun _ => ⟨rfl, rfl⟩), by omega, HH.out, rfl⟩
  case round =>
    obtain ⟨x, a, cc, l', rfl, hx, HA, hl', dw, hr⟩ := hrel
    have DD := hide' dw
    have HR := hide' hr
    clear dw hr
    by_cases d : x < m
    · obtain ⟨rfl, rfl⟩ := HA.out d
      obtain ⟨M, hM⟩ : ∃ M, m - x = M := ⟨_, rfl⟩
      obtain ⟨C, hC⟩ : ∃ C, c - x = C := ⟨_, rfl⟩
      obtain ⟨O, hO⟩ : ∃ O, off + x = O := ⟨_, rfl⟩
      rw [hM, hC, hO]
      have hM0 : 0 < M := by omega
      have hMm : x + M = m := by omega
      have hCc : x + C = c := by omega
      have CE := hide' (show ∀ i, x + i < m → wr.cell? ⟨g, O + i, none⟩ = some (.int .i64 (f (x + i))) from fun i hi => by
        rw [← hO, Nat.add_assoc]
        exact (World.cell?_of_block (w := w2) (a := ⟨g, off + (x + i), none⟩) (DD.out.below.block g hg)).trans (HC.out _ hi))
      have HO := hide' hO
      have z0 := CE.out 0 d
      rw [Nat.add_zero, Nat.add_zero] at z0
      have HZ := hide' (HB.out x d)
      obtain ⟨z, hz⟩ : ∃ z, f x = z := ⟨_, rfl⟩
      rw [hz] at z0 HZ
      have HF := hide' hz
      have NS := hide' (show nextF f m x = cntF f z (m - (x + 1)) (x + 1) by rw [nextF_step d, hz])
      have hd : (0 : Int) < (M : Int) := by omega
      clear hz hM hC hO HA
      go_wp2
      go_loopw [4] (fun tv wx => ∃ t j : Nat, tv = .int .i64 (t : Int) ∧ 1 ≤ t ∧ t ≤ M ∧ wx = wr.drewN j ∧ Hid (cntF f z (m - (x + t)) (x + t) = nextF f m x)) (fun tv _ => M - (intOf tv).toNat)
      case atStart => exact ⟨1, 0, rfl, by omega, by omega, rfl, hide' NS.out.symm⟩
      case round =>
        obtain ⟨t, j, rfl, ht1, htM, rfl, HT⟩ := hrel
        by_cases e : (t : Int) < (M : Int)
        · have hcc := CE.out t (by omega)
          obtain ⟨u, hu⟩ : ∃ u, f (x + t) = u := ⟨_, rfl⟩
          rw [hu] at hcc
          have hdd : decide ((t : Int) < (M : Int)) = true := by simp [e]
          by_cases uz : u = z
          · have m1 : (u == z) = true := by simp [uz]
            have STEP := hide' (show cntF f z (m - (x + (t + 1))) (x + (t + 1)) = nextF f m x by have := cnt_yes (f := f) (z := z) (m := m) (y := x + t) (by omega) (by rw [hu]; exact uz); rw [← HT.out, this]; rfl)
            clear uz hu
            go_wp2
            go_quiet (fail)
            go_wp2
            refine ⟨⟨t + 1, _, by go_num, by omega, by omega, rfl, hide' STEP.out⟩, by simp [intOf]; omega⟩
          · have m1 : (u == z) = false := by simp [uz]
            have HN := hide' (show x + t = nextF f m x by rw [← HT.out, cnt_no (by omega) (by rw [hu]; exact uz)])
            clear uz hu
            go_wp2
            go_quiet (fail)
            go_wp2_with fail
            refine (tagOf_any z HZ.out _).mono ?_
            rintro e w3 ⟨rfl, rfl⟩
            go_wp2_with fail
            refine (writeRun_any w2 t (tagB z) l' _ (DD.out.drewN _) HP.out (by omega) (by omega)).mono ?_
            rintro e w4 ⟨rfl, d4⟩
            have D4 := hide' d4
            have hT := times_len t (tagB z) (by omega)
            have NX := hide' (show l' ++ timesB t (tagB z) ++ runsF f m (m - (x + t)) (x + t) = l ++ runsF f m m 0 by rw [← HR.out, runsF_step d, ← HN.out, HF.out, Nat.add_sub_cancel_left, List.append_assoc])
            have hTM : t ≤ M := by omega
            have hTC : t ≤ C := by omega
            have hMC : M ≤ C := by omega
            clear d4
            go_wp2
            refine ⟨⟨x + t, some ⟨g, O + t, none⟩, C - t, l' ++ timesB t (tagB z), ?_, by omega, hide' (fun _ => ⟨?_, ?_⟩), ?_, D4.out, NX.out⟩, ?_⟩
            · rw [show m - (x + t) = M - t by omega]
            · rw [← HO.out, Nat.add_assoc]
            · omega
            · rw [List.length_append]; omega
            · show M - t < M
              omega
        · have hdd : decide ((t : Int) < (M : Int)) = false := by simp; omega
          have HN := hide' (show x + t = nextF f m x by rw [← HT.out, show x + t = m by omega, Nat.sub_self]; rfl)
          have hd2 : decide (t < M) = false := by simp; omega
          have htM2 : t = M := by omega
          have HTM := hide' htM2
          clear e htM2
          go_wp2
          go_quiet (fail)
          go_wp2_with fail
          refine (tagOf_any z HZ.out _).mono ?_
          rintro e w3 ⟨rfl, rfl⟩
          go_wp2_with fail
          refine (writeRun_any w2 t (tagB z) l' _ (DD.out.drewN _) HP.out (by omega) (by omega)).mono ?_
          rintro e w4 ⟨rfl, d4⟩
          have D4 := hide' d4
          have hT := times_len t (tagB z) (by omega)
          have NX := hide' (show l' ++ timesB t (tagB z) ++ runsF f m (m - (x + t)) (x + t) = l ++ runsF f m m 0 by rw [← HR.out, runsF_step d, ← HN.out, HF.out, Nat.add_sub_cancel_left, List.append_assoc])
          have hTM : t ≤ M := by omega
          have hTC : t ≤ C := by omega
          have hMC : M ≤ C := by omega
          clear d4
          go_wp2
          refine ⟨⟨x + t, (if C = t then some ⟨g, O, none⟩ else some ⟨g, O + t, none⟩), C - t, l' ++ timesB t (tagB z), ?_, by omega, hide' (fun h => absurd h (by have := HTM.out; omega)), ?_, D4.out, NX.out⟩, ?_⟩
          · rw [show m - (x + t) = M - t by omega]
          · rw [List.length_append]; omega
          · show M - t < M
            omega
    · have X := hide' (show x = m by omega)
      have d' : m - x = 0 := by omega
      have NX := hide' (show l' = l ++ runsF f m m 0 by rw [← HR.out, X.out, runsF_end, List.append_nil])
      rw [d']
      clear d'
      go_wp2
      go_end0
      rw [← NX.out]
      exact ⟨rfl, DD.out⟩
end Go.Proofs.YtjngjnkecnnmeaaDoor

namespace Go.Proofs.YtjngjnkecnnmeaaDoor
open Go.RowKit
set_option linter.unusedVariables false

set_option maxRecDepth 100000 in
set_option maxHeartbeats 800000 in
theorem pRuns_bad (W H : Int) (xs : List Int) (a : Option Addr) (n c : Nat) (w : World) (hP : ArgP w xs a n c) (hs : shapeF W H xs ≠ 0) :
    Calls Tryd.prog 28 #[.agg #[.int .i64 W, .int .i64 H, .slice a n c]] w fun e w' => e = .returned (.tuple #[.string ⟨#[]⟩, .iface 87 (.int .i64 (shapeF W H xs : Int))]) ∧ Below w.heap.size w w' := by
  have AP0 := hide' (hP.alloc (.cells #[.int .i64 W, .int .i64 H, .slice a n c] 51))
  obtain ⟨f, hf⟩ : ∃ f, shapeF W H xs = f := ⟨_, rfl⟩
  rw [hf] at hs ⊢
  have HF := hide' hf
  have ER := hide' (show errOf f = .iface 87 (.int .i64 (f : Int)) by unfold errOf; rw [if_neg hs])
  clear hP hf hs
  go_enter Tryd.func28, Tryd.ntmps28
  go_wp2_with fail
  refine (Check_P W H xs a n c _ AP0.out).mono ?_
  rw [HF.out, ER.out]
  rintro e w2 ⟨rfl, b2⟩
  have BB := hide' (show Below w.heap.size w w2 from ((Below.refl _ _).alloc (Nat.le_refl _) _).trans (b2.mono (by simp only [World.size_alloc]; omega)))
  clear b2
  go_wp2
  go_ret2
  exact ⟨rfl, BB.out⟩

/-- The first line. -/
def hdrB (W H : Nat) : List UInt8 := [120, 32, 61, 32] ++ Lib.decDigits W ++ [44, 32, 121, 32, 61, 32] ++ Lib.decDigits H ++ [10]
theorem hdr_str (W H : Nat) : ((((⟨#[120, 32, 61, 32]⟩ : ByteArray) ++ ⟨(Lib.decDigits W).toArray⟩) ++ ⟨#[44, 32, 121, 32, 61, 32]⟩) ++ ⟨(Lib.decDigits H).toArray⟩) ++ ⟨#[10]⟩ = ⟨(hdrB W H).toArray⟩ := by
  rw [show (⟨#[120, 32, 61, 32]⟩ : ByteArray) = ⟨([120, 32, 61, 32] : List UInt8).toArray⟩ from rfl, show (⟨#[44, 32, 121, 32, 61, 32]⟩ : ByteArray) = ⟨([44, 32, 121, 32, 61, 32] : List UInt8).toArray⟩ from rfl, show (⟨#[10]⟩ : ByteArray) = ⟨([10] : List UInt8).toArray⟩ from rfl]
  rw [ByteArray.mk_append_mk, ByteArray.mk_append_mk, ByteArray.mk_append_mk, ByteArray.mk_append_mk]
  rfl
theorem hdr_len (W H : Nat) (h1 : W ≤ 100) (h2 : H ≤ 100) : (hdrB W H).length ≤ 60 := by
  have := dec_len W (by omega)
  have := dec_len H (by omega)
  simp [hdrB]
  omega
def SR (w w2 : World) (W H : Nat) (w' : World) : Prop :=
  w'.cell? ⟨w.heap.size, 0, none⟩ = some (.int .i64 (W : Int)) ∧ w'.cell? ⟨w.heap.size, 1, none⟩ = some (.int .i64 (H : Int)) ∧ Hid (Below w2.heap.size w2 w')
theorem SR.mk {w w2 : World} {W H : Nat} {v : Value} (h : TB w.heap.size (.int .i64 (W : Int)) (.int .i64 (H : Int)) v w2) {w' : World} {l : List UInt8} (d : DW w2 w' l) : SR w w2 W H w' := by
  obtain ⟨c0, c1, -, -⟩ := h.next d.below
  exact ⟨c0, c1, hide' d.below⟩
theorem SR.mkd {w w2 : World} {W H : Nat} {v : Value} (h : TB w.heap.size (.int .i64 (W : Int)) (.int .i64 (H : Int)) v w2) {w' : World} {l : List UInt8} (d : DW w2 w' l) : SR w w2 W H w'.drew := SR.mk h (w' := w'.drew) ⟨d.bld, d.below.drew⟩
theorem DW.drew {w2 w' : World} {l : List UInt8} (d : DW w2 w' l) : DW w2 w'.drew l := ⟨d.bld, d.below.drew⟩

theorem rowsF_le (W : Nat) (xs : List Int) (hW : W ≤ 100) : ∀ y, (rowsF W xs y).2 ≤ y ∧ (y ≤ 100 → (rowsF W xs y).1.length ≤ 2300 * y) := by
  intro y
  induction y with
  | zero => simp [rowsF]
  | succ y ih =>
    rw [rowsF]
    split
    · exact ⟨by omega, fun h => by have := ih.2 (by omega); omega⟩
    · refine ⟨Nat.le_succ y, fun h => ?_⟩
      have h1 := ih.2 (by omega)
      have h2 := times_len (y - (rowsF W xs y).2) 36 (by omega)
      have h3 := endF_le (fun i => xs.getD (y * W + i) 0) W
      have h4 := runsF_len (fun i => xs.getD (y * W + i) 0) (endF (fun i => xs.getD (y * W + i) 0) W) (by omega) (endF (fun i => xs.getD (y * W + i) 0) W) 0
      rw [List.length_append, List.length_append]
      omega
theorem rowsF_no {W : Nat} {xs : List Int} {y : Nat} (h : endF (fun i => xs.getD (y * W + i) 0) W = 0) : rowsF W xs (y + 1) = rowsF W xs y := by
  rw [rowsF, if_pos h]
theorem rowsF_yes {W m : Nat} {xs : List Int} {y : Nat} {f : Nat → Int} (hf : f = fun i => xs.getD (y * W + i) 0) (h : endF f W = m) (h0 : m ≠ 0) : rowsF W xs (y + 1) = ((rowsF W xs y).1 ++ timesB (y - (rowsF W xs y).2) 36 ++ runsF f m m 0, y) := by
  subst hf
  rw [rowsF, if_neg (by rw [h]; exact h0), h]

set_option maxRecDepth 100000 in
set_option maxHeartbeats 2000000 in
theorem pRuns_full (W H : Nat) (xs : List Int) (ga off n c : Nat) (w : World) (hP : ArgP w xs (some ⟨ga, off, none⟩) n c) (hT : PowT w) (hc : n ≤ c) (hcm : c ≤ maxLen) (lW : W ≤ 100) (lH : H ≤ 100) (hs : shapeF W H xs = 0) (hn : n = W * H) (hW : 0 < W) :
    Calls Tryd.prog 28 #[.agg #[.int .i64 (W : Int), .int .i64 (H : Int), .slice (some ⟨ga, off, none⟩) n c]] w fun e w' => e = .returned (.tuple #[.string ⟨(runsB ⟨W, H, xs⟩).toArray⟩, .nilIface]) ∧ Below w.heap.size w w' := by
  have AP0 := hide' (hP.alloc (.cells #[.int .i64 (W : Int), .int .i64 (H : Int), .slice (some ⟨ga, off, none⟩) n c] 51))
  have BX := hide' (TB.new w (.int .i64 (W : Int)) (.int .i64 (H : Int)) (.slice (some ⟨ga, off, none⟩) n c) 51)
  have HL := hide' hP.len
  have HN := hide' hn
  have HS := hide' hs
  have HT := hide' hT
  have hN4 : n ≤ 10000 := by rw [hn]; exact Nat.mul_le_mul lW lH
  clear hP hn hs hT
  go_enter Tryd.func28, Tryd.ntmps28
  go_wp2_with fail
  refine (Check_P W H xs (some ⟨ga, off, none⟩) n c _ AP0.out).mono ?_
  rw [HS.out, show errOf 0 = .nilIface from rfl]
  rintro e w2 ⟨rfl, b2⟩
  have hz2 := b2.size
  simp only [World.size_alloc] at hz2
  have BX2 := hide' (BX.out.next b2)
  have AP2 := hide' (AP0.out.below b2)
  have BB := hide' (show Below w.heap.size w w2 from ((Below.refl _ _).alloc (Nat.le_refl _) _).trans (b2.mono (by simp only [World.size_alloc]; omega)))
  have PT := hide' (HT.out.below (show Below w.heap.size w w2 from BB.out))
  have D0 := hide' (DW.start w2)
  have e1 := dec_len W (by omega)
  have e2 := dec_len H (by omega)
  have m1 : ¬ (9223372036854775807 < 4 + (Lib.decDigits W).length) := by omega
  have m2 : ¬ (9223372036854775807 < 4 + (Lib.decDigits W).length + 6) := by omega
  have m3 : ¬ (9223372036854775807 < 4 + (Lib.decDigits W).length + 6 + (Lib.decDigits H).length) := by omega
  have m4 : ¬ (9223372036854775807 < 4 + (Lib.decDigits W).length + 6 + (Lib.decDigits H).length + 1) := by omega
  clear b2
  go_upto_region 5 with fail
  go_region_held3 (fun w' => w'.cell? ⟨w.heap.size, 0, none⟩ = some (.int .i64 (W : Int)) ∧ w'.cell? ⟨w.heap.size, 1, none⟩ = some (.int .i64 (H : Int)) ∧ Hid (Below w2.heap.size w2 w'))
    (first | (show SR w w2 W H _; with_reducible exact SR.mk BX2.out D5.out) | (show SR w w2 W H _; with_reducible exact SR.mk BX2.out D4.out) | (show SR w w2 W H _; with_reducible exact SR.mk BX2.out D3.out) | (show SR w w2 W H _; with_reducible exact SR.mkd BX2.out D0.out))
    (first
      | (go_at_call_of 72 (Value.int .i64 (W : Int)); refine (itoaN W (by omega) _ (PT.out.below D0.out.drew.below)).mono ?_; rintro e w3 ⟨rfl, b3⟩; have D3 := hide' (D0.out.drew.keep b3); clear b3)
      | (go_at_call_of 72 (Value.int .i64 (H : Int)); refine (itoaN H (by omega) _ (PT.out.below D3.out.below)).mono ?_; rintro e w4 ⟨rfl, b4⟩; have D4 := hide' (D3.out.keep b4); clear b4)
      | (go_at_call 71; refine (writeString_any _ _ _ _ _ D4.out.bld D4.out.below.size (by simp [Lib.byteCells]) (by rw [hdr_str]; show (hdrB W H).toArray.size ≤ _; rw [List.size_toArray]; exact Nat.le_trans (hdr_len W H lW lH) (by decide))).mono ?_; rintro e w5 ⟨rfl, u5, b5⟩; rw [hdr_str] at u5; have D5 := hide' (D4.out.next (m := hdrB W H) u5 b5); clear u5 b5))
  obtain ⟨x0, x1, x2, -⟩ := BX2.out.next D5.out.below
  rw [List.nil_append] at D5
  have D6 := hide' (show DW w2 w5 (hdrB W H ++ (rowsF W xs 0).1) by rw [show (rowsF W xs 0).1 = [] from rfl, List.append_nil]; exact D5.out)
  go_wp2
  clear x0 x1 x2
  go_loopw [6, 27] (fun dv yv wr => ∃ y d : Nat, yv = .int .i64 (y : Int) ∧ dv = .int .i64 (d : Int) ∧ y ≤ H ∧ Hid (d = (rowsF W xs y).2) ∧ DW w2 wr (hdrB W H ++ (rowsF W xs y).1)) (fun _ yv _ => H - (intOf yv).toNat)
  case atStart => exact ⟨0, 0, rfl, rfl, by omega, hide' rfl, D6.out⟩
  case round =>
    obtain ⟨y, dd, rfl, rfl, hy, HD, dw⟩ := hrel
    have DD := hide' dw
    obtain ⟨x0, x1, x2, -⟩ := BX2.out.next dw.below
    have hln : (hdrB W H ++ (rowsF W xs y).1).length ≤ 240000 := by
      have h1 := hdr_len W H lW lH
      have h2 := (rowsF_le W xs lW y).2 (by omega)
      rw [List.length_append]
      omega
    have hdy : dd ≤ y := by rw [HD.out]; exact (rowsF_le W xs lW y).1
    clear dw D6 D5 D4 D3 D0
    by_cases d : (y : Int) < (H : Int)
    · obtain ⟨P, hPe⟩ : ∃ P, y * W = P := ⟨_, rfl⟩
      obtain ⟨R, hRe⟩ : ∃ R, (y + 1) * W = R := ⟨_, rfl⟩
      have q1 : (y : Int) * (W : Int) = (P : Int) := by rw [← hPe]; simp
      have q2 : ((y : Int) + 1) * (W : Int) = (R : Int) := by rw [← hRe]; simp
      have hRn : R ≤ n := by rw [← hRe, HN.out, Nat.mul_comm W H]; exact Nat.mul_le_mul_right W (by omega)
      have hPR : R = P + W := by rw [← hRe, ← hPe, Nat.add_mul, Nat.one_mul]
      have hRP : R - P = W := by omega
      have HPR := hide' hRP
      have g1 : P ≤ R := by omega
      have g2 : R ≤ c := by omega
      have g3 : ¬ c = P := by omega
      have g4 : P + W ≤ n := by omega
      obtain ⟨f, hf⟩ : ∃ f : Nat → Int, f = fun i => xs.getD (y * W + i) 0 := ⟨_, rfl⟩
      have hfx : ∀ i, i < W → ∃ h : P + i < xs.length, f i = xs[P + i] := fun i hi => by
        have hk : P + i < xs.length := by rw [← HL.out]; omega
        exact ⟨hk, by rw [hf, hPe]; simp [List.getD, hk]⟩
      have FC := hide' (show ∀ i, i < W → w2.cell? ⟨ga, off + P + i, none⟩ = some (.int .i64 (f i)) from fun i hi => by
        obtain ⟨hk, e⟩ := hfx i hi
        obtain ⟨ga', off', ee, -, hcc⟩ := AP2.out.cells (P + i) hk
        injection ee with ee
        injection ee with e1 e2
        subst e1 e2
        rw [Nat.add_assoc, hcc, e])
      have FB := hide' (show ∀ i, i < W → f i = 0 ∨ f i = 1 from fun i hi => by
        obtain ⟨hk, e⟩ := hfx i hi
        rw [e]
        exact shape_bits HS.out (P + i) hk)
      have HF := hide' hf
      have hga : ga < w2.heap.size := by
        obtain ⟨ga', off', ee, hgg, -⟩ := AP2.out.cells 0 (by rw [← HL.out]; omega)
        injection ee with ee
        injection ee with e1 e2
        omega
      have hle := endF_le f W
      have FCr := hide' (show ∀ i, i < R - P → wr.cell? ⟨ga, off + P + i, none⟩ = some (.int .i64 (f i)) from fun i hi => (World.cell?_of_block (w := w2) (a := ⟨ga, off + P + i, none⟩) (DD.out.below.block ga hga)).trans (FC.out i (by omega)))
      clear hPR hPe hRe hfx hf hRP
      go_wp2_with fail
      refine (withoutEnd_some f ga (off + P) (R - P) (c - P) _ (by have := HPR.out; omega) (by omega) (by omega) (by omega) FCr.out).mono ?_
      rw [HPR.out]
      obtain ⟨m, hm⟩ : ∃ m, endF f W = m := ⟨_, rfl⟩
      have HM := hide' hm
      rw [hm] at hle ⊢
      rintro e w6 ⟨rfl, rfl⟩
      clear hm
      by_cases m0 : m = 0
      · have k0 : ¬ (0 : Int) < (m : Int) := by omega
        have RN := hide' (show rowsF W xs (y + 1) = rowsF W xs y from rowsF_no (by rw [← HF.out, HM.out]; exact m0))
        clear m0
        go_wp2
        refine ⟨⟨y + 1, dd, by go_num, rfl, by omega, hide' (by rw [RN.out]; exact HD.out), ?_⟩, by simp [intOf]; omega⟩
        rw [RN.out]
        exact DD.out
      · have k0 : (0 : Int) < (m : Int) := by omega
        have RN := hide' (rowsF_yes HF.out HM.out m0)
        obtain ⟨D, hDe⟩ : ∃ D, D = y - dd := ⟨_, rfl⟩
        have q5 : (y : Int) - (dd : Int) = (D : Int) := by omega
        have HDe := hide' hDe
        have hD100 : D ≤ 100 := by omega
        clear m0 hDe
        go_wp2_with fail
        refine (writeRun_any w2 D 36 _ _ DD.out PT.out hD100 (by omega)).mono ?_
        rintro e w7 ⟨rfl, d7⟩
        have D7 := hide' d7
        have hl7 := times_len D 36 (by omega)
        clear d7
        go_wp2_with fail
        refine (writeRow_any w2 f ga (off + P) m (c - P) _ _ D7.out PT.out (by omega) (by omega) (by omega) (by rw [List.length_append]; omega) hga (fun i hi => FC.out i (by omega)) (fun i hi => FB.out i (by omega))).mono ?_
        rintro e w8 ⟨rfl, d8⟩
        have D8 := hide' d8
        clear d8
        go_wp2
        refine ⟨⟨y + 1, y, by go_num, rfl, by omega, hide' (by rw [RN.out]), ?_⟩, by simp [intOf]; omega⟩
        rw [RN.out]
        dsimp only
        have hh := D8.out
        rw [HDe.out, HD.out, List.append_assoc, List.append_assoc] at hh
        rw [List.append_assoc]
        exact hh
    · have Y := hide' (show y = H by omega)
      have hsy := DD.out.below.size
      go_wp2_with fail
      refine (writeString_any _ _ _ _ _ DD.out.bld hsy (by rw [Lib.byteCells_length]; omega) (by decide)).mono ?_
      rintro e w6 ⟨rfl, u6, b6⟩
      have D6 := hide' (DD.out.next (m := [33, 10]) u6 b6)
      have hs6 := D6.out.below.size
      clear u6 b6
      go_wp2_with fail
      refine (Tryd.bldString_any _ _ _ _ D6.out.bld hs6).mono ?_
      rintro e w7 ⟨rfl, b7⟩
      have B7 := hide' (BB.out.trans ((D6.out.below.trans b7).mono (by omega)))
      clear b7
      go_wp2
      go_ret2
      have RB := hide' (show runsB ⟨W, H, xs⟩ = hdrB W H ++ ((rowsF W xs H).1 ++ [33, 10]) by rw [← List.append_assoc]; rfl)
      exact ⟨by rw [Y.out, RB.out]; rfl, B7.out⟩
end Go.Proofs.YtjngjnkecnnmeaaDoor

namespace Go.Proofs.YtjngjnkecnnmeaaDoor
open Go.RowKit
set_option linter.unusedVariables false

set_option maxRecDepth 100000 in
set_option maxHeartbeats 2000000 in
theorem pRuns_thin0 (W H : Nat) (xs : List Int) (a : Option Addr) (n c : Nat) (w : World) (hP : ArgP w xs a n 0) (hT : PowT w) (lW : W ≤ 100) (lH : H ≤ 100) (hs : shapeF W H xs = 0) (hn : n = W * H) (h0 : n = 0) :
    Calls Tryd.prog 28 #[.agg #[.int .i64 (W : Int), .int .i64 (H : Int), .slice a n 0]] w fun e w' => e = .returned (.tuple #[.string ⟨(runsB ⟨W, H, xs⟩).toArray⟩, .nilIface]) ∧ Below w.heap.size w w' := by
  have AP0 := hide' (hP.alloc (.cells #[.int .i64 (W : Int), .int .i64 (H : Int), .slice a n 0] 51))
  have BX := hide' (TB.new w (.int .i64 (W : Int)) (.int .i64 (H : Int)) (.slice a n 0) 51)
  have HL := hide' hP.len
  have HN := hide' hn
  have H0 := hide' h0
  have HS := hide' hs
  have HT := hide' hT
  have hN4 : n ≤ 10000 := by rw [hn]; exact Nat.mul_le_mul lW lH
  clear hP hn hs hT h0
  go_enter Tryd.func28, Tryd.ntmps28
  go_wp2_with fail
  refine (Check_P W H xs a n 0 _ AP0.out).mono ?_
  rw [HS.out, show errOf 0 = .nilIface from rfl]
  rintro e w2 ⟨rfl, b2⟩
  have hz2 := b2.size
  simp only [World.size_alloc] at hz2
  have BX2 := hide' (BX.out.next b2)
  have AP2 := hide' (AP0.out.below b2)
  have BB := hide' (show Below w.heap.size w w2 from ((Below.refl _ _).alloc (Nat.le_refl _) _).trans (b2.mono (by simp only [World.size_alloc]; omega)))
  have PT := hide' (HT.out.below (show Below w.heap.size w w2 from BB.out))
  have D0 := hide' (DW.start w2)
  have e1 := dec_len W (by omega)
  have e2 := dec_len H (by omega)
  have m1 : ¬ (9223372036854775807 < 4 + (Lib.decDigits W).length) := by omega
  have m2 : ¬ (9223372036854775807 < 4 + (Lib.decDigits W).length + 6) := by omega
  have m3 : ¬ (9223372036854775807 < 4 + (Lib.decDigits W).length + 6 + (Lib.decDigits H).length) := by omega
  have m4 : ¬ (9223372036854775807 < 4 + (Lib.decDigits W).length + 6 + (Lib.decDigits H).length + 1) := by omega
  clear b2
  go_upto_region 5 with fail
  go_region_held3 (fun w' => w'.cell? ⟨w.heap.size, 0, none⟩ = some (.int .i64 (W : Int)) ∧ w'.cell? ⟨w.heap.size, 1, none⟩ = some (.int .i64 (H : Int)) ∧ Hid (Below w2.heap.size w2 w'))
    (first | (show SR w w2 W H _; with_reducible exact SR.mk BX2.out D5.out) | (show SR w w2 W H _; with_reducible exact SR.mk BX2.out D4.out) | (show SR w w2 W H _; with_reducible exact SR.mk BX2.out D3.out) | (show SR w w2 W H _; with_reducible exact SR.mkd BX2.out D0.out))
    (first
      | (go_at_call_of 72 (Value.int .i64 (W : Int)); refine (itoaN W (by omega) _ (PT.out.below D0.out.drew.below)).mono ?_; rintro e w3 ⟨rfl, b3⟩; have D3 := hide' (D0.out.drew.keep b3); clear b3)
      | (go_at_call_of 72 (Value.int .i64 (H : Int)); refine (itoaN H (by omega) _ (PT.out.below D3.out.below)).mono ?_; rintro e w4 ⟨rfl, b4⟩; have D4 := hide' (D3.out.keep b4); clear b4)
      | (go_at_call 71; refine (writeString_any _ _ _ _ _ D4.out.bld D4.out.below.size (by simp [Lib.byteCells]) (by rw [hdr_str]; show (hdrB W H).toArray.size ≤ _; rw [List.size_toArray]; exact Nat.le_trans (hdr_len W H lW lH) (by decide))).mono ?_; rintro e w5 ⟨rfl, u5, b5⟩; rw [hdr_str] at u5; have D5 := hide' (D4.out.next (m := hdrB W H) u5 b5); clear u5 b5))
  obtain ⟨x0, x1, x2, -⟩ := BX2.out.next D5.out.below
  rw [List.nil_append] at D5
  have D6 := hide' (show DW w2 w5 (hdrB W H ++ (rowsF W xs 0).1) by rw [show (rowsF W xs 0).1 = [] from rfl, List.append_nil]; exact D5.out)
  go_wp2
  clear x0 x1 x2
  go_loopw [6, 27] (fun dv yv wr => ∃ y d : Nat, yv = .int .i64 (y : Int) ∧ dv = .int .i64 (d : Int) ∧ y ≤ H ∧ Hid (d = (rowsF W xs y).2) ∧ DW w2 wr (hdrB W H ++ (rowsF W xs y).1)) (fun _ yv _ => H - (intOf yv).toNat)
  case atStart => exact ⟨0, 0, rfl, rfl, by omega, hide' rfl, D6.out⟩
  case round =>
    obtain ⟨y, dd, rfl, rfl, hy, HD, dw⟩ := hrel
    have DD := hide' dw
    obtain ⟨x0, x1, x2, -⟩ := BX2.out.next dw.below
    have hln : (hdrB W H ++ (rowsF W xs y).1).length ≤ 240000 := by
      have h1 := hdr_len W H lW lH
      have h2 := (rowsF_le W xs lW y).2 (by omega)
      rw [List.length_append]
      omega
    have hdy : dd ≤ y := by rw [HD.out]; exact (rowsF_le W xs lW y).1
    clear dw D6 D5 D4 D3 D0
    by_cases d : (y : Int) < (H : Int)
    · have W0 : W = 0 := by
        have hz : W * H = 0 := by rw [← HN.out]; exact H0.out
        rcases Nat.mul_eq_zero.1 hz with h | h
        · exact h
        · omega
      have q1 : (y : Int) * (W : Int) = 0 := by rw [W0]; simp
      have q2 : ((y : Int) + 1) * (W : Int) = 0 := by rw [W0]; simp
      have RN := hide' (show rowsF W xs (y + 1) = rowsF W xs y from rowsF_no (by rw [W0]; rfl))
      clear W0
      go_wp2_with fail
      refine (withoutEnd_none _ _ _).mono ?_
      rintro e w6 ⟨rfl, rfl⟩
      go_wp2
      refine ⟨⟨y + 1, dd, by go_num, rfl, by omega, hide' (by rw [RN.out]; exact HD.out), ?_⟩, by simp [intOf]; omega⟩
      rw [RN.out]
      exact DD.out
    · have Y := hide' (show y = H by omega)
      have hsy := DD.out.below.size
      go_wp2_with fail
      refine (writeString_any _ _ _ _ _ DD.out.bld hsy (by rw [Lib.byteCells_length]; omega) (by decide)).mono ?_
      rintro e w6 ⟨rfl, u6, b6⟩
      have D6 := hide' (DD.out.next (m := [33, 10]) u6 b6)
      have hs6 := D6.out.below.size
      clear u6 b6
      go_wp2_with fail
      refine (Tryd.bldString_any _ _ _ _ D6.out.bld hs6).mono ?_
      rintro e w7 ⟨rfl, b7⟩
      have B7 := hide' (BB.out.trans ((D6.out.below.trans b7).mono (by omega)))
      clear b7
      go_wp2
      go_ret2
      have RB := hide' (show runsB ⟨W, H, xs⟩ = hdrB W H ++ ((rowsF W xs H).1 ++ [33, 10]) by rw [← List.append_assoc]; rfl)
      exact ⟨by rw [Y.out, RB.out]; rfl, B7.out⟩

set_option maxRecDepth 100000 in
set_option maxHeartbeats 2000000 in
theorem pRuns_thin1 (W H : Nat) (xs : List Int) (a : Option Addr) (n c : Nat) (w : World) (hP : ArgP w xs a n (c + 1)) (hT : PowT w) (lW : W ≤ 100) (lH : H ≤ 100) (hs : shapeF W H xs = 0) (hn : n = W * H) (h0 : n = 0) :
    Calls Tryd.prog 28 #[.agg #[.int .i64 (W : Int), .int .i64 (H : Int), .slice a n (c + 1)]] w fun e w' => e = .returned (.tuple #[.string ⟨(runsB ⟨W, H, xs⟩).toArray⟩, .nilIface]) ∧ Below w.heap.size w w' := by
  have AP0 := hide' (hP.alloc (.cells #[.int .i64 (W : Int), .int .i64 (H : Int), .slice a n (c + 1)] 51))
  have BX := hide' (TB.new w (.int .i64 (W : Int)) (.int .i64 (H : Int)) (.slice a n (c + 1)) 51)
  have HL := hide' hP.len
  have HN := hide' hn
  have H0 := hide' h0
  have HS := hide' hs
  have HT := hide' hT
  have hN4 : n ≤ 10000 := by rw [hn]; exact Nat.mul_le_mul lW lH
  clear hP hn hs hT h0
  go_enter Tryd.func28, Tryd.ntmps28
  go_wp2_with fail
  refine (Check_P W H xs a n (c + 1) _ AP0.out).mono ?_
  rw [HS.out, show errOf 0 = .nilIface from rfl]
  rintro e w2 ⟨rfl, b2⟩
  have hz2 := b2.size
  simp only [World.size_alloc] at hz2
  have BX2 := hide' (BX.out.next b2)
  have AP2 := hide' (AP0.out.below b2)
  have BB := hide' (show Below w.heap.size w w2 from ((Below.refl _ _).alloc (Nat.le_refl _) _).trans (b2.mono (by simp only [World.size_alloc]; omega)))
  have PT := hide' (HT.out.below (show Below w.heap.size w w2 from BB.out))
  have D0 := hide' (DW.start w2)
  have e1 := dec_len W (by omega)
  have e2 := dec_len H (by omega)
  have m1 : ¬ (9223372036854775807 < 4 + (Lib.decDigits W).length) := by omega
  have m2 : ¬ (9223372036854775807 < 4 + (Lib.decDigits W).length + 6) := by omega
  have m3 : ¬ (9223372036854775807 < 4 + (Lib.decDigits W).length + 6 + (Lib.decDigits H).length) := by omega
  have m4 : ¬ (9223372036854775807 < 4 + (Lib.decDigits W).length + 6 + (Lib.decDigits H).length + 1) := by omega
  clear b2
  go_upto_region 5 with fail
  go_region_held3 (fun w' => w'.cell? ⟨w.heap.size, 0, none⟩ = some (.int .i64 (W : Int)) ∧ w'.cell? ⟨w.heap.size, 1, none⟩ = some (.int .i64 (H : Int)) ∧ Hid (Below w2.heap.size w2 w'))
    (first | (show SR w w2 W H _; with_reducible exact SR.mk BX2.out D5.out) | (show SR w w2 W H _; with_reducible exact SR.mk BX2.out D4.out) | (show SR w w2 W H _; with_reducible exact SR.mk BX2.out D3.out) | (show SR w w2 W H _; with_reducible exact SR.mkd BX2.out D0.out))
    (first
      | (go_at_call_of 72 (Value.int .i64 (W : Int)); refine (itoaN W (by omega) _ (PT.out.below D0.out.drew.below)).mono ?_; rintro e w3 ⟨rfl, b3⟩; have D3 := hide' (D0.out.drew.keep b3); clear b3)
      | (go_at_call_of 72 (Value.int .i64 (H : Int)); refine (itoaN H (by omega) _ (PT.out.below D3.out.below)).mono ?_; rintro e w4 ⟨rfl, b4⟩; have D4 := hide' (D3.out.keep b4); clear b4)
      | (go_at_call 71; refine (writeString_any _ _ _ _ _ D4.out.bld D4.out.below.size (by simp [Lib.byteCells]) (by rw [hdr_str]; show (hdrB W H).toArray.size ≤ _; rw [List.size_toArray]; exact Nat.le_trans (hdr_len W H lW lH) (by decide))).mono ?_; rintro e w5 ⟨rfl, u5, b5⟩; rw [hdr_str] at u5; have D5 := hide' (D4.out.next (m := hdrB W H) u5 b5); clear u5 b5))
  obtain ⟨x0, x1, x2, -⟩ := BX2.out.next D5.out.below
  rw [List.nil_append] at D5
  have D6 := hide' (show DW w2 w5 (hdrB W H ++ (rowsF W xs 0).1) by rw [show (rowsF W xs 0).1 = [] from rfl, List.append_nil]; exact D5.out)
  go_wp2
  clear x0 x1 x2
  go_loopw [6, 27] (fun dv yv wr => ∃ y d : Nat, yv = .int .i64 (y : Int) ∧ dv = .int .i64 (d : Int) ∧ y ≤ H ∧ Hid (d = (rowsF W xs y).2) ∧ DW w2 wr (hdrB W H ++ (rowsF W xs y).1)) (fun _ yv _ => H - (intOf yv).toNat)
  case atStart => exact ⟨0, 0, rfl, rfl, by omega, hide' rfl, D6.out⟩
  case round =>
    obtain ⟨y, dd, rfl, rfl, hy, HD, dw⟩ := hrel
    have DD := hide' dw
    obtain ⟨x0, x1, x2, -⟩ := BX2.out.next dw.below
    have hln : (hdrB W H ++ (rowsF W xs y).1).length ≤ 240000 := by
      have h1 := hdr_len W H lW lH
      have h2 := (rowsF_le W xs lW y).2 (by omega)
      rw [List.length_append]
      omega
    have hdy : dd ≤ y := by rw [HD.out]; exact (rowsF_le W xs lW y).1
    clear dw D6 D5 D4 D3 D0
    by_cases d : (y : Int) < (H : Int)
    · have W0 : W = 0 := by
        have hz : W * H = 0 := by rw [← HN.out]; exact H0.out
        rcases Nat.mul_eq_zero.1 hz with h | h
        · exact h
        · omega
      have q1 : (y : Int) * (W : Int) = 0 := by rw [W0]; simp
      have q2 : ((y : Int) + 1) * (W : Int) = 0 := by rw [W0]; simp
      have RN := hide' (show rowsF W xs (y + 1) = rowsF W xs y from rowsF_no (by rw [W0]; rfl))
      clear W0
      go_wp2_with fail
      refine (withoutEnd_none _ _ _).mono ?_
      rintro e w6 ⟨rfl, rfl⟩
      go_wp2
      refine ⟨⟨y + 1, dd, by go_num, rfl, by omega, hide' (by rw [RN.out]; exact HD.out), ?_⟩, by simp [intOf]; omega⟩
      rw [RN.out]
      exact DD.out
    · have Y := hide' (show y = H by omega)
      have hsy := DD.out.below.size
      go_wp2_with fail
      refine (writeString_any _ _ _ _ _ DD.out.bld hsy (by rw [Lib.byteCells_length]; omega) (by decide)).mono ?_
      rintro e w6 ⟨rfl, u6, b6⟩
      have D6 := hide' (DD.out.next (m := [33, 10]) u6 b6)
      have hs6 := D6.out.below.size
      clear u6 b6
      go_wp2_with fail
      refine (Tryd.bldString_any _ _ _ _ D6.out.bld hs6).mono ?_
      rintro e w7 ⟨rfl, b7⟩
      have B7 := hide' (BB.out.trans ((D6.out.below.trans b7).mono (by omega)))
      clear b7
      go_wp2
      go_ret2
      have RB := hide' (show runsB ⟨W, H, xs⟩ = hdrB W H ++ ((rowsF W xs H).1 ++ [33, 10]) by rw [← List.append_assoc]; rfl)
      exact ⟨by rw [Y.out, RB.out]; rfl, B7.out⟩

theorem pRuns (W H : Nat) (xs : List Int) (a : Option Addr) (n c : Nat) (w : World) (hP : ArgP w xs a n c) (hT : PowT w) (hc : n ≤ c) (hcm : c ≤ maxLen) (lW : W ≤ 100) (lH : H ≤ 100) (hs : shapeF W H xs = 0) (hn : n = W * H) :
    Calls Tryd.prog 28 #[.agg #[.int .i64 (W : Int), .int .i64 (H : Int), .slice a n c]] w fun e w' => e = .returned (.tuple #[.string ⟨(runsB ⟨W, H, xs⟩).toArray⟩, .nilIface]) ∧ Below w.heap.size w w' := by
  by_cases h0 : n = 0
  · cases c with
    | zero => exact pRuns_thin0 W H xs a n 0 w hP hT lW lH hs hn h0
    | succ c => exact pRuns_thin1 W H xs a n c w hP hT lW lH hs hn h0
  · obtain ⟨ga, off, rfl, -⟩ := hP.cells 0 (by rw [← hP.len]; omega)
    refine pRuns_full W H xs ga off n c w hP hT hc hcm lW lH hs hn ?_
    rcases Nat.eq_zero_or_pos W with e | e
    · rw [e, Nat.zero_mul] at hn
      exact absurd hn h0
    · exact e
end Go.Proofs.YtjngjnkecnnmeaaDoor

namespace Go.Proofs.YtjngjnkecnnmeaaDoor
open Go.RowKit
set_option linter.unusedVariables false

theorem str_app (l m : List UInt8) : (⟨l.toArray⟩ : ByteArray) ++ ⟨m.toArray⟩ = ⟨(l ++ m).toArray⟩ := ByteArray.mk_append_mk _ _

set_option maxRecDepth 100000 in
set_option maxHeartbeats 3200000 in
theorem refRuns (W H : Nat) (xs : List Int) (a : Option Addr) (n c : Nat) (w : World) (hP : ArgP w xs a n c) (lW : W ≤ 100) (lH : H ≤ 100) (hn : n = W * H) :
    Calls Tryd.prog 34 #[.agg #[.int .i64 (W : Int), .int .i64 (H : Int), .slice a n c]] w fun e w' => e = .returned (.string ⟨(runsB ⟨W, H, xs⟩).toArray⟩) ∧ Below w.heap.size w w' := by
  obtain ⟨w1, hw1⟩ : ∃ w1, w.alloc (.cells #[.int .i64 (W : Int), .int .i64 (H : Int), .slice a n c] 51) = w1 := ⟨_, rfl⟩
  have AP := hide' (show ArgP w1 xs a n c by rw [← hw1]; exact hP.alloc _)
  have BX := hide' (show TB w.heap.size (.int .i64 (W : Int)) (.int .i64 (H : Int)) (.slice a n c) w1 by rw [← hw1]; exact TB.new w _ _ _ _)
  have BB := hide' (show Below w.heap.size w w1 by rw [← hw1]; exact (Below.refl _ _).alloc (Nat.le_refl _) _)
  have hs1 := BB.out.size
  have HL := hide' hP.len
  have HN := hide' hn
  have hN4 : n ≤ 10000 := by rw [hn]; exact Nat.mul_le_mul lW lH
  have e1 := dec_len W (by omega)
  have e2 := dec_len H (by omega)
  have m1 : ¬ (9223372036854775807 < 4 + (Lib.decDigits W).length) := by omega
  have m2 : ¬ (9223372036854775807 < 4 + (Lib.decDigits W).length + 6) := by omega
  have m3 : ¬ (9223372036854775807 < 4 + (Lib.decDigits W).length + 6 + (Lib.decDigits H).length) := by omega
  have m4 : ¬ (9223372036854775807 < 4 + (Lib.decDigits W).length + 6 + (Lib.decDigits H).length + 1) := by omega
  clear hP hn
  obtain ⟨x0, x1, x2, -⟩ := BX.out
  go_enter Tryd.func34, Tryd.ntmps34
  go_wp2_with fail
  refine (Digits_ref W _ (by omega)).mono ?_
  rintro e w3 ⟨rfl, b3⟩
  obtain ⟨y0, y1, y2, -⟩ := BX.out.next b3
  have B3 := hide' b3
  clear b3 x0 x1 x2 hw1
  go_wp2_with fail
  refine (Digits_ref H _ (by omega)).mono ?_
  rintro e w4 ⟨rfl, b4⟩
  obtain ⟨x0, x1, x2, -⟩ := (BX.out.next B3.out).next b4
  have B4 := hide' (B3.out.trans (b4.mono B3.out.size))
  clear b4 y0 y1 y2
  go_wp2
  clear x0 x1 x2
  go_loopw [5, 6, 7] (fun sv rv yv wr => ∃ (y r : Nat) (l : List UInt8), yv = .int .i64 (y : Int) ∧ rv = .int .i64 (r : Int) ∧ sv = .string ⟨l.toArray⟩ ∧ y ≤ H ∧ Hid (r = y - (rowsF W xs y).2) ∧ Hid (l = hdrB W H ++ (rowsF W xs y).1) ∧ Below w1.heap.size w1 wr) (fun _ _ yv _ => H - (intOf yv).toNat)
  case atStart => exact ⟨0, 0, hdrB W H, rfl, rfl, by rw [← hdr_str], by omega, hide' rfl, hide' (by rw [show (rowsF W xs 0).1 = [] from rfl, List.append_nil]), B4.out⟩
  case round =>
    obtain ⟨y, r, l, rfl, rfl, rfl, hy, HRr, HLl, bw⟩ := hrel
    have BW := hide' bw
    obtain ⟨x0, x1, x2, -⟩ := BX.out.next bw
    have hln : l.length ≤ 240000 := by
      have h1 := hdr_len W H lW lH
      have h2 := (rowsF_le W xs lW y).2 (by omega)
      rw [HLl.out, List.length_append]
      omega
    have hry : r ≤ y := by rw [HRr.out]; omega
    clear bw B4 B3
    by_cases d : (y : Int) < (H : Int)
    · obtain ⟨P, hPe⟩ : ∃ P, y * W = P := ⟨_, rfl⟩
      have q1 : (y : Int) * (W : Int) = (P : Int) := by rw [← hPe]; simp
      have hPn : P + W ≤ n := by rw [← hPe, HN.out, Nat.mul_comm W H, ← Nat.succ_mul]; exact Nat.mul_le_mul_right W (by omega)
      obtain ⟨f, hf⟩ : ∃ f : Nat → Int, f = fun i => xs.getD (y * W + i) 0 := ⟨_, rfl⟩
      have FX := hide' (show ∀ i, i < W → ∃ h : P + i < xs.length, f i = xs[P + i] from fun i hi => by
        have hk : P + i < xs.length := by rw [← HL.out]; omega
        exact ⟨hk, by rw [hf, hPe]; simp [List.getD, hk]⟩)
      have HF := hide' hf
      clear hPe hf
      go_wp2
      go_loop [8] (fun kv => ∃ k : Nat, kv = .int .i64 (k : Int) ∧ k ≤ W ∧ Hid (endF f k = endF f W)) (fun kv => (intOf kv).toNat)
      case atStart => exact ⟨W, rfl, Nat.le_refl _, hide' rfl⟩
      case round =>
        obtain ⟨k, rfl, hk, HE⟩ := hrel
        cases k with
        | zero =>
          have RN := hide' (show rowsF W xs (y + 1) = rowsF W xs y from rowsF_no (by rw [← HF.out, ← HE.out]; rfl))
          have RL := hide' (rowsF_le W xs lW y).1
          go_wp2
          go_loop [5, 10] (fun sv xv => sv = .string ⟨l.toArray⟩ ∧ xv = .int .i64 0) (fun _ _ => 0)
          case atStart => exact ⟨rfl, rfl⟩
          case round =>
            obtain ⟨rfl, rfl⟩ := hrel
            go_wp2
            refine ⟨⟨y + 1, r + 1, l, by go_num, by go_num, rfl, by omega, hide' (by rw [RN.out, HRr.out]; have := RL.out; omega), hide' (by rw [RN.out]; exact HLl.out), BW.out⟩, by simp [intOf]; omega⟩
        | succ k =>
          obtain ⟨hkl, hfk⟩ := FX.out k (by omega)
          obtain ⟨ga, off, rfl, hga, hcc⟩ := (AP.out.below BW.out).cells (P + k) hkl
          rw [← hfk] at hcc
          obtain ⟨z, hz⟩ : ∃ z, f k = z := ⟨_, rfl⟩
          rw [hz] at hcc
          have HZ := hide' hz
          have q3 : (P : Int) + ((k + 1 : Nat) : Int) - 1 = ((P + k : Nat) : Int) := by omega
          have q4 : (P : Int) + ((k : Int) + 1) - 1 = ((P + k : Nat) : Int) := by omega
          have hkn : P + k < n := by omega
          clear hz hfk
          by_cases z0 : z = 0
          · have k0 : (z == 0) = true := by simp [z0]
            have E := hide' (show endF f k = endF f W by rw [← HE.out, endF_zero (by rw [HZ.out]; exact z0)])
            clear z0
            go_wp2
            exact ⟨⟨k, rfl, by omega, hide' E.out⟩, by simp [intOf]⟩
          · have k0 : (z == 0) = false := by simp [z0]
            have E := hide' (show endF f W = k + 1 by rw [← HE.out, endF_one (by rw [HZ.out]; exact z0)])
            clear z0
            obtain ⟨m, hm⟩ : ∃ m, k + 1 = m := ⟨_, rfl⟩
            rw [hm] at E
            rw [hm]
            have q5 : (P : Int) + (m : Int) - 1 = ((P + k : Nat) : Int) := by omega
            have hm0 : (0 : Int) < (m : Int) := by omega
            have hmW : m ≤ W := by omega
            have RN := hide' (rowsF_yes HF.out E.out (by omega))
            have FC := hide' (show ∀ wx, Below w1.heap.size w1 wx → ∀ i, i < W → wx.cell? ⟨ga, off + (P + i), none⟩ = some (.int .i64 (f i)) from fun wx hb i hi => by
              obtain ⟨hk2, e⟩ := FX.out i hi
              obtain ⟨ga', off', ee, -, hc2⟩ := (AP.out.below hb).cells (P + i) hk2
              injection ee with ee
              injection ee with e1 e2
              subst e1 e2
              rw [hc2, e])
            have tl0 := times_len r 36 (by omega)
            have m6 : ¬ (9223372036854775807 < l.length + (timesB r 36).length) := by omega
            clear q3 q4
            go_wp2_with fail
            refine (refTimes r 36 _ (by omega)).mono ?_
            rintro e w5 ⟨rfl, b5⟩
            have B5 := hide' (BW.out.trans (b5.mono BW.out.size))
            clear b5 hcc x0 x1 x2
            obtain ⟨x0, x1, x2, -⟩ := BX.out.next B5.out
            go_wp2
            clear x0 x1 x2
            go_loopw [5, 10] (fun sv xv wx => ∃ (x : Nat) (l' : List UInt8), xv = .int .i64 (x : Int) ∧ sv = .string ⟨l'.toArray⟩ ∧ x ≤ m ∧ l'.length ≤ 250000 + 22 * x ∧ Hid (l' ++ runsF f m (m - x) x = l ++ timesB r 36 ++ runsF f m m 0) ∧ Below w1.heap.size w1 wx) (fun _ xv _ => m - (intOf xv).toNat)
            case atStart => exact ⟨0, l ++ timesB r 36, rfl, by rw [← str_app], by omega, by rw [List.length_append]; omega, hide' rfl, B5.out⟩
            case round =>
              obtain ⟨x, l', rfl, rfl, hx, hl', HR6, b6⟩ := hrel
              have B6 := hide' b6
              obtain ⟨x0, x1, x2, -⟩ := BX.out.next b6
              clear b6
              by_cases dx : (x : Int) < (m : Int)
              · have hxm : x < m := by omega
                have hcx := FC.out _ B6.out x (by omega)
                obtain ⟨z, hz6⟩ : ∃ z, f x = z := ⟨_, rfl⟩
                rw [hz6] at hcx
                have HZ6 := hide' hz6
                have NS := hide' (show cntF f z (m - x) x = nextF f m x by rw [← hz6]; rfl)
                have hxn : P + x < n := by omega
                clear hz6
                go_wp2
                go_loop [11, 10] (fun nv xv => ∃ t X : Nat, nv = .int .i64 (t : Int) ∧ xv = .int .i64 (X : Int) ∧ Hid (X = x + t) ∧ X ≤ m ∧ Hid (cntF f z (m - X) X = nextF f m x)) (fun _ xv => m - (intOf xv).toNat)
                case atStart => exact ⟨0, x, rfl, rfl, hide' rfl, hx, hide' NS.out⟩
                case round =>
                  obtain ⟨t, X, rfl, rfl, HX, hXm, HT⟩ := hrel
                  have ht100 : t ≤ 100 := by have := HX.out; omega
                  by_cases eX : (X : Int) < (m : Int)
                  · have hcX := FC.out _ B6.out X (by omega)
                    obtain ⟨u, hu⟩ : ∃ u, f X = u := ⟨_, rfl⟩
                    rw [hu] at hcX
                    have hXn : P + X < n := by omega
                    by_cases uz : u = z
                    · have v1 : (u == z) = true := by simp [uz]
                      have STEP := hide' (show cntF f z (m - (X + 1)) (X + 1) = nextF f m x by have h1 := cnt_yes (f := f) (z := z) (m := m) (y := X) (by omega) (by rw [hu]; exact uz); rw [← HT.out, h1])
                      clear uz hu
                      go_wp2
                      refine ⟨⟨t + 1, X + 1, by go_num, by go_num, hide' (by have := HX.out; omega), by omega, hide' STEP.out⟩, by simp [intOf]; omega⟩
                    · have v1 : (u == z) = false := by simp [uz]
                      have XN := hide' (show X = nextF f m x by rw [← HT.out, cnt_no (by omega) (by rw [hu]; exact uz)])
                      have XL := (nextF_lt (f := f) hxm).1
                      rw [← XN.out] at XL
                      clear uz hu
                      by_cases z1 : z = 1
                      · have v2 : (z == 1) = true := by simp [z1]
                        have TG := hide' (show tagB z = 111 by rw [z1]; rfl)
                        clear z1
                        go_wp2_with fail
                        refine (refTimes t 111 _ (by omega)).mono ?_
                        rintro e w7 ⟨rfl, b7⟩
                        have B7 := hide' (B6.out.trans (b7.mono B6.out.size))
                        have tl := times_len t 111 (by omega)
                        have m8 : ¬ (9223372036854775807 < l'.length + (timesB t 111).length) := by omega
                        obtain ⟨y0, y1, y2, -⟩ := BX.out.next B7.out
                        clear b7
                        go_wp2
                        refine ⟨⟨X, l' ++ timesB t 111, rfl, by rw [← str_app], by omega, by rw [List.length_append]; omega, hide' ?_, B7.out⟩, by simp [intOf]; omega⟩
                        rw [← HR6.out, runsF_step hxm, ← XN.out, show X - x = t by have := HX.out; omega, HZ6.out, TG.out, List.append_assoc]
                      · have v2 : (z == 1) = false := by simp [z1]
                        have TG := hide' (show tagB z = 98 by unfold tagB; rw [if_neg z1])
                        clear z1
                        go_wp2_with fail
                        refine (refTimes t 98 _ (by omega)).mono ?_
                        rintro e w7 ⟨rfl, b7⟩
                        have B7 := hide' (B6.out.trans (b7.mono B6.out.size))
                        have tl := times_len t 98 (by omega)
                        have m8 : ¬ (9223372036854775807 < l'.length + (timesB t 98).length) := by omega
                        obtain ⟨y0, y1, y2, -⟩ := BX.out.next B7.out
                        clear b7
                        go_wp2
                        refine ⟨⟨X, l' ++ timesB t 98, rfl, by rw [← str_app], by omega, by rw [List.length_append]; omega, hide' ?_, B7.out⟩, by simp [intOf]; omega⟩
                        rw [← HR6.out, runsF_step hxm, ← XN.out, show X - x = t by have := HX.out; omega, HZ6.out, TG.out, List.append_assoc]
                  · have XN := hide' (show X = nextF f m x by rw [← HT.out, show X = m by omega, Nat.sub_self]; rfl)
                    have XL := (nextF_lt (f := f) hxm).1
                    rw [← XN.out] at XL
                    by_cases z1 : z = 1
                    · have v2 : (z == 1) = true := by simp [z1]
                      have TG := hide' (show tagB z = 111 by rw [z1]; rfl)
                      clear z1
                      go_wp2_with fail
                      refine (refTimes t 111 _ (by omega)).mono ?_
                      rintro e w7 ⟨rfl, b7⟩
                      have B7 := hide' (B6.out.trans (b7.mono B6.out.size))
                      have tl := times_len t 111 (by omega)
                      have m8 : ¬ (9223372036854775807 < l'.length + (timesB t 111).length) := by omega
                      obtain ⟨y0, y1, y2, -⟩ := BX.out.next B7.out
                      clear b7
                      go_wp2
                      refine ⟨⟨X, l' ++ timesB t 111, rfl, by rw [← str_app], by omega, by rw [List.length_append]; omega, hide' ?_, B7.out⟩, by simp [intOf]; omega⟩
                      rw [← HR6.out, runsF_step hxm, ← XN.out, show X - x = t by have := HX.out; omega, HZ6.out, TG.out, List.append_assoc]
                    · have v2 : (z == 1) = false := by simp [z1]
                      have TG := hide' (show tagB z = 98 by unfold tagB; rw [if_neg z1])
                      clear z1
                      go_wp2_with fail
                      refine (refTimes t 98 _ (by omega)).mono ?_
                      rintro e w7 ⟨rfl, b7⟩
                      have B7 := hide' (B6.out.trans (b7.mono B6.out.size))
                      have tl := times_len t 98 (by omega)
                      have m8 : ¬ (9223372036854775807 < l'.length + (timesB t 98).length) := by omega
                      obtain ⟨y0, y1, y2, -⟩ := BX.out.next B7.out
                      clear b7
                      go_wp2
                      refine ⟨⟨X, l' ++ timesB t 98, rfl, by rw [← str_app], by omega, by rw [List.length_append]; omega, hide' ?_, B7.out⟩, by simp [intOf]; omega⟩
                      rw [← HR6.out, runsF_step hxm, ← XN.out, show X - x = t by have := HX.out; omega, HZ6.out, TG.out, List.append_assoc]
              · have NX := hide' (show l' = l ++ timesB r 36 ++ runsF f m m 0 by rw [← HR6.out, show x = m by omega, runsF_end, List.append_nil])
                go_wp2
                refine ⟨⟨y + 1, 1, l', by go_num, by go_num, rfl, by omega, hide' (by rw [RN.out]; dsimp only; omega), hide' ?_, B6.out⟩, by simp [intOf]; omega⟩
                rw [RN.out, NX.out, HLl.out, HRr.out]
                dsimp only
                simp only [List.append_assoc]
    · have Y := hide' (show y = H by omega)
      have RB := hide' (show runsB ⟨W, H, xs⟩ = l ++ [33, 10] by rw [HLl.out, ← Y.out]; rfl)
      have m5 : ¬ (9223372036854775807 < l.length + 2) := by omega
      go_wp2
      go_ret
      have B7 := BB.out.trans (BW.out.mono hs1)
      refine ⟨?_, B7⟩
      rw [RB.out]
      rfl
end Go.Proofs.YtjngjnkecnnmeaaDoor

namespace Go.Proofs.YtjngjnkecnnmeaaDoor
open Go.RowKit
set_option linter.unusedVariables false

set_option maxRecDepth 100000 in
set_option maxHeartbeats 6400000 in
theorem law_writes_bad (W H k : Int) (xs : List Int) (a : Option Addr) (n c : Nat) (w : World) (hP : ArgP w xs a n c) (hg : Handle w) (hs : shapeF W H xs ≠ 0) :
    Calls Tryd.prog 6 #[.agg #[.int .i64 W, .int .i64 H, .slice a n c], .int .i64 k] w fun e w' => e = .returned (.bool true) ∧ Below w.heap.size w w' := by
  obtain ⟨w1, hw1⟩ : ∃ w1, w.alloc (.cells #[.int .i64 W, .int .i64 H, .slice a n c] 51) = w1 := ⟨_, rfl⟩
  have AP := hide' (show ArgP w1 xs a n c by rw [← hw1]; exact hP.alloc _)
  have BX := hide' (show TB w.heap.size (.int .i64 W) (.int .i64 H) (.slice a n c) w1 by rw [← hw1]; exact TB.new w _ _ _ _)
  have BB := hide' (show Below w.heap.size w w1 by rw [← hw1]; exact (Below.refl _ _).alloc (Nat.le_refl _) _)
  have HG := hide' (hg.below BB.out)
  have HS := hide' hs
  obtain ⟨f, hf⟩ : ∃ f, shapeF W H xs = f := ⟨_, rfl⟩
  have HF := hide' hf
  have ER := hide' (show errOf (shapeF W H xs) = .iface 87 (.int .i64 (f : Int)) by rw [hf]; exact errOf_pos (by rw [← hf]; exact hs))
  have k0 : ((f : Int) == 0) = false := by rw [hf] at hs; simp; omega
  have k1 : ((f : Int) != 0) = true := by rw [hf] at hs; simp; omega
  clear hP hg hs hf
  have C0 := hide' (Below.refl w1.heap.size w1)
  obtain ⟨x0, x1, x2, -⟩ := BX.out
  go_enter Tryd.func6, Tryd.ntmps6
  go_wp2_with fail
  refine (Shape_P W H xs a n c _ (AP.out.below C0.out)).mono ?_
  rw [HF.out]
  rintro e w2 ⟨rfl, b⟩
  have C1 := hide' (C0.out.trans (b.mono C0.out.size))
  clear hw1
  clear b x0 x1 x2 C0
  obtain ⟨x0, x1, x2, -⟩ := BX.out.next C1.out
  go_wp2_with fail
  refine (Check_P W H xs a n c _ (AP.out.below C1.out)).mono ?_
  rw [ER.out]
  rintro e w3 ⟨rfl, b⟩
  have C2 := hide' (C1.out.trans (b.mono C1.out.size))
  clear b x0 x1 x2 C1
  obtain ⟨x0, x1, x2, -⟩ := BX.out.next C2.out
  go_wp2_with fail
  refine (err_some_true (f : Int) _ (HG.out.below C2.out)).mono ?_
  rintro e w4 ⟨rfl, b⟩
  have C3 := hide' (C2.out.trans (b.mono C2.out.size))
  clear b x0 x1 x2 C2
  obtain ⟨x0, x1, x2, -⟩ := BX.out.next C3.out
  go_wp2_with fail
  refine (pRuns_bad W H xs a n c _ (AP.out.below C3.out) HS.out).mono ?_
  rw [HF.out]
  rintro e w5 ⟨rfl, b⟩
  have C4 := hide' (C3.out.trans (b.mono C3.out.size))
  clear b x0 x1 x2 C3
  obtain ⟨x0, x1, x2, -⟩ := BX.out.next C4.out
  go_wp2_with fail
  refine (err_some_true (f : Int) _ (HG.out.below C4.out)).mono ?_
  rintro e w6 ⟨rfl, b⟩
  have C5 := hide' (C4.out.trans (b.mono C4.out.size))
  clear b x0 x1 x2 C4
  obtain ⟨x0, x1, x2, -⟩ := BX.out.next C5.out
  go_wp2_with fail
  refine (pDraw_bad W H xs a n c _ (AP.out.below C5.out) HS.out).mono ?_
  rw [HF.out]
  rintro e w7 ⟨rfl, b⟩
  have C6 := hide' (C5.out.trans (b.mono C5.out.size))
  clear b x0 x1 x2 C5
  obtain ⟨x0, x1, x2, -⟩ := BX.out.next C6.out
  go_wp2_with fail
  refine (err_some_true (f : Int) _ (HG.out.below C6.out)).mono ?_
  rintro e w8 ⟨rfl, b⟩
  have C7 := hide' (C6.out.trans (b.mono C6.out.size))
  clear b x0 x1 x2 C6
  obtain ⟨x0, x1, x2, -⟩ := BX.out.next C7.out
  go_wp2_with fail
  refine (pTrim_bad W H xs a n c _ (AP.out.below C7.out) HS.out).mono ?_
  rw [HF.out]
  rintro e w9 ⟨rfl, b⟩
  have C8 := hide' (C7.out.trans (b.mono C7.out.size))
  clear b x0 x1 x2 C7
  have Q1 := hide' (TB.new w9 (.int .i64 0) (.int .i64 0) (.slice none 0 0) 51)
  have C8a := hide' (C8.out.alloc C8.out.size (.cells #[.int .i64 0, .int .i64 0, .slice none 0 0] 51))
  clear C8
  have C8 := C8a
  clear C8a
  obtain ⟨x0, x1, x2, -⟩ := BX.out.next C8.out
  go_wp2_with fail
  refine (err_some_true (f : Int) _ (HG.out.below C8.out)).mono ?_
  rintro e w10 ⟨rfl, b⟩
  have C9 := hide' (C8.out.trans (b.mono C8.out.size))
  have Q1' := hide' (Q1.out.next b)
  clear Q1
  have Q1 := Q1'
  clear Q1'
  clear b x0 x1 x2 C8
  obtain ⟨x0, x1, x2, -⟩ := BX.out.next C9.out
  go_wp2_with fail
  refine (pCanon_bad W H xs a n c _ (AP.out.below C9.out) HS.out).mono ?_
  rw [HF.out]
  unfold ErrPost
  rintro e w11 ⟨rfl, b⟩
  have C10 := hide' (C9.out.trans (b.mono C9.out.size))
  have Q1' := hide' (Q1.out.next b)
  clear Q1
  have Q1 := Q1'
  clear Q1'
  clear b x0 x1 x2 C9
  have Q2 := hide' (TB.new w11 (.int .i64 0) (.int .i64 0) (.slice none 0 0) 51)
  have C10a := hide' (C10.out.alloc C10.out.size (.cells #[.int .i64 0, .int .i64 0, .slice none 0 0] 51))
  clear C10
  have C10 := C10a
  clear C10a
  have Q1' := hide' (Q1.out.alloc (.cells #[.int .i64 0, .int .i64 0, .slice none 0 0] 51))
  clear Q1
  have Q1 := Q1'
  clear Q1'
  obtain ⟨x0, x1, x2, -⟩ := BX.out.next C10.out
  go_wp2_with fail
  refine (err_some_true (f : Int) _ (HG.out.below C10.out)).mono ?_
  rintro e w12 ⟨rfl, b⟩
  have C11 := hide' (C10.out.trans (b.mono C10.out.size))
  have Q1' := hide' (Q1.out.next b)
  clear Q1
  have Q1 := Q1'
  clear Q1'
  have Q2' := hide' (Q2.out.next b)
  clear Q2
  have Q2 := Q2'
  clear Q2'
  clear b x0 x1 x2 C10
  obtain ⟨x0, x1, x2, -⟩ := BX.out.next C11.out
  go_wp2_with fail
  refine (pTurn_bad W H k xs a n c _ (AP.out.below C11.out) HS.out).mono ?_
  rw [HF.out]
  unfold ErrPost
  rintro e w13 ⟨rfl, b⟩
  have C12 := hide' (C11.out.trans (b.mono C11.out.size))
  have Q1' := hide' (Q1.out.next b)
  clear Q1
  have Q1 := Q1'
  clear Q1'
  have Q2' := hide' (Q2.out.next b)
  clear Q2
  have Q2 := Q2'
  clear Q2'
  clear b x0 x1 x2 C11
  have Q3 := hide' (TB.new w13 (.int .i64 0) (.int .i64 0) (.slice none 0 0) 51)
  have C12a := hide' (C12.out.alloc C12.out.size (.cells #[.int .i64 0, .int .i64 0, .slice none 0 0] 51))
  clear C12
  have C12 := C12a
  clear C12a
  have Q1' := hide' (Q1.out.alloc (.cells #[.int .i64 0, .int .i64 0, .slice none 0 0] 51))
  clear Q1
  have Q1 := Q1'
  clear Q1'
  have Q2' := hide' (Q2.out.alloc (.cells #[.int .i64 0, .int .i64 0, .slice none 0 0] 51))
  clear Q2
  have Q2 := Q2'
  clear Q2'
  obtain ⟨x0, x1, x2, -⟩ := BX.out.next C12.out
  go_wp2_with fail
  refine (err_some_true (f : Int) _ (HG.out.below C12.out)).mono ?_
  rintro e w14 ⟨rfl, b⟩
  have C13 := hide' (C12.out.trans (b.mono C12.out.size))
  have Q1' := hide' (Q1.out.next b)
  clear Q1
  have Q1 := Q1'
  clear Q1'
  have Q2' := hide' (Q2.out.next b)
  clear Q2
  have Q2 := Q2'
  clear Q2'
  have Q3' := hide' (Q3.out.next b)
  clear Q3
  have Q3 := Q3'
  clear Q3'
  clear b x0 x1 x2 C12
  obtain ⟨x0, x1, x2, -⟩ := BX.out.next C13.out
  obtain ⟨y0, y1, y2, -⟩ := Q1.out
  go_wp2_with fail
  refine (Alike_same 0 0 (.slice none 0 0) (.slice none 0 0) [] _ (tab_nil _) (tab_nil _) (Nat.zero_le _)).mono ?_
  rintro e w15 ⟨rfl, b⟩
  have C14 := hide' (C13.out.trans (b.mono C13.out.size))
  have Q1' := hide' (Q1.out.next b)
  clear Q1
  have Q1 := Q1'
  clear Q1'
  have Q2' := hide' (Q2.out.next b)
  clear Q2
  have Q2 := Q2'
  clear Q2'
  have Q3' := hide' (Q3.out.next b)
  clear Q3
  have Q3 := Q3'
  clear Q3'
  clear b x0 x1 x2 C13
  obtain ⟨x0, x1, x2, -⟩ := BX.out.next C14.out
  clear y0 y1 y2
  obtain ⟨y0, y1, y2, -⟩ := Q2.out
  go_wp2_with fail
  refine (Alike_same 0 0 (.slice none 0 0) (.slice none 0 0) [] _ (tab_nil _) (tab_nil _) (Nat.zero_le _)).mono ?_
  rintro e w16 ⟨rfl, b⟩
  have C15 := hide' (C14.out.trans (b.mono C14.out.size))
  have Q1' := hide' (Q1.out.next b)
  clear Q1
  have Q1 := Q1'
  clear Q1'
  have Q2' := hide' (Q2.out.next b)
  clear Q2
  have Q2 := Q2'
  clear Q2'
  have Q3' := hide' (Q3.out.next b)
  clear Q3
  have Q3 := Q3'
  clear Q3'
  clear b x0 x1 x2 C14
  obtain ⟨x0, x1, x2, -⟩ := BX.out.next C15.out
  clear y0 y1 y2
  obtain ⟨y0, y1, y2, -⟩ := Q3.out
  go_wp2_with fail
  refine (Alike_same 0 0 (.slice none 0 0) (.slice none 0 0) [] _ (tab_nil _) (tab_nil _) (Nat.zero_le _)).mono ?_
  rintro e w17 ⟨rfl, b⟩
  have C16 := hide' (C15.out.trans (b.mono C15.out.size))
  have Q1' := hide' (Q1.out.next b)
  clear Q1
  have Q1 := Q1'
  clear Q1'
  have Q2' := hide' (Q2.out.next b)
  clear Q2
  have Q2 := Q2'
  clear Q2'
  have Q3' := hide' (Q3.out.next b)
  clear Q3
  have Q3 := Q3'
  clear Q3'
  clear b x0 x1 x2 C15
  obtain ⟨x0, x1, x2, -⟩ := BX.out.next C16.out
  clear y0 y1 y2
  go_wp2
  go_ret
  exact ⟨rfl, BB.out.trans (C16.out.mono BB.out.size)⟩
end Go.Proofs.YtjngjnkecnnmeaaDoor

namespace Go.Proofs.YtjngjnkecnnmeaaDoor
open Go.RowKit
set_option linter.unusedVariables false

/-- A pattern in a box of its own. -/
structure PV (w : World) (p : Nat) (q : Pat) (v : Value) : Prop where
  tb : TB p (.int .i64 (q.W : Int)) (.int .i64 (q.H : Int)) v w
  tab : Tab w v q.xs
theorem PV.next {w w' : World} {p : Nat} {q : Pat} {v : Value} (h : PV w p q v) (hb : Below w.heap.size w w') : PV w' p q v := ⟨h.tb.next hb, h.tab.nextB hb⟩
theorem PV.alloc {w : World} {p : Nat} {q : Pat} {v : Value} (h : PV w p q v) (o : Obj) : PV (w.alloc o) p q v := h.next ((Below.refl _ _).alloc (Nat.le_refl _) o)
theorem PV.new {w : World} {q : Pat} {v : Value} (h : Tab w v q.xs) (t : TypeId) : PV (w.alloc (.cells #[.int .i64 (q.W : Int), .int .i64 (q.H : Int), v] t)) w.heap.size q v := ⟨TB.new _ _ _ _ _, h.nextB ((Below.refl _ _).alloc (Nat.le_refl _) _)⟩
/-- And apart from another box. -/
structure PVn (z : Nat) (w : World) (p : Nat) (q : Pat) (v : Value) : Prop where
  pv : PV w p q v
  pz : p ≠ z
  ne : ∀ g k c, v = .slice (some ⟨g, 0, none⟩) k c → g ≠ z
theorem PV.fix {w : World} {p : Nat} {q : Pat} {v : Value} (h : PV w p q v) (o : Obj) : PVn w.heap.size (w.alloc o) p q v :=
  ⟨h.alloc o, by have := h.tb.lt; omega, fun g k c e => by have := h.tab.lt e; omega⟩
theorem PVn.next {z : Nat} {w w' : World} {p : Nat} {q : Pat} {v : Value} (h : PVn z w p q v) (hb : Below w.heap.size w w') : PVn z w' p q v := ⟨h.pv.next hb, h.pz, h.ne⟩
theorem PVn.store {z : Nat} {w : World} {p : Nat} {q : Pat} {v : Value} (h : PVn z w p q v) (hz : z < w.heap.size) (a b c : Value) : PVn z (((w.setCell ⟨z, 0, none⟩ a).setCell ⟨z, 1, none⟩ b).setCell ⟨z, 2, none⟩ c) p q v :=
  ⟨⟨h.pv.tb.block (stored_blk _ _ _ _ _ _ h.pz), tab_stored h.pv.tab z a b c hz h.ne⟩, h.pz, h.ne⟩
/-- A box, whatever it holds. -/
def BoxZ (z : Nat) (w : World) : Prop := ∃ a b c, TB z a b c w
theorem BoxZ.next {z : Nat} {w w' : World} (h : BoxZ z w) (hb : Below w.heap.size w w') : BoxZ z w' := by obtain ⟨a, b, c, h⟩ := h; exact ⟨a, b, c, h.next hb⟩
theorem BoxZ.lt {z : Nat} {w : World} (h : BoxZ z w) : z < w.heap.size := by obtain ⟨a, b, c, h⟩ := h; exact h.lt
theorem BoxZ.put {z : Nat} {w : World} {q : Pat} {v : Value} (h : BoxZ z w) (t : Tab w v q.xs) (hv : ∀ g k c, v = .slice (some ⟨g, 0, none⟩) k c → g ≠ z) :
    PV (((w.setCell ⟨z, 0, none⟩ (.int .i64 (q.W : Int))).setCell ⟨z, 1, none⟩ (.int .i64 (q.H : Int))).setCell ⟨z, 2, none⟩ v) z q v := by
  have hz := h.lt
  obtain ⟨a, b, c, h⟩ := h
  exact ⟨h.store _ _ _, tab_stored t z _ _ _ hz hv⟩

def TurnOkPost (q : Pat) (w : World) (e : Ending) (w' : World) : Prop :=
  ∃ v, e = .returned (.tuple #[.agg #[.int .i64 (q.W : Int), .int .i64 (q.H : Int), v], .nilIface]) ∧ Tab w' v q.xs ∧ FreshC w v ∧ Below w.heap.size w w'
theorem pTurn_ok' (W H k : Nat) (xs : List Int) (a : Option Addr) (c : Nat) (w : World) (hP : ArgP w xs a xs.length c) (hp : Pat.ok ⟨W, H, xs⟩) (lW : W ≤ 100) (lH : H ≤ 100) (hs : shapeF W H xs = 0) (hk : k < 8) :
    Calls Tryd.prog 32 #[.agg #[.int .i64 (W : Int), .int .i64 (H : Int), .slice a xs.length c], .int .i64 (k : Int)] w (TurnOkPost (Pat.turn ⟨W, H, xs⟩ k) w) :=
  pTurn_ok ⟨W, H, xs⟩ k a c w hP hp lW lH hs hk
theorem refTurn' (W H k : Nat) (xs : List Int) (a : Option Addr) (c : Nat) (w : World) (hP : ArgP w xs a xs.length c) (hp : Pat.ok ⟨W, H, xs⟩) (lW : W ≤ 100) (lH : H ≤ 100) (hk : k < 8) :
    Calls Tryd.prog 38 #[.agg #[.int .i64 (W : Int), .int .i64 (H : Int), .slice a xs.length c], .int .i64 (k : Int)] w (TurnedPost (Pat.turn ⟨W, H, xs⟩ k) w) :=
  refTurn_any ⟨W, H, xs⟩ k a c w hP hp lW lH hk

set_option maxRecDepth 100000 in
set_option maxHeartbeats 12800000 in
theorem law_writes_ok (W H : Nat) (k : Nat) (xs : List Int) (a : Option Addr) (c : Nat) (w : World) (hP : ArgP w xs a xs.length c) (hg : Handle w) (hT : PowT w) (hc : xs.length ≤ c) (hcm : c ≤ maxLen) (lW : W ≤ 100) (lH : H ≤ 100) (hs : shapeF W H xs = 0) (hn : xs.length = W * H) (hk : k < 8) :
    Calls Tryd.prog 6 #[.agg #[.int .i64 (W : Int), .int .i64 (H : Int), .slice a xs.length c], .int .i64 (k : Int)] w fun e w' => e = .returned (.bool true) ∧ Below w.heap.size w w' := by
  obtain ⟨w1, hw1⟩ : ∃ w1, w.alloc (.cells #[.int .i64 (W : Int), .int .i64 (H : Int), .slice a xs.length c] 51) = w1 := ⟨_, rfl⟩
  have AP := hide' (show ArgP w1 xs a xs.length c by rw [← hw1]; exact hP.alloc _)
  have BX := hide' (show TB w.heap.size (.int .i64 (W : Int)) (.int .i64 (H : Int)) (.slice a xs.length c) w1 by rw [← hw1]; exact TB.new w _ _ _ _)
  have BB := hide' (show Below w.heap.size w w1 by rw [← hw1]; exact (Below.refl _ _).alloc (Nat.le_refl _) _)
  have HG := hide' (hg.below BB.out)
  have HT := hide' (hT.below BB.out)
  have HS := hide' hs
  have HN := hide' hn
  have LW := hide' lW
  have LH := hide' lH
  have HC := hide' hc
  have HCM := hide' hcm
  have OK := hide' (show Pat.ok ⟨W, H, xs⟩ from hn)
  have FT := hide' (trim_fits ⟨W, H, xs⟩ lW lH)
  have FP := hide' (show Fits xs.length ⟨W, H, xs⟩ from ⟨OK.out, lW, lH, rfl⟩)
  have FC := hide' (show Fits (trimP ⟨W, H, xs⟩).1.xs.length (canonP ⟨W, H, xs⟩) from best_fits FT.out 7 (by omega))
  obtain ⟨rs, hrs⟩ : ∃ rs, (⟨(runsB ⟨W, H, xs⟩).toArray⟩ : ByteArray) = rs := ⟨_, rfl⟩
  obtain ⟨ds, hds⟩ : ∃ ds, (⟨(drawRows W xs H).toArray⟩ : ByteArray) = ds := ⟨_, rfl⟩
  obtain ⟨⟨tp, tx, ty⟩, htp⟩ : ∃ tp, trimP ⟨W, H, xs⟩ = tp := ⟨_, rfl⟩
  obtain ⟨cp, hcp⟩ : ∃ cp, canonP ⟨W, H, xs⟩ = cp := ⟨_, rfl⟩
  rw [htp] at FT FC
  rw [hcp] at FC
  have RS := hide' hrs
  have DS := hide' hds
  have TP := hide' htp
  have CP := hide' hcp
  have i1 : ¬ (k : Int) < 0 := by omega
  have i2 : ¬ (7 : Int) < (k : Int) := by omega
  have HK := hide' hk
  obtain ⟨up, hup⟩ : ∃ up, Pat.turn ⟨W, H, xs⟩ k = up := ⟨_, rfl⟩
  have UP := hide' hup
  have FU := hide' (turn_fits FP.out k hk)
  rw [hup] at FU
  clear hup
  clear hP hg hT hs hn hrs hds htp hcp lW lH hc hcm hk
  have C0 := hide' (Below.refl w1.heap.size w1)
  obtain ⟨x0, x1, x2, -⟩ := BX.out
  go_enter Tryd.func6, Tryd.ntmps6
  go_wp2_with fail
  refine (Shape_P W H xs a xs.length c _ (AP.out.below C0.out)).mono ?_
  rw [HS.out]
  rintro e w2 ⟨rfl, b⟩
  have C1 := hide' (C0.out.trans (b.mono C0.out.size))
  clear hw1
  clear b x0 x1 x2 C0
  obtain ⟨x0, x1, x2, -⟩ := BX.out.next C1.out
  go_wp2_with fail
  refine (Check_P W H xs a xs.length c _ (AP.out.below C1.out)).mono ?_
  rw [HS.out, show errOf 0 = .nilIface from rfl]
  rintro e w3 ⟨rfl, b⟩
  have C2 := hide' (C1.out.trans (b.mono C1.out.size))
  clear b x0 x1 x2 C1
  obtain ⟨x0, x1, x2, -⟩ := BX.out.next C2.out
  go_wp2_with fail
  refine (err_nil_true _).mono ?_
  rintro e w4 ⟨rfl, b⟩
  have C3 := hide' (C2.out.trans (b.mono C2.out.size))
  clear b x0 x1 x2 C2
  obtain ⟨x0, x1, x2, -⟩ := BX.out.next C3.out
  go_wp2_with fail
  refine (pRuns W H xs a xs.length c _ (AP.out.below C3.out) (HT.out.below C3.out) HC.out HCM.out LW.out LH.out HS.out HN.out).mono ?_
  rw [RS.out]
  rintro e w5 ⟨rfl, b⟩
  have C4 := hide' (C3.out.trans (b.mono C3.out.size))
  clear b x0 x1 x2 C3
  obtain ⟨x0, x1, x2, -⟩ := BX.out.next C4.out
  go_wp2_with fail
  refine (err_nil_true _).mono ?_
  rintro e w6 ⟨rfl, b⟩
  have C5 := hide' (C4.out.trans (b.mono C4.out.size))
  clear b x0 x1 x2 C4
  obtain ⟨x0, x1, x2, -⟩ := BX.out.next C5.out
  go_wp2_with fail
  refine (pDraw W H xs a xs.length c _ (AP.out.below C5.out) HC.out HCM.out LW.out LH.out HS.out HN.out).mono ?_
  rw [DS.out]
  rintro e w7 ⟨rfl, b⟩
  have C6 := hide' (C5.out.trans (b.mono C5.out.size))
  clear b x0 x1 x2 C5
  obtain ⟨x0, x1, x2, -⟩ := BX.out.next C6.out
  go_wp2_with fail
  refine (err_nil_true _).mono ?_
  rintro e w8 ⟨rfl, b⟩
  have C7 := hide' (C6.out.trans (b.mono C6.out.size))
  clear b x0 x1 x2 C6
  obtain ⟨x0, x1, x2, -⟩ := BX.out.next C7.out
  go_wp2_with fail
  refine (pTrim W H xs a xs.length c _ (AP.out.below C7.out) HC.out HCM.out LW.out LH.out HS.out HN.out).mono ?_
  rintro e w9 ⟨v9, rfl, t9, f9, b⟩
  have C8 := hide' (C7.out.trans (b.mono C7.out.size))
  rw [TP.out] at t9 ⊢
  obtain ⟨a9, c9, rfl, -⟩ := t9.arg FT.out.max
  have C8' := hide' (C8.out.alloc C8.out.size (.cells #[.int .i64 (tp.W : Int), .int .i64 (tp.H : Int), .slice a9 tp.xs.length c9] 51))
  clear C8
  have C8 := C8'
  clear C8'
  have Q1 := hide' (PV.new (q := tp) t9 51)
  clear t9 f9
  clear b x0 x1 x2 C7
  obtain ⟨x0, x1, x2, -⟩ := BX.out.next C8.out
  go_wp2_with fail
  refine (err_nil_true _).mono ?_
  rintro e w10 ⟨rfl, b⟩
  have C9 := hide' (C8.out.trans (b.mono C8.out.size))
  have Q1' := hide' (Q1.out.next b)
  clear Q1
  have Q1 := Q1'
  clear Q1'
  clear b x0 x1 x2 C8
  obtain ⟨x0, x1, x2, -⟩ := BX.out.next C9.out
  go_wp2_with fail
  refine (pCanon W H xs a xs.length c _ (AP.out.below C9.out) HC.out HCM.out LW.out LH.out HS.out HN.out).mono ?_
  rintro e w11 ⟨v11, rfl, t11, f11, b⟩
  have C10 := hide' (C9.out.trans (b.mono C9.out.size))
  have Q1' := hide' (Q1.out.next b)
  clear Q1
  have Q1 := Q1'
  clear Q1'
  rw [CP.out] at t11 ⊢
  obtain ⟨a11, c11, rfl, -⟩ := t11.arg FC.out.max
  have C10' := hide' (C10.out.alloc C10.out.size (.cells #[.int .i64 (cp.W : Int), .int .i64 (cp.H : Int), .slice a11 cp.xs.length c11] 51))
  clear C10
  have C10 := C10'
  clear C10'
  have Q1' := hide' (Q1.out.alloc (.cells #[.int .i64 (cp.W : Int), .int .i64 (cp.H : Int), .slice a11 cp.xs.length c11] 51))
  clear Q1
  have Q1 := Q1'
  clear Q1'
  have Q2 := hide' (PV.new (q := cp) t11 51)
  clear t11 f11
  clear b x0 x1 x2 C9
  obtain ⟨x0, x1, x2, -⟩ := BX.out.next C10.out
  go_wp2_with fail
  refine (err_nil_true _).mono ?_
  rintro e w12 ⟨rfl, b⟩
  have C11 := hide' (C10.out.trans (b.mono C10.out.size))
  have Q1' := hide' (Q1.out.next b)
  clear Q1
  have Q1 := Q1'
  clear Q1'
  have Q2' := hide' (Q2.out.next b)
  clear Q2
  have Q2 := Q2'
  clear Q2'
  clear b x0 x1 x2 C10
  obtain ⟨x0, x1, x2, -⟩ := BX.out.next C11.out
  go_wp2_with fail
  refine (pTurn_ok' W H k xs a c _ (AP.out.below C11.out) OK.out LW.out LH.out HS.out HK.out).mono ?_
  rintro e w13 ⟨v13, rfl, t13, f13, b⟩
  have C12 := hide' (C11.out.trans (b.mono C11.out.size))
  have Q1' := hide' (Q1.out.next b)
  clear Q1
  have Q1 := Q1'
  clear Q1'
  have Q2' := hide' (Q2.out.next b)
  clear Q2
  have Q2 := Q2'
  clear Q2'
  rw [UP.out] at t13 ⊢
  obtain ⟨a13, c13, rfl, -⟩ := t13.arg FU.out.max
  have C12' := hide' (C12.out.alloc C12.out.size (.cells #[.int .i64 (up.W : Int), .int .i64 (up.H : Int), .slice a13 up.xs.length c13] 51))
  clear C12
  have C12 := C12'
  clear C12'
  have Q1' := hide' (Q1.out.alloc (.cells #[.int .i64 (up.W : Int), .int .i64 (up.H : Int), .slice a13 up.xs.length c13] 51))
  clear Q1
  have Q1 := Q1'
  clear Q1'
  have Q2' := hide' (Q2.out.alloc (.cells #[.int .i64 (up.W : Int), .int .i64 (up.H : Int), .slice a13 up.xs.length c13] 51))
  clear Q2
  have Q2 := Q2'
  clear Q2'
  have Q3 := hide' (PV.new (q := up) t13 51)
  clear t13 f13
  clear b x0 x1 x2 C11
  obtain ⟨x0, x1, x2, -⟩ := BX.out.next C12.out
  go_wp2_with fail
  refine (err_nil_true _).mono ?_
  rintro e w14 ⟨rfl, b⟩
  have C13 := hide' (C12.out.trans (b.mono C12.out.size))
  have Q1' := hide' (Q1.out.next b)
  clear Q1
  have Q1 := Q1'
  clear Q1'
  have Q2' := hide' (Q2.out.next b)
  clear Q2
  have Q2 := Q2'
  clear Q2'
  have Q3' := hide' (Q3.out.next b)
  clear Q3
  have Q3 := Q3'
  clear Q3'
  clear b x0 x1 x2 C12
  obtain ⟨x0, x1, x2, -⟩ := BX.out.next C13.out
  go_wp2_with fail
  refine (refRuns W H xs a xs.length c _ (AP.out.below C13.out) LW.out LH.out HN.out).mono ?_
  rw [RS.out]
  rintro e w15 ⟨rfl, b⟩
  have C14 := hide' (C13.out.trans (b.mono C13.out.size))
  have Q1' := hide' (Q1.out.next b)
  clear Q1
  have Q1 := Q1'
  clear Q1'
  have Q2' := hide' (Q2.out.next b)
  clear Q2
  have Q2 := Q2'
  clear Q2'
  have Q3' := hide' (Q3.out.next b)
  clear Q3
  have Q3 := Q3'
  clear Q3'
  clear b x0 x1 x2 C13
  obtain ⟨x0, x1, x2, -⟩ := BX.out.next C14.out
  go_wp2_with fail
  refine (refDraw W H xs a xs.length c _ (AP.out.below C14.out) LW.out LH.out HN.out).mono ?_
  rw [DS.out]
  rintro e w16 ⟨rfl, b⟩
  have C15 := hide' (C14.out.trans (b.mono C14.out.size))
  have Q1' := hide' (Q1.out.next b)
  clear Q1
  have Q1 := Q1'
  clear Q1'
  have Q2' := hide' (Q2.out.next b)
  clear Q2
  have Q2 := Q2'
  clear Q2'
  have Q3' := hide' (Q3.out.next b)
  clear Q3
  have Q3 := Q3'
  clear Q3'
  clear b x0 x1 x2 C14
  obtain ⟨x0, x1, x2, -⟩ := BX.out.next C15.out
  go_wp2_with fail
  refine (refTrim W H xs a xs.length c _ (AP.out.below C15.out) LW.out LH.out HN.out).mono ?_
  rintro e w17 ⟨v17, rfl, t17, f17, b⟩
  have C16 := hide' (C15.out.trans (b.mono C15.out.size))
  have Q1' := hide' (Q1.out.next b)
  clear Q1
  have Q1 := Q1'
  clear Q1'
  have Q2' := hide' (Q2.out.next b)
  clear Q2
  have Q2 := Q2'
  clear Q2'
  have Q3' := hide' (Q3.out.next b)
  clear Q3
  have Q3 := Q3'
  clear Q3'
  rw [TP.out] at t17 ⊢
  obtain ⟨a17, c17, rfl, -⟩ := t17.arg FT.out.max
  have C16' := hide' (C16.out.alloc C16.out.size (.cells #[.int .i64 (tp.W : Int), .int .i64 (tp.H : Int), .slice a17 tp.xs.length c17] 51))
  clear C16
  have C16 := C16'
  clear C16'
  have HZ := hide' (show w1.heap.size ≤ w17.heap.size from (C15.out.trans (b.mono C15.out.size)).size)
  have Q1' := hide' (Q1.out.fix (.cells #[.int .i64 (tp.W : Int), .int .i64 (tp.H : Int), .slice a17 tp.xs.length c17] 51))
  clear Q1
  have Q1 := Q1'
  clear Q1'
  have Q2' := hide' (Q2.out.fix (.cells #[.int .i64 (tp.W : Int), .int .i64 (tp.H : Int), .slice a17 tp.xs.length c17] 51))
  clear Q2
  have Q2 := Q2'
  clear Q2'
  have Q3' := hide' (Q3.out.fix (.cells #[.int .i64 (tp.W : Int), .int .i64 (tp.H : Int), .slice a17 tp.xs.length c17] 51))
  clear Q3
  have Q3 := Q3'
  clear Q3'
  have Z := hide' (PV.new (q := tp) t17 51)
  clear t17 f17
  have ZB := hide' (show BoxZ _ _ from ⟨_, _, _, Z.out.tb⟩)
  clear b x0 x1 x2 C15
  obtain ⟨x0, x1, x2, -⟩ := BX.out.next C16.out
  obtain ⟨q0, q1, q2, -⟩ := Q1.out.pv.tb
  obtain ⟨z0, z1, z2, -⟩ := Z.out.tb
  go_wp2_with fail
  refine (Alike_same tp.W tp.H _ _ tp.xs _ Q1.out.pv.tab Z.out.tab FT.out.max).mono ?_
  rintro e w18 ⟨rfl, b⟩
  clear q0 q1 q2
  clear z0 z1 z2
  clear Q1
  clear Z
  have C17 := hide' (C16.out.trans (b.mono C16.out.size))
  have Q2' := hide' (Q2.out.next b)
  clear Q2
  have Q2 := Q2'
  clear Q2'
  have Q3' := hide' (Q3.out.next b)
  clear Q3
  have Q3 := Q3'
  clear Q3'
  have ZB' := hide' (ZB.out.next b)
  clear ZB
  have ZB := ZB'
  clear ZB'
  clear b x0 x1 x2 C16
  obtain ⟨x0, x1, x2, -⟩ := BX.out.next C17.out
  go_wp2_with fail
  refine (refCanon W H xs a xs.length c _ (AP.out.below C17.out) LW.out LH.out HN.out).mono ?_
  rintro e w19 ⟨v19, rfl, t19, f19, b⟩
  have zl := ZB.out.lt
  have C18 := hide' (C17.out.trans (b.mono C17.out.size))
  have Q2' := hide' (Q2.out.next b)
  clear Q2
  have Q2 := Q2'
  clear Q2'
  have Q3' := hide' (Q3.out.next b)
  clear Q3
  have Q3 := Q3'
  clear Q3'
  have ZB' := hide' (ZB.out.next b)
  clear ZB
  have ZB := ZB'
  clear ZB'
  rw [CP.out] at t19 ⊢
  obtain ⟨a19, c19, rfl, -⟩ := t19.arg FC.out.max
  have C18' := hide' (below_stored C18.out (w17.heap.size) HZ.out (.int .i64 (cp.W : Int)) (.int .i64 (cp.H : Int)) (.slice a19 cp.xs.length c19))
  clear C18
  have C18 := C18'
  clear C18'
  have Q2' := hide' (Q2.out.store ZB.out.lt (.int .i64 (cp.W : Int)) (.int .i64 (cp.H : Int)) (.slice a19 cp.xs.length c19))
  clear Q2
  have Q2 := Q2'
  clear Q2'
  have Q3' := hide' (Q3.out.store ZB.out.lt (.int .i64 (cp.W : Int)) (.int .i64 (cp.H : Int)) (.slice a19 cp.xs.length c19))
  clear Q3
  have Q3 := Q3'
  clear Q3'
  have ZC := hide' (BoxZ.put (q := cp) ZB.out t19 (fun g k c e => by have := f19 g k c e; omega))
  obtain ⟨za, zb, zc, z0, z1, z2, zf⟩ := ZB.out
  have g0 := zf 0
  have g1 := zf 1
  have g2 := zf 2
  have ZB' := hide' (show BoxZ _ _ from ⟨_, _, _, ZC.out.tb⟩)
  clear zl ZB zf t19 f19
  have ZB := ZB'
  clear ZB'
  clear b x0 x1 x2 C17
  obtain ⟨x0, x1, x2, -⟩ := BX.out.next C18.out
  obtain ⟨y0, y1, y2, -⟩ := ZC.out.tb
  obtain ⟨q0, q1, q2, -⟩ := Q2.out.pv.tb
  go_wp2_with fail
  refine (Alike_same cp.W cp.H _ _ cp.xs _ Q2.out.pv.tab ZC.out.tab FC.out.max).mono ?_
  rintro e w20 ⟨rfl, b⟩
  clear q0 q1 q2
  clear Q2
  have C19 := hide' (C18.out.trans (b.mono C18.out.size))
  have Q3' := hide' (Q3.out.next b)
  clear Q3
  have Q3 := Q3'
  clear Q3'
  have ZB' := hide' (ZB.out.next b)
  clear ZB
  have ZB := ZB'
  clear ZB'
  clear b x0 x1 x2 C18
  obtain ⟨x0, x1, x2, -⟩ := BX.out.next C19.out
  clear y0 y1 y2 z0 z1 z2 g0 g1 g2 ZC
  go_wp2_with fail
  refine (refTurn' W H k xs a c _ (AP.out.below C19.out) OK.out LW.out LH.out HK.out).mono ?_
  rintro e w21 ⟨v21, rfl, t21, f21, b⟩
  have zl := ZB.out.lt
  have C20 := hide' (C19.out.trans (b.mono C19.out.size))
  have Q3' := hide' (Q3.out.next b)
  clear Q3
  have Q3 := Q3'
  clear Q3'
  have ZB' := hide' (ZB.out.next b)
  clear ZB
  have ZB := ZB'
  clear ZB'
  rw [UP.out] at t21 ⊢
  obtain ⟨a21, c21, rfl, -⟩ := t21.arg FU.out.max
  have C20' := hide' (below_stored C20.out (w17.heap.size) HZ.out (.int .i64 (up.W : Int)) (.int .i64 (up.H : Int)) (.slice a21 up.xs.length c21))
  clear C20
  have C20 := C20'
  clear C20'
  have Q3' := hide' (Q3.out.store ZB.out.lt (.int .i64 (up.W : Int)) (.int .i64 (up.H : Int)) (.slice a21 up.xs.length c21))
  clear Q3
  have Q3 := Q3'
  clear Q3'
  have ZU := hide' (BoxZ.put (q := up) ZB.out t21 (fun g k c e => by have := f21 g k c e; omega))
  obtain ⟨za, zb, zc, z0, z1, z2, zf⟩ := ZB.out
  have g0 := zf 0
  have g1 := zf 1
  have g2 := zf 2
  have ZB' := hide' (show BoxZ _ _ from ⟨_, _, _, ZU.out.tb⟩)
  clear zl ZB zf t21 f21
  have ZB := ZB'
  clear ZB'
  clear b x0 x1 x2 C19
  obtain ⟨x0, x1, x2, -⟩ := BX.out.next C20.out
  obtain ⟨y0, y1, y2, -⟩ := ZU.out.tb
  obtain ⟨q0, q1, q2, -⟩ := Q3.out.pv.tb
  go_wp2_with fail
  refine (Alike_same up.W up.H _ _ up.xs _ Q3.out.pv.tab ZU.out.tab FU.out.max).mono ?_
  rintro e w22 ⟨rfl, b⟩
  clear q0 q1 q2
  clear Q3
  have C21 := hide' (C20.out.trans (b.mono C20.out.size))
  have ZB' := hide' (ZB.out.next b)
  clear ZB
  have ZB := ZB'
  clear ZB'
  clear b x0 x1 x2 C20
  obtain ⟨x0, x1, x2, -⟩ := BX.out.next C21.out
  have k2 : ((tx : Int) == (tx : Int)) = true := by simp
  have k3 : ((ty : Int) == (ty : Int)) = true := by simp
  go_wp2
  go_ret
  exact ⟨rfl, BB.out.trans (C21.out.mono BB.out.size)⟩
end Go.Proofs.YtjngjnkecnnmeaaDoor

