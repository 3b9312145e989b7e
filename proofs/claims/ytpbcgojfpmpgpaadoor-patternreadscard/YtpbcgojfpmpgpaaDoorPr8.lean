/-
  rules.printLine at the general line rule.
-/
import Derived.Test.YtpbcgojfpmpgpaaDoorPr7
import Derived.Deep.RegionHeld3
import Derived.Deep.CutRange
namespace Go.Proofs.YtpbcgojfpmpgpaaDoor
open Go.RowKit
set_option linter.unusedVariables false

theorem itoaSmall (x : Int) (h0 : 0 ≤ x) (h1 : x < 100) (w : World) :
    Calls Tryd.prog 55 #[.int .i64 x] w fun e w' => e = .returned (.string ⟨(Lib.decDigits x.toNat).toArray⟩) ∧ w' = w := by
  obtain ⟨i, rfl⟩ := Int.eq_ofNat_of_zero_le h0
  exact Tryd.strconv_Itoa_small i (by omega) w
theorem decS_len (x : Int) (h0 : 0 ≤ x) (h1 : x < 100) : (Lib.decDigits x.toNat).length ≤ 21 := by
  obtain ⟨i, rfl⟩ := Int.eq_ofNat_of_zero_le h0
  have := Lib.itoa_length_le (i : Int) (by omega) (by omega)
  rw [Lib.itoa_nonneg] at this
  simpa using this

/-- The rule's copy lies at block b with these fields, and nothing older has turned. -/
def SL (w : World) (o : Out) (v : Value) (w' : World) : Prop :=
  w'.cell? ⟨w.heap.size, 3, none⟩ = some (.int .i64 o.states) ∧ w'.cell? ⟨w.heap.size, 4, none⟩ = some (.int .i64 o.radius) ∧ w'.cell? ⟨w.heap.size, 5, none⟩ = some v ∧ Hid (w.heap.size + 1 ≤ w'.heap.size ∧ Below w.heap.size w w')
theorem SL.next {w w1 w2 : World} {o : Out} {v : Value} (h : SL w o v w1) (hb : Below w1.heap.size w1 w2) : SL w o v w2 := by
  obtain ⟨h1, h2, h3, h4⟩ := h
  obtain ⟨h4, h5⟩ := h4.out
  have e : ∀ k, w2.cell? ⟨w.heap.size, k, none⟩ = w1.cell? ⟨w.heap.size, k, none⟩ := fun k =>
    World.cell?_of_block (w := w1) (a := ⟨w.heap.size, k, none⟩) (hb.block w.heap.size (by omega))
  exact ⟨(e 3).trans h1, (e 4).trans h2, (e 5).trans h3, hide' ⟨Nat.le_trans h4 hb.size, h5.trans (hb.mono (by omega))⟩⟩
theorem cell_all_new (w : World) (cs : Array Value) (u k : Nat) : (w.alloc (.cells cs u)).drew.cell? ⟨w.heap.size, k, none⟩ = cs[k]? := by
  have h : (w.alloc (.cells cs u)).heap[w.heap.size]? = some (.cells cs u) := by unfold World.alloc; simp
  show (w.alloc (.cells cs u)).cell? _ = _
  simp only [World.cell?, h]
  rfl
theorem SL.start (w : World) (o : Out) (a : Option Addr) (n c : Nat) : SL w o (.slice a n c) ((w.alloc (.cells #[.int .i64 o.kind, .int .i64 o.born, .int .i64 o.stay, .int .i64 o.states, .int .i64 o.radius, .slice a n c, .string o.turns] 24)).drew) := by
  refine ⟨cell_all_new _ _ _ _, cell_all_new _ _ _ _, cell_all_new _ _ _ _, hide' ⟨?_, ((Below.refl _ _).alloc (Nat.le_refl _) _).drew⟩⟩
  simp

set_option maxHeartbeats 4000000 in
theorem printLine_L (o : Out) (a : Option Addr) (n c : Nat) (w : World) (hR : ArgR w o a n c) (hs0 : 0 ≤ o.states) (hs1 : o.states < 100) (hr0 : 0 ≤ o.radius) (hr1 : o.radius < 100) (hx : ((o.states == 2) && (o.radius == 1)) = false) (hn4 : n ≤ 4096) (hb : ∀ k, k < o.table.length → 0 ≤ o.table.getD k 0 ∧ o.table.getD k 0 < 4) :
    Calls Tryd.prog 47 #[o.val (.slice a n c)] w fun e w' => e = .returned (.string (((((⟨#[76, 32]⟩ ++ ⟨(Lib.decDigits o.states.toNat).toArray⟩) ++ ⟨#[32]⟩) ++ ⟨(Lib.decDigits o.radius.toNat).toArray⟩) ++ ⟨#[32]⟩) ++ ⟨((List.range n).map (stB o.table)).toArray⟩)) ∧ Below w.heap.size w w' := by
  have HR := hide' hR
  have HB := hide' hb
  have HS := hide' (itoaSmall o.states hs0 hs1)
  have HT := hide' (itoaSmall o.radius hr0 hr1)
  have l1 := decS_len o.states hs0 hs1
  have l2 := decS_len o.radius hr0 hr1
  have m1 : ¬ (9223372036854775807 < 2 + (Lib.decDigits o.states.toNat).length) := by omega
  have m2 : ¬ (9223372036854775807 < 2 + (Lib.decDigits o.states.toNat).length + 1) := by omega
  have m3 : ¬ (9223372036854775807 < 2 + (Lib.decDigits o.states.toNat).length + 1 + (Lib.decDigits o.radius.toNat).length) := by omega
  have m4 : ¬ (9223372036854775807 < 2 + (Lib.decDigits o.states.toNat).length + 1 + (Lib.decDigits o.radius.toNat).length + 1) := by omega
  have m5 : ¬ (9223372036854775807 < 2 + (Lib.decDigits o.states.toNat).length + 1 + (Lib.decDigits o.radius.toNat).length + 1 + n) := by omega
  clear hR hb hs0 hs1 hr0 hr1
  unfold Out.val
  go_enter Tryd.func47, Tryd.ntmps47
  rcases hk1 : (o.states == 2) with _ | _
  · clear hx
    go_upto_region 3 with fail
    have S0 := hide' (SL.start w o a n c)
    go_region_held3 (fun w' => w'.cell? ⟨w.heap.size, 3, none⟩ = some (.int .i64 o.states) ∧ w'.cell? ⟨w.heap.size, 4, none⟩ = some (.int .i64 o.radius) ∧ w'.cell? ⟨w.heap.size, 5, none⟩ = some (.slice a n c) ∧ Hid (w.heap.size + 1 ≤ w'.heap.size ∧ Below w.heap.size w w')) (first | exact S0.out | exact SL.next S0.out B1.out)
      (first
        | (go_at_call_of 55 (Value.int .i64 o.states); refine (HS.out _).mono ?_; rintro e w' ⟨rfl, rfl⟩)
        | (go_at_call_of 55 (Value.int .i64 o.radius); refine (HT.out _).mono ?_; rintro e w' ⟨rfl, rfl⟩)
        | (go_at_call 88; refine (statesOf_any o a n c _ (HR.out.below S0.out.2.2.2.out.2) hn4 HB.out).mono ?_; rintro e w1 ⟨rfl, hb1⟩; have B1 := hide' hb1; clear hb1))
    go_wp2
    go_ret
    exact ⟨rfl, (SL.next S0.out B1.out).2.2.2.out.2⟩
  · have k2 : (o.radius == 1) = false := by simpa [hk1] using hx
    clear hx
    go_upto_region 3 with fail
    have S0 := hide' (SL.start w o a n c)
    go_region_held3 (fun w' => w'.cell? ⟨w.heap.size, 3, none⟩ = some (.int .i64 o.states) ∧ w'.cell? ⟨w.heap.size, 4, none⟩ = some (.int .i64 o.radius) ∧ w'.cell? ⟨w.heap.size, 5, none⟩ = some (.slice a n c) ∧ Hid (w.heap.size + 1 ≤ w'.heap.size ∧ Below w.heap.size w w')) (first | exact S0.out | exact SL.next S0.out B1.out)
      (first
        | (go_at_call_of 55 (Value.int .i64 o.states); refine (HS.out _).mono ?_; rintro e w' ⟨rfl, rfl⟩)
        | (go_at_call_of 55 (Value.int .i64 o.radius); refine (HT.out _).mono ?_; rintro e w' ⟨rfl, rfl⟩)
        | (go_at_call 88; refine (statesOf_any o a n c _ (HR.out.below S0.out.2.2.2.out.2) hn4 HB.out).mono ?_; rintro e w1 ⟨rfl, hb1⟩; have B1 := hide' hb1; clear hb1))
    go_wp2
    go_ret
    exact ⟨rfl, (SL.next S0.out B1.out).2.2.2.out.2⟩
end Go.Proofs.YtpbcgojfpmpgpaaDoor
