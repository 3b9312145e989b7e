/-
  What the last text of this claim leans on, part 12: Oj2, Ob2, Ob3, Ob4.
-/
import Derived.Test.YtdhbdkkchobinaaDoorJd1
import Derived.Test.YtdhbdkkchobinaaDoorJd11
import Derived.Laws.Bits64b
import Derived.Lib.TrailingZeros
import Derived.Deep.RegionHeld3
namespace Go.Proofs.YtdhbdkkchobinaaDoor
open Go.RowKit
set_option linter.unusedVariables false

/-- The library's table as it is laid. -/
def TzTab (w : World) : Prop := ∀ j, j < 64 → w.cell? ⟨3, j, none⟩ = some (.int .u8 (Lib.deBruijn64tab.getD j 0))
theorem tz_lt {w : World} (h : TzTab w) : 3 < w.heap.size := by
  rcases Nat.lt_or_ge 3 w.heap.size with k | k
  · exact k
  · have := h 0 (by omega); simp [World.cell?, Array.getElem?_eq_none k] at this
theorem TzTab.below {w w' : World} (h : TzTab w) (hb : Below w.heap.size w w') : TzTab w' := fun j hj => (World.cell?_of_block (w := w) (a := ⟨3, j, none⟩) (hb.block _ (tz_lt h))).trans (h j hj)
theorem tz_key' (x a : Nat) (hx : x < 18446744073709551616) (hx0 : x ≠ 0) (hlow : x &&& (18446744073709551616 - x) = a) :
    IntKind.u64.wrap (bits BinOp.and IntKind.u64 (x : Int) (IntKind.u64.wrap (-(x : Int))) * 285870213051353865) / 288230376151711744 = ((a * 285870213051353865 % 18446744073709551616 / 288230376151711744 : Nat) : Int) := by
  have e1 : IntKind.u64.wrap (-(x : Int)) = ((18446744073709551616 - x : Nat) : Int) := by rw [IntKind.wrap_u64]; omega
  rw [e1, bits_and_u64_nat x _ hx (by omega), hlow, IntKind.wrap_u64]
  omega
theorem ofInt64_small {a : Nat} (ha : a < 9223372036854775808) : (BitVec.ofInt 64 (a : Int)).toNat = a := by
  rw [BitVec.ofInt_natCast, BitVec.toNat_ofNat]; exact Nat.mod_eq_of_lt (by omega)
theorem wrap_i64_small {a : Nat} (ha : a < 9223372036854775808) : IntKind.i64.wrap (a : Int) = (a : Int) := by
  simp [IntKind.wrap, IntKind.signed, IntKind.bits]
  omega
theorem or_i64 {a b : Nat} (ha : a < 65536) (hb : b < 65536) : bits .or .i64 (a : Int) (b : Int) = ((a ||| b : Nat) : Int) := by
  have hx : a ||| b < 2 ^ 16 := Nat.or_lt_two_pow (by omega) (by omega)
  show IntKind.i64.wrap ((BitVec.ofInt 64 (a : Int) ||| BitVec.ofInt 64 (b : Int)).toNat : Int) = _
  rw [BitVec.toNat_or, ofInt64_small (by omega), ofInt64_small (by omega), wrap_i64_small (by omega)]
theorem and_i64 {a : Nat} (h0 : 0 < a) (ha : a < 65536) : bits .and .i64 (a : Int) ((a : Int) - 1) = ((a &&& (a - 1) : Nat) : Int) := by
  have hx : a &&& (a - 1) < 2 ^ 16 := Nat.and_lt_two_pow _ (by omega)
  rw [show (a : Int) - 1 = ((a - 1 : Nat) : Int) by omega]
  show IntKind.i64.wrap ((BitVec.ofInt 64 (a : Int) &&& BitVec.ofInt 64 ((a - 1 : Nat) : Int)).toNat : Int) = _
  rw [BitVec.toNat_and, ofInt64_small (by omega), ofInt64_small (by omega), wrap_i64_small (by omega)]
/-- The lowest bit, told by its number. -/
theorem ctz_low {x : Nat} (h0 : 0 < x) (h : x < 2 ^ 64) : x.testBit (Lib.ctz 64 x) = true ∧ ∀ j, j < Lib.ctz 64 x → x.testBit j = false := by
  obtain ⟨m, hm, _⟩ := Lib.ctzFrom_spec 64 x h0 h
  have hc : Lib.ctz 64 x = Lib.ctzFrom 64 x := by unfold Lib.ctz; rw [if_neg (by omega)]
  rw [hc]
  obtain ⟨k, hk⟩ : ∃ k, Lib.ctzFrom 64 x = k := ⟨_, rfl⟩
  rw [hk] at hm ⊢
  have e : x = 2 ^ k * (2 * m + 1) + 0 := by omega
  have hp : 0 < 2 ^ k := Nat.pow_pos (by omega)
  refine ⟨by rw [e, Nat.testBit_two_pow_mul_add _ hp]; simp, fun j hj => by rw [e, Nat.testBit_two_pow_mul_add _ hp, if_pos hj]; simp⟩

set_option maxRecDepth 100000 in
set_option maxHeartbeats 6400000 in
theorem tz64_any (x : Nat) (w : World) (hx0 : 0 < x) (hx : x < 18446744073709551616) (hT : TzTab w) :
    Calls Tryd.prog 237 #[.int .u64 (x : Int)] w fun e w' => e = .returned (.int .i64 ((Lib.ctz 64 x : Nat) : Int)) ∧ w' = w := by
  obtain ⟨hlow, hk⟩ := Lib.lowest_bit 64 x (by omega) hx
  obtain ⟨hi, htab⟩ := Lib.deBruijn64_at _ hk
  have hcell := hT _ hi
  rw [htab] at hcell
  have key := tz_key' x _ hx (by omega) hlow
  have xz : ((x : Int) == 0) = false := by rw [beq_eq_false_iff_ne]; omega
  obtain ⟨idx, hidx⟩ : ∃ idx, 2 ^ Lib.ctz 64 x * 285870213051353865 % 18446744073709551616 / 288230376151711744 = idx := ⟨_, rfl⟩
  rw [hidx] at hi hcell key
  obtain ⟨k, hkk⟩ : ∃ k, Lib.ctz 64 x = k := ⟨_, rfl⟩
  rw [hkk] at hcell hk ⊢
  clear hlow htab hidx hkk
  go_enter Tryd.func237, Tryd.ntmps237
  go_wp2_with (simp only [key])
  go_ret
  exact ⟨rfl, rfl⟩

set_option maxRecDepth 100000 in
set_option maxHeartbeats 6400000 in
theorem tz_any (x : Nat) (w : World) (hx0 : 0 < x) (hx : x < 18446744073709551616) (hT : TzTab w) :
    Calls Tryd.prog 216 #[.int .u64 (x : Int)] w fun e w' => e = .returned (.int .i64 ((Lib.ctz 64 x : Nat) : Int)) ∧ w' = w := by
  have C := hide' (tz64_any x w hx0 hx hT)
  go_enter Tryd.func216, Tryd.ntmps216
  go_wp2_with fail
  refine (show Calls Tryd.prog _ _ _ _ from C.out).mono ?_
  rintro e w' ⟨rfl, rfl⟩
  go_wp2
  go_ret
  exact ⟨rfl, rfl⟩

set_option maxRecDepth 100000 in
set_option maxHeartbeats 6400000 in
theorem follow_any (S n c m : Nat) (T : List Int) (a : Option Addr) (k d : Nat) (w : World) (hm : m < 2 ^ n) (n16 : n ≤ 16) (hA : ArgP w ((List.range n).map fun p => ((leadN S n T c p : Nat) : Int)) a k d) (hT : TzTab w) :
    Calls Tryd.prog 184 #[.int .i64 (m : Int), .slice a k d] w fun e w' => e = .returned (.int .i64 ((follN S n T c m : Nat) : Int)) ∧ w' = w := by
  have kn : k = n := by rw [hA.len]; simp
  subst kn
  have p16 : 2 ^ k ≤ 65536 := Nat.le_trans (Nat.pow_le_pow_right (by omega) n16) (by decide)
  have HA := hide' hA
  have HT := hide' hT
  have ST := hide' (FollInv.start (S := S) (T := T) (c := c) hm)
  clear hA hT
  go_enter Tryd.func184, Tryd.ntmps184
  go_wp2
  go_loop [0, 5] (fun mv ov => ∃ cur out : Nat, mv = .int .i64 (cur : Int) ∧ ov = .int .i64 (out : Int) ∧ Hid (FollInv S k T c m cur out)) (fun mv _ => (intOf mv).toNat)
  case atStart => exact ⟨m, 0, rfl, rfl, ST.out⟩
  case round =>
    obtain ⟨cur, out, rfl, rfl, H⟩ := hrel
    have cl : cur < 65536 := Nat.lt_of_lt_of_le H.out.1 p16
    have ol : out < 65536 := Nat.lt_of_lt_of_le H.out.2.1 p16
    rcases Nat.eq_zero_or_pos cur with z | z
    · subst z
      have E := hide' H.out.fin
      go_wp2
      go_ret
      exact ⟨by rw [← E.out]; rfl, rfl⟩
    · have q1 : ((cur : Int) != 0) = true := by simp; omega
      obtain ⟨t1, t2⟩ := ctz_low z (by omega)
      have TZC := hide' (tz_any cur w z (by omega) HT.out)
      obtain ⟨b, hb⟩ : ∃ b, Lib.ctz 64 cur = b := ⟨_, rfl⟩
      rw [hb] at t1 t2 TZC
      obtain ⟨bn, NX, dec⟩ := H.out.step t1 t2
      obtain ⟨g, off, rfl, hc⟩ := HA.out.at (k := b) bn
      have e1 : ((List.range k).map fun p => ((leadN S k T c p : Nat) : Int)).getD b 0 = ((leadN S k T c b : Nat) : Int) := by simp [List.getD, bn]
      rw [e1] at hc
      have NXH := hide' NX
      have ll : leadN S k T c b < 65536 := Nat.lt_of_lt_of_le (leadN_lt ..) p16
      obtain ⟨l, hl⟩ : ∃ l, leadN S k T c b = l := ⟨_, rfl⟩
      rw [hl] at hc NXH ll
      clear t1 t2 hb e1 hl NX
      have uw : IntKind.u64.wrap (cur : Int) = (cur : Int) := by rw [IntKind.wrap_u64]; omega
      have o1 := or_i64 ol ll
      have a1 := and_i64 z cl
      go_wp2_with fail
      refine (show Calls Tryd.prog _ _ _ _ from TZC.out).mono ?_
      rintro e w' ⟨rfl, rfl⟩
      go_wp2
      refine ⟨⟨cur &&& (cur - 1), out ||| l, ?_, ?_, NXH.out⟩, ?_⟩
      · rfl
      · rfl
      · simp [intOf]; omega
end Go.Proofs.YtdhbdkkchobinaaDoor

namespace Go.Proofs.YtdhbdkkchobinaaDoor
open Go.RowKit
set_option linter.unusedVariables false

/-- The graph's box and a list of the call's own. -/
structure PS (w wr : World) (S R n : Nat) (v : Value) (g : Nat) (xs : List Int) : Prop where
  gb : GB w.heap.size S R n v wr
  bl : Below w.heap.size w wr
  cl : Cel wr g xs
  lt : w.heap.size < g
theorem PS.below {w wr w' : World} {S R n g : Nat} {v : Value} {xs : List Int} (h : PS w wr S R n v g xs) (hb : Below wr.heap.size wr w') : PS w w' S R n v g xs :=
  ⟨h.gb.next hb, h.bl.trans (hb.mono h.bl.size), h.cl.below hb, h.lt⟩
theorem heap_setCell_other (w : World) (g i k : Nat) (v : Value) (h : k ≠ g) : (w.setCell ⟨g, i, none⟩ v).heap[k]? = w.heap[k]? := RowKit.Below.heap_setCell _ _ _ _ h
theorem PS.set {w wr : World} {S R n g : Nat} {v : Value} {xs : List Int} (h : PS w wr S R n v g xs) (i : Nat) (x : Int) (hi : i < xs.length) : PS w (wr.setCell ⟨g, i, none⟩ (.int .i64 x)) S R n v g (xs.set i x) :=
  ⟨h.gb.block (heap_setCell_other _ _ _ _ _ (by have := h.lt; omega)), h.bl.setCell (Nat.le_of_lt h.lt) _, h.cl.set i x hi, h.lt⟩
theorem PS.setOther {w wr : World} {S R n g f : Nat} {v : Value} {xs : List Int} (h : PS w wr S R n v g xs) (hf : w.heap.size < f) (hne : g ≠ f) (i : Nat) (u : Value) : PS w (wr.setCell ⟨f, i, none⟩ u) S R n v g xs :=
  ⟨h.gb.block (heap_setCell_other _ _ _ _ _ (by omega)), h.bl.setCell (Nat.le_of_lt hf) _, h.cl.block (by simp) (heap_setCell_other _ _ _ _ _ hne), h.lt⟩
theorem PS.drew {w wr : World} {S R n g : Nat} {v : Value} {xs : List Int} (h : PS w wr S R n v g xs) : PS w wr.drew S R n v g xs :=
  ⟨⟨h.gb.c0, h.gb.c1, h.gb.c2, h.gb.c3⟩, h.bl.drew, ⟨h.cl.lt, h.cl.cells, h.cl.fz⟩, h.lt⟩
theorem PS.at {w wr : World} {S R n g : Nat} {v : Value} {xs : List Int} (h : PS w wr S R n v g xs) {i : Nat} (hi : i < xs.length) : wr.cell? ⟨g, i, none⟩ = some (.int .i64 (xs.getD i 0)) := h.cl.cells i hi
theorem PS.new {w wr : World} {S R n g : Nat} {v : Value} {xs : List Int} (h : PS w wr S R n v g xs) (N : Nat) (t : TypeId) : PS w (wr.alloc (.cells (madeCells #[.int .i64 0] N) t)) S R n v wr.heap.size (List.replicate N 0) :=
  ⟨h.gb.block (Below.heap_alloc _ _ _ h.gb.lt), h.bl.alloc h.bl.size _, Cel.made wr N t, Nat.lt_of_lt_of_le h.gb.lt (Nat.le_refl _)⟩
theorem PS.start (w : World) (S R n : Nat) (v : Value) (t t' : TypeId) : PS w ((w.alloc (.cells #[.int .i64 (S : Int), .int .i64 (2 * (R : Int)), .int .i64 (n : Int), v] t)).alloc (.cells (madeCells #[.int .i64 0] n) t')) S R n v (w.heap.size + 1) (List.replicate n 0) := by
  have b := GB.new w S R n v t
  have c := Cel.made (w.alloc (.cells #[.int .i64 (S : Int), .int .i64 (2 * (R : Int)), .int .i64 (n : Int), v] t)) n t'
  rw [World.size_alloc] at c
  exact ⟨b.block (Below.heap_alloc _ _ _ b.lt), ((Below.refl _ _).alloc (Nat.le_refl _) _).alloc (by simp) _, c, by omega⟩

end Go.Proofs.YtdhbdkkchobinaaDoor

namespace Go.Proofs.YtdhbdkkchobinaaDoor
open Go.RowKit
set_option linter.unusedVariables false

/-- The rule's box and a list of the call's own. -/
structure QS (w wr : World) (S R : Nat) (v : Value) (g : Nat) (xs : List Int) : Prop where
  rb : RB w.heap.size S R v wr
  bl : Below w.heap.size w wr
  cl : Cel wr g xs
  lt : w.heap.size < g
theorem QS.below {w wr w' : World} {S R g : Nat} {v : Value} {xs : List Int} (h : QS w wr S R v g xs) (hb : Below wr.heap.size wr w') : QS w w' S R v g xs :=
  ⟨h.rb.next hb, h.bl.trans (hb.mono h.bl.size), h.cl.below hb, h.lt⟩
theorem QS.set {w wr : World} {S R g : Nat} {v : Value} {xs : List Int} (h : QS w wr S R v g xs) (i : Nat) (x : Int) (hi : i < xs.length) : QS w (wr.setCell ⟨g, i, none⟩ (.int .i64 x)) S R v g (xs.set i x) :=
  ⟨h.rb.block (heap_setCell_other _ _ _ _ _ (by have := h.lt; omega)), h.bl.setCell (Nat.le_of_lt h.lt) _, h.cl.set i x hi, h.lt⟩
theorem QS.setOther {w wr : World} {S R g f : Nat} {v : Value} {xs : List Int} (h : QS w wr S R v g xs) (hf : w.heap.size < f) (hne : g ≠ f) (i : Nat) (u : Value) : QS w (wr.setCell ⟨f, i, none⟩ u) S R v g xs :=
  ⟨h.rb.block (heap_setCell_other _ _ _ _ _ (by omega)), h.bl.setCell (Nat.le_of_lt hf) _, h.cl.block (by simp) (heap_setCell_other _ _ _ _ _ hne), h.lt⟩
theorem QS.drew {w wr : World} {S R g : Nat} {v : Value} {xs : List Int} (h : QS w wr S R v g xs) : QS w wr.drew S R v g xs :=
  ⟨h.rb.block rfl, h.bl.drew, ⟨h.cl.lt, h.cl.cells, h.cl.fz⟩, h.lt⟩
theorem QS.new {w wr : World} {S R g : Nat} {v : Value} {xs : List Int} (h : QS w wr S R v g xs) (N : Nat) (t : TypeId) : QS w (wr.alloc (.cells (madeCells #[.int .i64 0] N) t)) S R v wr.heap.size (List.replicate N 0) :=
  ⟨h.rb.alloc _, h.bl.alloc h.bl.size _, Cel.made wr N t, Nat.lt_of_lt_of_le h.rb.lt (Nat.le_refl _)⟩

end Go.Proofs.YtdhbdkkchobinaaDoor

namespace Go.Proofs.YtdhbdkkchobinaaDoor
open Go.RowKit
set_option linter.unusedVariables false

def SMg (w : World) (S R : Nat) (ta : Option Addr) (tn tc : Nat) (w' : World) : Prop := w'.cell? ⟨w.heap.size, 0, none⟩ = some (.int .i64 2) ∧ w'.cell? ⟨w.heap.size, 1, none⟩ = some (.int .i64 0) ∧ w'.cell? ⟨w.heap.size, 2, none⟩ = some (.int .i64 0) ∧ w'.cell? ⟨w.heap.size, 3, none⟩ = some (.int .i64 (S : Int)) ∧ w'.cell? ⟨w.heap.size, 4, none⟩ = some (.int .i64 (R : Int)) ∧ w'.cell? ⟨w.heap.size, 5, none⟩ = some (.slice ta tn tc) ∧ w'.cell? ⟨w.heap.size, 6, none⟩ = some (.string ⟨#[]⟩)
theorem SMg.of {w w' : World} {S R : Nat} {ta : Option Addr} {tn tc : Nat} (h : RB w.heap.size S R (.slice ta tn tc) w') : SMg w S R ta tn tc w' := by
  obtain ⟨x0, x1, x2, x3, x4, x5, x6⟩ := h
  exact ⟨x0, x1, x2, x3, x4, x5, x6⟩

theorem SMg.stored {w w2 : World} {S R : Nat} {ta : Option Addr} {tn tc : Nat} (h : RB w.heap.size S R (.slice ta tn tc) w2) (a b c d : Value) :
    SMg w S R ta tn tc ((((w2.setCell ⟨w.heap.size + 1, 0, none⟩ a).setCell ⟨w.heap.size + 1, 1, none⟩ b).setCell ⟨w.heap.size + 1, 2, none⟩ c).setCell ⟨w.heap.size + 1, 3, none⟩ d) :=
  SMg.of (h.block (by rw [heap_setCell_other _ _ _ _ _ (by omega), heap_setCell_other _ _ _ _ _ (by omega), heap_setCell_other _ _ _ _ _ (by omega), heap_setCell_other _ _ _ _ _ (by omega)]))

theorem stored4 {w2 : World} {p : Nat} {z0 z1 z2 z3 : Value} (h0 : w2.cell? ⟨p, 0, none⟩ = some z0) (h1 : w2.cell? ⟨p, 1, none⟩ = some z1) (h2 : w2.cell? ⟨p, 2, none⟩ = some z2) (h3 : w2.cell? ⟨p, 3, none⟩ = some z3) (a b c d : Value) {W : World}
    (e : W = ((((w2.setCell ⟨p, 0, none⟩ a).setCell ⟨p, 1, none⟩ b).setCell ⟨p, 2, none⟩ c).setCell ⟨p, 3, none⟩ d)) :
    W.cell? ⟨p, 0, none⟩ = some a ∧ W.cell? ⟨p, 1, none⟩ = some b ∧ W.cell? ⟨p, 2, none⟩ = some c ∧ W.cell? ⟨p, 3, none⟩ = some d := by
  subst e
  have o : ∀ (W : World) (i j : Nat) (u : Value), i ≠ j → (W.setCell ⟨p, i, none⟩ u).cell? ⟨p, j, none⟩ = W.cell? ⟨p, j, none⟩ := fun W i j u h => World.cell?_setCell_other _ ⟨p, i, none⟩ ⟨p, j, none⟩ _ (fun q => h (congrArg Addr.off q))
  refine ⟨?_, ?_, ?_, ?_⟩
  · rw [o _ 3 0 _ (by decide), o _ 2 0 _ (by decide), o _ 1 0 _ (by decide)]; exact World.cell?_setCell_same _ _ _ h0
  · rw [o _ 3 1 _ (by decide), o _ 2 1 _ (by decide)]; exact World.cell?_setCell_same _ _ _ (by rw [o _ 0 1 _ (by decide)]; exact h1)
  · rw [o _ 3 2 _ (by decide)]; exact World.cell?_setCell_same _ _ _ (by rw [o _ 1 2 _ (by decide), o _ 0 2 _ (by decide)]; exact h2)
  · exact World.cell?_setCell_same _ _ _ (by rw [o _ 2 3 _ (by decide), o _ 1 3 _ (by decide), o _ 0 3 _ (by decide)]; exact h3)
theorem below4 {w w2 : World} {p : Nat} (h : Below w.heap.size w w2) (hp : w.heap.size ≤ p) (a b c d : Value) : Below w.heap.size w ((((w2.setCell ⟨p, 0, none⟩ a).setCell ⟨p, 1, none⟩ b).setCell ⟨p, 2, none⟩ c).setCell ⟨p, 3, none⟩ d) :=
  (((h.setCell (p := ⟨p, 0, none⟩) hp _).setCell (p := ⟨p, 1, none⟩) hp _).setCell (p := ⟨p, 2, none⟩) hp _).setCell (p := ⟨p, 3, none⟩) hp _

set_option maxRecDepth 100000 in
set_option maxHeartbeats 3200000 in
theorem graphOf_any (S R : Nat) (T : List Int) (ta : Option Addr) (tn tc n : Nat) (w : World) (hL : LineOk S R T) (hn : tn / S = n) (ht : tn ≤ 4096) :
    Calls Tryd.prog 134 #[.agg #[.int .i64 2, .int .i64 0, .int .i64 0, .int .i64 (S : Int), .int .i64 (R : Int), .slice ta tn tc, .string ⟨#[]⟩]] w fun e w' => e = .returned (.agg #[.int .i64 (S : Int), .int .i64 (2 * (R : Int)), .int .i64 (n : Int), .slice ta tn tc]) ∧ Below w.heap.size w w' := by
  obtain ⟨w1, hw1⟩ : ∃ w1, (w.alloc (.cells #[.int .i64 2, .int .i64 0, .int .i64 0, .int .i64 (S : Int), .int .i64 (R : Int), .slice ta tn tc, .string ⟨#[]⟩] 24)).alloc (.cells #[.int .i64 0, .int .i64 0, .int .i64 0, .slice none 0 0] 150) = w1 := ⟨_, rfl⟩
  have BB := hide' (show Below w.heap.size w w1 by rw [← hw1]; exact ((Below.refl _ _).alloc (Nat.le_refl _) _).alloc (by simp) _)
  have RX := hide' (show RB w.heap.size S R (.slice ta tn tc) w1.drew by rw [← hw1]; exact ((RB.new w S R _ _).alloc _).block rfl)
  have s1 : w1.heap.size = w.heap.size + 2 := by rw [← hw1]; simp
  have ZC0 := hide' (show w1.cell? ⟨w.heap.size + 1, 0, none⟩ = some (.int .i64 0) by rw [← hw1, World.cell?_alloc_at _ _ _ _ (by simp)]; rfl)
  have ZC1 := hide' (show w1.cell? ⟨w.heap.size + 1, 1, none⟩ = some (.int .i64 0) by rw [← hw1, World.cell?_alloc_at _ _ _ _ (by simp)]; rfl)
  have ZC2 := hide' (show w1.cell? ⟨w.heap.size + 1, 2, none⟩ = some (.int .i64 0) by rw [← hw1, World.cell?_alloc_at _ _ _ _ (by simp)]; rfl)
  have ZC3 := hide' (show w1.cell? ⟨w.heap.size + 1, 3, none⟩ = some (.slice none 0 0) by rw [← hw1, World.cell?_alloc_at _ _ _ _ (by simp)]; rfl)
  have ZF := hide' (show ∀ k, w1.frozen? ⟨w.heap.size + 1, k, none⟩ = false by
    intro k
    rw [← hw1]; simp)
  have HP := hide' (fun (wr : World) => placesOf_any S R ta tn tc n wr hL.s2 hL.s4 hn ht)
  have r10 := hL.r10
  have S0 := hide' (SMg.of RX.out)
  clear hL hn
  go_enter Tryd.func134, Tryd.ntmps134
  go_upto_region 1 with fail
  go_region_held3 (fun w' => w'.cell? ⟨w.heap.size, 0, none⟩ = some (.int .i64 2) ∧ w'.cell? ⟨w.heap.size, 1, none⟩ = some (.int .i64 0) ∧ w'.cell? ⟨w.heap.size, 2, none⟩ = some (.int .i64 0) ∧ w'.cell? ⟨w.heap.size, 3, none⟩ = some (.int .i64 (S : Int)) ∧ w'.cell? ⟨w.heap.size, 4, none⟩ = some (.int .i64 (R : Int)) ∧ w'.cell? ⟨w.heap.size, 5, none⟩ = some (.slice ta tn tc) ∧ w'.cell? ⟨w.heap.size, 6, none⟩ = some (.string ⟨#[]⟩)) (first | exact S0.out | exact S2.out | exact SMg.stored R2.out _ _ _ _)
    ((go_at_call 182; refine (HP.out _).mono ?_; rintro e w2 ⟨rfl, b2⟩; have B2 := hide' b2; have R2 := hide' (RX.out.next b2); have S2 := hide' (SMg.of R2.out); clear b2; have hb := B2.out.block (w.heap.size + 1) (show w.heap.size + 1 < w1.heap.size by omega); have z0 := (World.cell?_of_block (w := w1) (a := ⟨w.heap.size + 1, 0, none⟩) hb).trans ZC0.out; have z1 := (World.cell?_of_block (w := w1) (a := ⟨w.heap.size + 1, 1, none⟩) hb).trans ZC1.out; have z2 := (World.cell?_of_block (w := w1) (a := ⟨w.heap.size + 1, 2, none⟩) hb).trans ZC2.out; have z3 := (World.cell?_of_block (w := w1) (a := ⟨w.heap.size + 1, 3, none⟩) hb).trans ZC3.out; have f0 := (World.frozen?_of_block (w := w1) (a := ⟨w.heap.size + 1, 0, none⟩) hb).trans (ZF.out 0); have f1 := (World.frozen?_of_block (w := w1) (a := ⟨w.heap.size + 1, 1, none⟩) hb).trans (ZF.out 1); have f2 := (World.frozen?_of_block (w := w1) (a := ⟨w.heap.size + 1, 2, none⟩) hb).trans (ZF.out 2); have f3 := (World.frozen?_of_block (w := w1) (a := ⟨w.heap.size + 1, 3, none⟩) hb).trans (ZF.out 3); clear hb))
  have WR : IntKind.i64.wrap (2 * (R : Int)) = 2 * (R : Int) := by simp [IntKind.wrap, IntKind.bits, IntKind.signed]; omega
  have BF := hide' (below4 (p := w.heap.size + 1) (BB.out.drew.trans (B2.out.mono (by show w.heap.size ≤ w1.heap.size; omega))) (by omega) (.int .i64 (S : Int)) (.int .i64 (2 * (R : Int))) (.int .i64 (n : Int)) (.slice ta tn tc))
  obtain ⟨W, hW⟩ : ∃ W, W = ((((w2.setCell ⟨w.heap.size + 1, 0, none⟩ (.int .i64 (S : Int))).setCell ⟨w.heap.size + 1, 1, none⟩ (.int .i64 (2 * (R : Int)))).setCell ⟨w.heap.size + 1, 2, none⟩ (.int .i64 (n : Int))).setCell ⟨w.heap.size + 1, 3, none⟩ (.slice ta tn tc)) := ⟨_, rfl⟩
  obtain ⟨g0, g1, g2, g3⟩ := stored4 z0 z1 z2 z3 _ _ _ _ hW
  rw [← hW] at BF
  simp only [WR]
  rw [← hW]
  clear z0 z1 z2 z3
  go_wp2
  refine bodyPost_ret (v := .agg #[.int .i64 (S : Int), .int .i64 (2 * (R : Int)), .int .i64 (n : Int), .slice ta tn tc]) (by simp [results, Tryd.results134, go_sem, g0, g1, g2, g3]) rfl ?_
  exact ⟨rfl, BF.out⟩
end Go.Proofs.YtdhbdkkchobinaaDoor

