/-
  What the last text of this claim leans on, part 16: Ref4, Pr5, Pr6.
-/
import Derived.Test.YtljdidimoagnhaaDoorJv4
import Derived.Test.YtljdidimoagnhaaDoorJv14
import Derived.Test.YtljdidimoagnhaaDoorJv15
import Derived.Test.YtljdidimoagnhaaDoorJv13
import Derived.Laws.IdiomStrings
import Derived.Laws.BytesArg
namespace Go.Proofs.YtljdidimoagnhaaDoor
open Go.RowKit
set_option linter.unusedVariables false

/-- edenref1.Parse in the midst of a table: its result's block, its rule's, its empty rule's; the table grows. -/
structure RefW (w wr : World) (k st ra : Int) (v : Value) (xs : List Int) : Prop where
  below : Below w.heap.size w wr
  size : w.heap.size + 3 ≤ wr.heap.size
  res : Seven wr w.heap.size (.int .i64 0) (.int .i64 0) (.int .i64 0) (.int .i64 0) (.int .i64 0) (.slice none 0 0) (.string ⟨#[]⟩)
  rr : Seven wr (w.heap.size + 1) (.int .i64 k) (.int .i64 0) (.int .i64 0) (.int .i64 st) (.int .i64 ra) v (.string ⟨#[]⟩)
  no : Seven wr (w.heap.size + 1 + 1) (.int .i64 0) (.int .i64 0) (.int .i64 0) (.int .i64 0) (.int .i64 0) (.slice none 0 0) (.string ⟨#[]⟩)
  fz : ∀ b j, w.heap.size ≤ b → b < w.heap.size + 3 → wr.frozen? ⟨b, j, none⟩ = false
  own : wr.ownsRow (w.heap.size + 3) 3 1 v xs.length (xs.map fun x => .int .i64 x)

theorem Seven.block {w w' : World} {g : Nat} {v0 v1 v2 v3 v4 v5 v6 : Value} (h : Seven w g v0 v1 v2 v3 v4 v5 v6) (e : w'.heap[g]? = w.heap[g]?) : Seven w' g v0 v1 v2 v3 v4 v5 v6 := by
  obtain ⟨c0, c1, c2, c3, c4, c5, c6⟩ := h
  exact ⟨(World.cell?_of_block (w := w) (a := ⟨g, 0, none⟩) e).trans c0, (World.cell?_of_block (w := w) (a := ⟨g, 1, none⟩) e).trans c1, (World.cell?_of_block (w := w) (a := ⟨g, 2, none⟩) e).trans c2, (World.cell?_of_block (w := w) (a := ⟨g, 3, none⟩) e).trans c3, (World.cell?_of_block (w := w) (a := ⟨g, 4, none⟩) e).trans c4, (World.cell?_of_block (w := w) (a := ⟨g, 5, none⟩) e).trans c5, (World.cell?_of_block (w := w) (a := ⟨g, 6, none⟩) e).trans c6⟩
theorem Seven.set5 {w : World} {g : Nat} {v0 v1 v2 v3 v4 v5 v6 : Value} (h : Seven w g v0 v1 v2 v3 v4 v5 v6) (u : Value) : Seven (w.setCell ⟨g, 5, none⟩ u) g v0 v1 v2 v3 v4 u v6 := by
  obtain ⟨c0, c1, c2, c3, c4, c5, c6⟩ := h
  constructor <;> simp [go_sem, c0, c1, c2, c3, c4, c5, c6]

theorem RefW.start (w : World) (k st ra : Int) : RefW w (((w.alloc (.cells zeroCells 24)).alloc (.cells #[.int .i64 k, .int .i64 0, .int .i64 0, .int .i64 st, .int .i64 ra, .slice none 0 0, .string ⟨#[]⟩] 24)).alloc (.cells zeroCells 24)) k st ra (.slice none 0 0) [] := by
  refine ⟨?_, by simp, ?_, ?_, ?_, ?_, ⟨by simp, Or.inl ⟨rfl, by simp⟩⟩⟩
  · exact (((Below.refl _ _).alloc (Nat.le_refl _) _).alloc (by simp) _).alloc (by simp; omega) _
  · constructor <;> simp [go_sem, zeroCells]
  · constructor <;> simp [go_sem]
  · constructor <;> simp [go_sem, zeroCells]
  · intro b j h1 h2
    have h3 : b = w.heap.size ∨ b = w.heap.size + 1 ∨ b = w.heap.size + 1 + 1 := by omega
    rcases h3 with rfl | rfl | rfl <;> simp [go_sem]

theorem RefW.push {w wr w' : World} {k st ra : Int} {v v' : Value} {xs : List Int} {x : Int} (h : RefW w wr k st ra v xs)
    (hg : (wr.alloc (.cells #[.int .i64 x] 3)).grownBy w' v.ownBlock) (ho : w'.ownsRow (w.heap.size + 3) 3 1 v' (xs.length + 1) ((xs.map fun x => .int .i64 x) ++ [.int .i64 x])) :
    RefW w (w'.setCell ⟨w.heap.size + 1, 5, none⟩ v') k st ra v' (xs ++ [x]) := by
  have hz := h.size
  have hob := ownsRow_block h.own
  have hb : ∀ b, b < w.heap.size + 3 → w'.heap[b]? = wr.heap[b]? := fun b hb => by
    rw [hg.block b (by rw [World.size_alloc]; omega) (fun e => by have := hob b e.symm; omega)]
    exact Below.heap_alloc _ _ _ (by omega)
  have hsz : wr.heap.size + 1 ≤ w'.heap.size := by have := hg.size; rw [World.size_alloc] at this; exact this
  have B1 : Below w.heap.size w w' := (h.below.alloc (by omega) _).trans ⟨hg.os, hg.tape, hg.output, hg.size, fun b hbb => hg.block b (by rw [World.size_alloc]; omega) (fun e => by have := hob b e.symm; omega)⟩
  refine ⟨B1.setCell (by simp) _, by rw [World.size_setCell]; omega, ?_, ?_, ?_, ?_, ?_⟩
  · exact (h.res.block (hb _ (by omega))).other (by simp) _
  · exact (h.rr.block (hb _ (by omega))).set5 _
  · exact (h.no.block (hb _ (by omega))).other (by simp) _
  · intro b j h1 h2
    rw [World.frozen?_setCell, World.frozen?_of_block (w := wr) (a := ⟨b, j, none⟩) (hb b h2)]
    exact h.fz b j h1 h2
  · have := ownsRow_setCell_below ho (a := ⟨w.heap.size + 1, 5, none⟩) (by simp) v'
    simpa using this

set_option maxRecDepth 100000 in
set_option maxHeartbeats 1600000 in
theorem ref_W1 (s : ByteArray) (w : World) (hs : s.size ≤ maxLen) (h0 : 0 < s.size) (hk : bt s 0 = 87) (hn : numOk s 1 0 255 = false) :
    Calls Tryd.prog 17 #[.string s] w fun e w' => RefParsed (.inr 1) w e w' := by
  have hne := not_empty h0
  have e0 := bt_lt s 0 h0
  have k0 : ((s[0].toNat : Int) == 66) = false := by simp; omega
  have k1 : ((s[0].toNat : Int) == 87) = true := by simp; omega
  clear e0
  go_enter Tryd.func17, Tryd.ntmps17
  go_wp2_with fail
  refine (Number_any s 1 1 _ rfl hs (by omega)).mono ?_
  rintro e w1 ⟨N, rfl, hN, rfl⟩
  have h1 := hN.lo
  have h2 := hN.hi
  rcases hN.no 0 255 (by omega) hn with q | q
  · have q' : N < 0 := by omega
    clear hN q
    go_wp2
    refine bodyPost_ret (v := .tuple #[.agg zeroCells, .int .i64 1, .bool false]) (by simp [results, Tryd.results17, go_sem, zeroCells]) rfl ?_
    refine RefParsed.bad ?_
    repeat (first | refine Below.setCell ?_ (by simp <;> omega) _ | refine Below.alloc ?_ (by simp <;> omega) _ | exact Below.refl _ _)
  · have q' : 255 < N := by omega
    have q2 : ¬ N < 0 := by omega
    clear hN q
    go_wp2
    refine bodyPost_ret (v := .tuple #[.agg zeroCells, .int .i64 1, .bool false]) (by simp [results, Tryd.results17, go_sem, zeroCells]) rfl ?_
    refine RefParsed.bad ?_
    repeat (first | refine Below.setCell ?_ (by simp <;> omega) _ | refine Below.alloc ?_ (by simp <;> omega) _ | exact Below.refl _ _)
end Go.Proofs.YtljdidimoagnhaaDoor

namespace Go.Proofs.YtljdidimoagnhaaDoor
open Go.RowKit
set_option linter.unusedVariables false

def bval (b : UInt8) : Value := .int .u8 (b.toNat : Int)

theorem conv_nil (w : World) : (convert 105 9 (.slice none 0 0)).run Tryd.prog w = .ok (.string ⟨#[]⟩) w := by kernel_rfl
theorem own_string {w : World} {base : Nat} {v : Value} {l : List UInt8} (h : w.ownsRow base 5 1 v l.length (l.map bval)) :
    (convert 105 9 v).run Tryd.prog w = .ok (.string ⟨l.toArray⟩) w := by
  rcases h.2 with ⟨hv, hn⟩ | ⟨g, cap, cur, hv, hg, hh, hc, hm, hs, ht⟩
  · have hl : l = [] := List.eq_nil_of_length_eq_zero hn
    rw [hv, hl]
    exact conv_nil w
  · rw [hv]
    refine run_convert_bytes_back w 105 9 5 ⟨g, 0, none⟩ cap l Tryd.underlying105 Tryd.underlying5 Tryd.underlying9 fun j hj => ?_
    have hadd : (⟨g, 0, none⟩ : Addr).add j = ⟨g, j, none⟩ := by unfold Addr.add; split <;> simp_all
    rw [hadd]
    have h1 : (cur.toList.take (l.length * 1))[j]? = some (bval l[j]) := by
      rw [ht, List.getElem?_map, List.getElem?_eq_getElem hj]; rfl
    rw [List.getElem?_take, if_pos (by omega)] at h1
    simp only [World.cell?, hh]
    simpa [bval] using h1

/-- The digits of the bits below k. -/
def dl (n k : Nat) : List UInt8 := ((List.range k).filter fun i => n / 2 ^ i % 2 == 1).map fun i => UInt8.ofNat (48 + i)
theorem dl_succ_yes (n k : Nat) (h : n / 2 ^ k % 2 = 1) : dl n (k + 1) = dl n k ++ [UInt8.ofNat (48 + k)] := by
  unfold dl; rw [List.range_succ, List.filter_append]; simp [h]
theorem dl_succ_no (n k : Nat) (h : ¬ n / 2 ^ k % 2 = 1) : dl n (k + 1) = dl n k := by
  unfold dl; rw [List.range_succ, List.filter_append]; simp [h]
theorem dl_len (n k : Nat) : (dl n k).length ≤ k := by
  unfold dl; simp; exact Nat.le_trans (List.length_filter_le _ _) (by simp)
theorem bval_dig (k : Nat) (h : k ≤ 200) : bval (UInt8.ofNat (48 + k)) = .int .u8 (48 + (k : Int)) := by
  unfold bval
  have : (UInt8.ofNat (48 + k)).toNat = 48 + k := by simp; omega
  rw [this]; simp

theorem and_bit' (n k : Nat) (hn : n ≤ 511) : bits BinOp.and IntKind.i64 ((n : Int) / 2 ^ k) 1 = ((n / 2 ^ k % 2 : Nat) : Int) := by
  rw [show ((n : Int) / 2 ^ k) = ((n / 2 ^ k : Nat) : Int) by simp]
  have hl : n / 2 ^ k ≤ n := Nat.div_le_self _ _
  have := i64_and_nat (n / 2 ^ k) 1 (by omega) (by omega)
  simp only [Nat.and_one_is_mod] at this
  exact this

/-- Bytes of the call's own, gathered so far. -/
structure Row8 (w wr : World) (v : Value) (l : List UInt8) : Prop where
  below : Below w.heap.size w wr
  own : wr.ownsRow w.heap.size 5 1 v l.length (l.map bval)
theorem Row8.start (w : World) : Row8 w w (.slice none 0 0) [] := ⟨Below.refl _ _, by simp, Or.inl ⟨rfl, by simp⟩⟩
theorem Row8.push {w wr w' : World} {v v' : Value} {l : List UInt8} {b : UInt8} {x : Value} (h : Row8 w wr v l) (hx : bval b = x)
    (hg : (wr.alloc (.cells #[x] 5)).grownBy w' v.ownBlock) (ho : w'.ownsRow w.heap.size 5 1 v' (l.length + 1) (l.map bval ++ [x])) : Row8 w w' v' (l ++ [b]) := by
  have hz := h.below.size
  have hob := ownsRow_block h.own
  refine ⟨(h.below.alloc hz _).trans ⟨hg.os, hg.tape, hg.output, hg.size, fun k hk => hg.block k (by rw [World.size_alloc]; omega) (fun e => by have := hob k e.symm; omega)⟩, ?_⟩
  simpa [hx] using ho

set_option maxHeartbeats 1600000 in
theorem digitsOf_any (n : Nat) (w : World) (hn : n ≤ 511) :
    Calls Tryd.prog 81 #[.int .i64 (n : Int)] w fun e w' => e = .returned (.string ⟨(dl n 9).toArray⟩) ∧ Below w.heap.size w w' := by
  obtain ⟨i0, hi, hz0, hz1, hz2⟩ := info_parts info_u8
  have S := hide' (Row8.start w)
  go_enter Tryd.func81, Tryd.ntmps81
  go_wp2
  go_loopw [3, 4] (fun ov kv wr => ∃ k : Nat, kv = .int .i64 (k : Int) ∧ k ≤ 9 ∧ Row8 w wr ov (dl n k)) (fun _ kv _ => 9 - (intOf kv).toNat)
  case atStart => exact ⟨0, rfl, by omega, S.out⟩
  case round =>
    obtain ⟨k, rfl, hk, hR⟩ := hrel
    have HR := hide' hR
    have ho := hR.own
    have hz := hR.below.size
    have hl := dl_len n k
    obtain ⟨sa, sn, sc, rfl⟩ := ownsRow_slice ho
    have HO := hide' ho
    have hcv := own_string ho
    clear hR ho S
    by_cases c : (k : Int) ≤ 8
    · have ab := and_bit' n k hn
      by_cases d : n / 2 ^ k % 2 = 1
      · have t : ((bits BinOp.and IntKind.i64 ((n : Int) / 2 ^ k) 1) == 1) = true := by rw [ab, d]; rfl
        have D := hide' d
        clear ab d hcv
        go_wp2_with (at_builtin; refine wpList_append_own _ rfl _ _ 105 rfl w.heap.size 5 i0 (.int .u8 0) 1 1 Tryd.underlying105 hi hz0 hz1 hz2 rfl (by decide) (.slice sa sn sc) _ _ rfl (HO.out.alloc _) ⟨wr.heap.size, 0, none⟩ 1 1 [.int .u8 (48 + (k : Int))] rfl rfl (cell_one_new _ _ _) (fun x hx => by simp at hx; subst hx; rfl) (by unfold maxLen; simp; omega) (by simp; omega) (by simp; omega) ?_; intro v' w3 hown' hgrow3 hnil3; have G3 := hide' hgrow3; have O3 := hide' hown'; clear hgrow3 hown' hnil3)
        refine ⟨⟨k + 1, by go_num, by omega, ?_⟩, by simp [intOf]; omega⟩
        rw [dl_succ_yes n k D.out]
        exact HR.out.push (bval_dig k (by omega)) G3.out O3.out
      · have t : ((bits BinOp.and IntKind.i64 ((n : Int) / 2 ^ k) 1) == 1) = false := by rw [ab, beq_eq_false_iff_ne]; exact fun q => d (by exact_mod_cast q)
        have D := hide' d
        clear ab d hcv
        go_wp2
        refine ⟨⟨k + 1, by go_num, by omega, ?_⟩, by simp [intOf]; omega⟩
        rw [dl_succ_no n k D.out]
        exact HR.out
    · have K := hide' (show k = 9 by omega)
      go_wp2
      go_ret
      have e := HR.out.below
      rw [K.out]
      exact ⟨rfl, e⟩
theorem and_pow (n m k : Nat) (hn : n ≤ 511) (hm : m ≤ 512) (h : m = 2 ^ k) : ((bits BinOp.and IntKind.i64 (n : Int) (m : Int)) != 0) = true ↔ n / 2 ^ k % 2 = 1 := by
  rw [i64_and_nat n m (by omega) (by omega), bne_iff_ne, h]
  have ht : n.testBit k = decide (n / 2 ^ k % 2 = 1) := Nat.testBit_eq_decide_div_mod_eq
  constructor
  · intro hne
    cases q : n.testBit k with
    | true => rw [q] at ht; simpa using ht.symm
    | false =>
      exfalso
      apply hne
      have : n &&& 2 ^ k = 0 := by
        apply Nat.eq_of_testBit_eq
        intro i
        rw [Nat.testBit_and, Nat.testBit_two_pow]
        by_cases e : k = i
        · subst e; simp [q]
        · simp [e]
      rw [this]; rfl
  · intro hq he
    have h0 : n &&& 2 ^ k = 0 := by exact_mod_cast he
    have h1 : (n &&& 2 ^ k).testBit k = true := by
      rw [Nat.testBit_and, Nat.testBit_two_pow, ht]; simp [hq]
    rw [h0] at h1
    simp at h1

set_option maxHeartbeats 1600000 in
theorem bits_ref (n : Nat) (w : World) (hn : n ≤ 511) :
    Calls Tryd.prog 83 #[.int .i64 (n : Int)] w fun e w' => e = .returned (.string ⟨(dl n 9).toArray⟩) ∧ Below w.heap.size w w' := by
  obtain ⟨i0, hi, hz0, hz1, hz2⟩ := info_parts info_u8
  have S := hide' (Row8.start w)
  go_enter Tryd.func83, Tryd.ntmps83
  go_wp2
  go_loopw [3, 4, 5] (fun ov mv kv wr => ∃ k m : Nat, kv = .int .i64 (k : Int) ∧ mv = .int .i64 (m : Int) ∧ m = 2 ^ k ∧ k ≤ 9 ∧ Row8 w wr ov (dl n k)) (fun _ _ kv _ => 9 - (intOf kv).toNat)
  case atStart => exact ⟨0, 1, rfl, rfl, rfl, by omega, S.out⟩
  case round =>
    obtain ⟨k, m, rfl, rfl, hm, hk, hR⟩ := hrel
    have hm2 : m ≤ 512 := by rw [hm]; exact Nat.le_trans (Nat.pow_le_pow_right (by omega) hk) (by decide)
    have HM := hide' hm
    have HM2 := hide' (show m * 2 = 2 ^ (k + 1) by rw [Nat.pow_succ, hm])
    clear hm
    have HR := hide' hR
    have ho := hR.own
    have hz := hR.below.size
    have hl := dl_len n k
    obtain ⟨sa, sn, sc, rfl⟩ := ownsRow_slice ho
    have HO := hide' ho
    have hcv := own_string ho
    clear hR ho S
    by_cases c : (k : Int) < 9
    · have ab := and_pow n m k hn hm2 HM.out
      by_cases d : n / 2 ^ k % 2 = 1
      · have t : ((bits BinOp.and IntKind.i64 (n : Int) (m : Int)) != 0) = true := ab.2 d
        have D := hide' d
        clear ab d hcv
        go_wp2_with (at_builtin; refine wpList_append_own _ rfl _ _ 105 rfl w.heap.size 5 i0 (.int .u8 0) 1 1 Tryd.underlying105 hi hz0 hz1 hz2 rfl (by decide) (.slice sa sn sc) _ _ rfl (HO.out.alloc _) ⟨wr.heap.size, 0, none⟩ 1 1 [.int .u8 (48 + (k : Int))] rfl rfl (cell_one_new _ _ _) (fun x hx => by simp at hx; subst hx; rfl) (by unfold maxLen; simp; omega) (by simp; omega) (by simp; omega) ?_; intro v' w3 hown' hgrow3 hnil3; have G3 := hide' hgrow3; have O3 := hide' hown'; clear hgrow3 hown' hnil3)
        refine ⟨⟨k + 1, m * 2, by go_num, by go_num, HM2.out, by omega, ?_⟩, by simp [intOf]; omega⟩
        rw [dl_succ_yes n k D.out]
        exact HR.out.push (bval_dig k (by omega)) G3.out O3.out
      · have t : ((bits BinOp.and IntKind.i64 (n : Int) (m : Int)) != 0) = false := by
          cases q : ((bits BinOp.and IntKind.i64 (n : Int) (m : Int)) != 0) with
          | true => exact absurd (ab.1 q) d
          | false => rfl
        have D := hide' d
        clear ab d hcv
        go_wp2
        refine ⟨⟨k + 1, m * 2, by go_num, by go_num, HM2.out, by omega, ?_⟩, by simp [intOf]; omega⟩
        rw [dl_succ_no n k D.out]
        exact HR.out
    · have K := hide' (show k = 9 by omega)
      go_wp2
      go_ret
      have e := HR.out.below
      rw [K.out]
      exact ⟨rfl, e⟩
end Go.Proofs.YtljdidimoagnhaaDoor

namespace Go.Proofs.YtljdidimoagnhaaDoor
open Go.RowKit
set_option linter.unusedVariables false

/-- The table read as a number, low bit first. -/
def tabNum (xs : List Int) : Nat → Nat
  | 0 => 0
  | k + 1 => tabNum xs k + (xs.getD k 0).toNat * 2 ^ k
theorem tabNum_lt (xs : List Int) (h : ∀ k, k < xs.length → 0 ≤ xs.getD k 0 ∧ xs.getD k 0 < 2) : ∀ k, k ≤ xs.length → tabNum xs k < 2 ^ k
  | 0, _ => by simp [tabNum]
  | k + 1, hk => by
    have ih := tabNum_lt xs h k (by omega)
    have hx := h k (by omega)
    have : (xs.getD k 0).toNat = 0 ∨ (xs.getD k 0).toNat = 1 := by omega
    unfold tabNum
    rw [Nat.pow_succ]
    rcases this with e | e <;> rw [e] <;> omega

theorem wrapsum (t k : Nat) (x : Int) (ht : t ≤ 255) (hx : x = 0 ∨ x = 1) (hk : k ≤ 7) : wrap64 ((t : Int) + wrap64 (x * 2 ^ k)) = ((t + x.toNat * 2 ^ k : Nat) : Int) := by
  have hp : 2 ^ k ≤ 2 ^ 7 := Nat.pow_le_pow_right (by omega) hk
  have e : ((2 : Int) ^ k) = ((2 ^ k : Nat) : Int) := by simp
  rw [e]
  generalize 2 ^ k = p at *
  rcases hx with rfl | rfl
  · simp [wrap64]; omega
  · simp [wrap64]; omega

set_option maxHeartbeats 1600000 in
theorem numberOf_any (o : Out) (a : Option Addr) (n c : Nat) (w : World) (hR : ArgR w o a n c) (h8 : n = 8) (hb : ∀ k, k < o.table.length → 0 ≤ o.table.getD k 0 ∧ o.table.getD k 0 < 2) :
    Calls Tryd.prog 145 #[.slice a n c] w fun e w' => e = .returned (.int .i64 (tabNum o.table 8 : Int)) ∧ w' = w := by
  have hlen := hR.len
  have HR := hide' hR
  have HB := hide' hb
  have H8 := hide' h8
  have n8 : n ≤ 8 := by omega
  have HL := hide' hlen
  clear hR hb h8 hlen
  go_enter Tryd.func145, Tryd.ntmps145
  go_wp2
  go_loop [3, 8] (fun sv kv => ∃ k t : Nat, kv = .int .i64 (k : Int) ∧ sv = .int .i64 (t : Int) ∧ k ≤ n ∧ t ≤ 255 ∧ t = tabNum o.table k) (fun _ kv => n - (intOf kv).toNat)
  case atStart => exact ⟨0, 0, rfl, rfl, by omega, by omega, rfl⟩
  case round =>
    obtain ⟨k, t, rfl, rfl, hk, ht, hte⟩ := hrel
    have HT := hide' hte
    clear hte
    by_cases d : (k : Int) < (n : Int)
    · have hkl : k < o.table.length := by have := HL.out; omega
      obtain ⟨g, off, rfl, hg, hc⟩ := HR.out.cells k hkl
      have hx := HB.out k hkl
      have hget : o.table.getD k 0 = o.table[k] := by simp [List.getD, hkl]
      rw [hget] at hx
      have hlt := tabNum_lt o.table HB.out (k + 1) (by omega)
      have hp8 : 2 ^ (k + 1) ≤ 2 ^ 8 := Nat.pow_le_pow_right (by omega) (by omega)
      have T2 := hide' (show tabNum o.table (k + 1) = t + (o.table[k]).toNat * 2 ^ k by unfold tabNum; rw [hget, ← HT.out])
      have L2 := hide' (show tabNum o.table (k + 1) ≤ 255 by omega)
      have hcase : o.table[k] = 0 ∨ o.table[k] = 1 := by omega
      clear hlt hp8 hget hx
      have hk7 : (k : Int) ≤ 7 := by omega
      go_wp2
      rw [wrapsum t k o.table[k] ht hcase (by omega)]
      exact ⟨⟨k + 1, _, by go_num, rfl, by omega, by have := L2.out; rw [T2.out] at this; exact this, T2.out.symm⟩, by simp [intOf]; omega⟩
    · go_wp2
      go_ret
      have : k = 8 := by have := H8.out; omega
      rw [HT.out, this]
      exact ⟨rfl, rfl⟩

/-- At block g a list of n bytes of the call's own, the first k of which are f's. -/
structure FillB (w0 w : World) (g n k : Nat) (f : Nat → UInt8) : Prop where
  below : Below w0.heap.size w0 w
  ge : w0.heap.size ≤ g
  lt : g < w.heap.size
  cells : ∀ j, j < n → ∃ v, w.cell? ⟨g, j, none⟩ = some v ∧ (j < k → v = bval (f j))
  fz : ∀ j, w.frozen? ⟨g, j, none⟩ = false
theorem FillB.start (w : World) (n : Nat) (f : Nat → UInt8) (z : Value) (t : TypeId) : FillB w (w.alloc (.cells (madeCells #[z] n) t)) w.heap.size n 0 f := by
  refine ⟨(Below.refl _ _).alloc (Nat.le_refl _) _, Nat.le_refl _, by simp, fun j hj => ⟨(madeCells #[z] n)[j]'(by rw [size_madeCells]; exact hj), ?_, by omega⟩, fun j => by simp⟩
  rw [World.cell?_alloc_at _ _ _ _ rfl]
  exact Array.getElem?_eq_getElem (by rw [size_madeCells]; exact hj)
theorem FillB.step {w0 w : World} {g n k : Nat} {f : Nat → UInt8} (h : FillB w0 w g n k f) (hk : k < n) {x : Value} (hx : bval (f k) = x) : FillB w0 (w.setCell ⟨g, k, none⟩ x) g n (k + 1) f := by
  refine ⟨h.below.setCell h.ge _, h.ge, by rw [World.size_setCell]; exact h.lt, fun j hj => ?_, fun j => by rw [World.frozen?_setCell]; exact h.fz j⟩
  by_cases e : j = k
  · subst e
    obtain ⟨v, hv, -⟩ := h.cells j hj
    exact ⟨_, World.cell?_setCell_same _ _ _ hv, fun _ => hx.symm⟩
  · obtain ⟨v, hv, hv'⟩ := h.cells j hj
    refine ⟨v, ?_, fun _ => hv' (by omega)⟩
    exact (World.cell?_setCell_other _ ⟨g, k, none⟩ ⟨g, j, none⟩ _ (fun q => e (congrArg Addr.off q).symm)).trans hv
theorem FillB.string {w0 w : World} {g n cap : Nat} {f : Nat → UInt8} (h : FillB w0 w g n n f) :
    (convert 105 9 (.slice (some ⟨g, 0, none⟩) n cap)).run Tryd.prog w = .ok (.string ⟨((List.range n).map f).toArray⟩) w := by
  have := run_convert_bytes_back (P := Tryd.prog) w 105 9 5 ⟨g, 0, none⟩ cap ((List.range n).map f) Tryd.underlying105 Tryd.underlying5 Tryd.underlying9 (fun j hj => by
    have hadd : (⟨g, 0, none⟩ : Addr).add j = ⟨g, j, none⟩ := by unfold Addr.add; split <;> simp_all
    simp at hj
    obtain ⟨v, hv, hv'⟩ := h.cells j hj
    rw [hadd, hv, hv' hj]
    simp [bval])
  simpa using this

def stB (xs : List Int) (i : Nat) : UInt8 := UInt8.ofNat (48 + (xs.getD i 0).toNat)

set_option maxHeartbeats 1600000 in
theorem statesOf_any (o : Out) (a : Option Addr) (n c : Nat) (w : World) (hR : ArgR w o a n c) (hn4 : n ≤ 4096) (hb : ∀ k, k < o.table.length → 0 ≤ o.table.getD k 0 ∧ o.table.getD k 0 < 4) :
    Calls Tryd.prog 146 #[.slice a n c] w fun e w' => e = .returned (.string ⟨((List.range n).map (stB o.table)).toArray⟩) ∧ Below w.heap.size w w' := by
  have hlen := hR.len
  have HR := hide' hR
  have HB := hide' hb
  have HL := hide' hlen
  have hmk := run_make_row' (P := Tryd.prog) 105 5 (.int .u8 0) 1 Tryd.underlying105 info_u8 rfl .i64 .i64 n (by omega) (by omega)
  have S := hide' (FillB.start w n (stB o.table) (.int .u8 0) 5)
  clear hR hb hlen
  go_enter Tryd.func146, Tryd.ntmps146
  go_wp2
  go_loopw [11] (fun kv wr => ∃ k : Nat, kv = .int .i64 (k : Int) ∧ k ≤ n ∧ FillB w wr w.heap.size n k (stB o.table)) (fun kv _ => n - (intOf kv).toNat)
  case atStart => exact ⟨0, rfl, by omega, S.out⟩
  case round =>
    obtain ⟨k, rfl, hk, fk⟩ := hrel
    have FK := hide' fk
    clear hmk S
    by_cases d : (k : Int) < (n : Int)
    · have hkl : k < o.table.length := by have := HL.out; omega
      obtain ⟨g, off, rfl, hg, hc⟩ := (HR.out.below fk.below).cells k hkl
      obtain ⟨v, hv, -⟩ := fk.cells k (by omega)
      have hf := fk.fz k
      have hx := HB.out k hkl
      have hget : o.table.getD k 0 = o.table[k] := by simp [List.getD, hkl]
      have X := hide' (show bval (stB o.table k) = .int .u8 (48 + o.table[k]) by
        unfold stB
        rw [bval_dig _ (by omega), hget]
        rw [hget] at hx
        congr 1
        omega)
      rw [hget] at hx
      clear fk hget
      go_wp2
      exact ⟨⟨k + 1, by go_num, by omega, FK.out.step (by omega) X.out⟩, by simp [intOf]; omega⟩
    · have K := hide' (show k = n by omega)
      have ff := FK.out
      rw [K.out] at ff
      have hcv := ff.string (cap := n)
      clear fk ff
      go_wp2
      go_ret
      exact ⟨rfl, FK.out.below⟩
end Go.Proofs.YtljdidimoagnhaaDoor

