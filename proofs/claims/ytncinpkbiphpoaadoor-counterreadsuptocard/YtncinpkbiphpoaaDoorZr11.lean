/-
  What the last text of this claim leans on, part 11: Cl3, Ck8, Cl4.
-/
import Derived.Test.YtncinpkbiphpoaaDoorZr10
import Derived.Test.YtncinpkbiphpoaaDoorZr6
namespace Go.Proofs.YtncinpkbiphpoaaDoor
open Go.RowKit
set_option linter.unusedVariables false
/-- What line answers. -/
def LnP (r : Option InsT) (w : World) (e : Ending) (w' : World) : Prop :=
  Below w.heap.size w w' ∧ ((∃ x, r = some x ∧ e = .returned (.tuple #[insA x, .bool true])) ∨ (r = none ∧ e = .returned (.tuple #[insA (0, 0, 0, 0), .bool false])))
theorem bq (a b : List UInt8) : (a == b) = (b == a) := by
  rw [Bool.eq_iff_iff, beq_iff_eq, beq_iff_eq]; exact ⟨Eq.symm, Eq.symm⟩
theorem lineR_halt {l : List UInt8} (h : (l == [104, 97, 108, 116]) = true) : lineR l = some (3, 0, 0, 0) := by unfold lineR; rw [bq, if_pos h]
theorem lineR_short {l : List UInt8} (h : (l == [104, 97, 108, 116]) = false) (h3 : l.length < 3) : lineR l = none := by unfold lineR; rw [bq, if_neg (by rw [h]; decide), if_pos h3]
theorem lineR_none {l : List UInt8} (h : (l == [104, 97, 108, 116]) = false) (h3 : ¬ l.length < 3) (hn : numsR l.length (l.drop 3) = none) : lineR l = none := by unfold lineR; rw [bq, if_neg (by rw [h]; decide), if_neg h3, hn]
theorem lineR_some {l : List UInt8} {vs : List Int} (h : (l == [104, 97, 108, 116]) = false) (h3 : ¬ l.length < 3) (hn : numsR l.length (l.drop 3) = some vs) : lineR l = if (l.take 3 == [105, 110, 99]) && decide (vs.length = 2) then some (1, vs.getD 0 0, vs.getD 1 0, 0) else if (l.take 3 == [100, 101, 99]) && decide (vs.length = 3) then some (2, vs.getD 0 0, vs.getD 1 0, vs.getD 2 0) else none := by unfold lineR; rw [bq, if_neg (by rw [h]; decide), if_neg h3, hn, bq (l.take 3), bq (l.take 3)]
theorem ArgP.cel {w : World} {xs : List Int} {g off n c : Nat} (h : ArgP w xs (some ⟨g, off, none⟩) n c) (k : Nat) (hk : k < xs.length) : w.cell? ⟨g, off + k, none⟩ = some (.int .i64 (xs.getD k 0)) := by
  obtain ⟨g', off', e, -, hc⟩ := h.cells k hk
  cases e
  rw [hc]; simp [List.getD, hk]
set_option maxRecDepth 100000 in
set_option maxHeartbeats 12800000 in
theorem refLine_any (l : List UInt8) (w : World) (hl : l.length ≤ 1048576) : Calls Tryd.prog 10 #[.string ⟨l.toArray⟩] w (LnP (lineR l) w) := by
  have HL := hide' hl
  cases h0 : (l == [104, 97, 108, 116]) with
  | true =>
    have F := hide' (lineR_halt h0)
    have B1 := hide' ((Below.refl w.heap.size w).alloc (Nat.le_refl _) (.cells #[.int .i64 0, .int .i64 0, .int .i64 0, .int .i64 0] 34))
    go_enter Tryd.func10, Tryd.ntmps10
    go_wp2
    refine bodyPost_ret (v := .tuple #[insA (3, 0, 0, 0), .bool true]) (by simp [results, Tryd.results10, go_sem, insA]) rfl ?_
    refine ⟨?_, Or.inl ⟨_, F.out, rfl⟩⟩
    repeat (first | exact Below.refl _ _ | refine Below.setCell ?_ (by simp) _ | refine Below.alloc ?_ (by simp) _)
  | false =>
    by_cases h3 : l.length < 3
    · have F := hide' (lineR_short h0 h3)
      have h3' : (l.length : Int) < 3 := by omega
      clear h3
      go_enter Tryd.func10, Tryd.ntmps10
      go_wp2
      refine bodyPost_ret (v := .tuple #[insA (0, 0, 0, 0), .bool false]) (by simp [results, Tryd.results10, go_sem, insA]) rfl ?_
      refine ⟨?_, Or.inr ⟨F.out, rfl⟩⟩
      repeat (first | exact Below.refl _ _ | refine Below.setCell ?_ (by simp) _ | refine Below.alloc ?_ (by simp) _)
    · have h3' : ¬ (l.length : Int) < 3 := by omega
      have NU := hide' (fun V => refNumbers_any l 3 V hl (by omega))
      have FN := hide' (fun hn => lineR_none h0 h3 hn)
      have FS := hide' (fun vs hn => lineR_some (vs := vs) h0 h3 hn)
      obtain ⟨R, hR⟩ : ∃ R, numsR l.length (l.drop 3) = R := ⟨_, rfl⟩
      rw [hR] at NU FN FS
      have x3 : (3 : Int) ≤ (l.length : Int) := by omega
      have X3 : (⟨l.toArray⟩ : ByteArray).extract 0 3 = ⟨(l.take 3).toArray⟩ := by apply ByteArray.ext; simp
      clear hR h3
      go_enter Tryd.func10, Tryd.ntmps10
      go_wp2_with fail
      refine (NU.out _).mono ?_
      rintro e w2 ⟨hb, ⟨vs, a, q, rfl, rfl, hA⟩ | ⟨rfl, rfl⟩⟩
      · have FF := hide' (FS.out vs rfl)
        have B2 := hide' (show Below w.heap.size w w2 from ((Below.refl _ w).alloc (Nat.le_refl _) _).trans (hb.mono (by simp)))
        have R2 := hide' (show w2.heap[w.heap.size]? = some (.cells #[.int .i64 0, .int .i64 0, .int .i64 0, .int .i64 0] 34 (0, 0)) from (hb.block _ (by simp)).trans (heap_alloc_new _ _))
        have i0 := cell_of_row w2 _ 0 _ _ _ R2.out
        have i1 := cell_of_row w2 _ 1 _ _ _ R2.out
        have i2 := cell_of_row w2 _ 2 _ _ _ R2.out
        have i3 := cell_of_row w2 _ 3 _ _ _ R2.out
        simp at i0 i1 i2 i3
        have j0 := frozen_of_row w2 _ 0 _ _ R2.out
        have j1 := frozen_of_row w2 _ 1 _ _ R2.out
        have j2 := frozen_of_row w2 _ 2 _ _ R2.out
        have j3 := frozen_of_row w2 _ 3 _ _ R2.out
        have HA := hide' hA
        obtain ⟨n, hn⟩ : ∃ n, vs.length = n := ⟨_, rfl⟩
        rw [hn] at FF HA ⊢
        have HN := hide' hn
        clear hb hA hn
        cases b1 : (l.take 3 == [105, 110, 99]) with
        | true =>
          have b2 : (l.take 3 == [100, 101, 99]) = false := by
            rw [beq_iff_eq] at b1; rw [b1]; rfl
          rw [b1, b2] at FF
          by_cases n2 : n = 2
          · subst n2
            have F := hide' (show lineR l = some (1, vs.getD 0 0, vs.getD 1 0, 0) by rw [FF.out]; rfl)
            obtain ⟨g, off, rfl, -, -⟩ := HA.out.cells 0 (by have := HN.out; omega)
            have c0 := HA.out.cel 0 (by have := HN.out; omega)
            have c1 := HA.out.cel 1 (by have := HN.out; omega)
            obtain ⟨v0, hv0⟩ : ∃ v, vs.getD 0 0 = v := ⟨_, rfl⟩
            obtain ⟨v1, hv1⟩ : ∃ v, vs.getD 1 0 = v := ⟨_, rfl⟩
            rw [hv0, hv1] at F
            rw [hv0, Nat.add_zero] at c0
            rw [hv1] at c1
            clear hv0 hv1 FF
            go_wp2
            go_region
            go_wp2
            refine bodyPost_ret (v := .tuple #[insA (1, v0, v1, 0), .bool true]) (by simp [results, Tryd.results10, go_sem, insA, i0, i1, i2, i3]) rfl ?_
            refine ⟨?_, Or.inl ⟨_, F.out, rfl⟩⟩
            repeat (first | exact B2.out | refine Below.setCell ?_ (by simp) _ | refine Below.drew ?_)
          · have F := hide' (show lineR l = none by rw [FF.out]; simp [n2])
            have n2' : ((n : Int) == 2) = false := by rw [beq_eq_false_iff_ne]; omega
            clear n2 FF
            go_wp2
            refine bodyPost_ret (v := .tuple #[insA (0, 0, 0, 0), .bool false]) (by simp [results, Tryd.results10, go_sem, insA, i0, i1, i2, i3]) rfl ?_
            refine ⟨?_, Or.inr ⟨F.out, rfl⟩⟩
            repeat (first | exact B2.out | refine Below.setCell ?_ (by simp) _ | refine Below.drew ?_)
        | false =>
          rw [b1] at FF
          cases b2 : (l.take 3 == [100, 101, 99]) with
          | true =>
            rw [b2] at FF
            by_cases n3 : n = 3
            · subst n3
              have F := hide' (show lineR l = some (2, vs.getD 0 0, vs.getD 1 0, vs.getD 2 0) by rw [FF.out]; rfl)
              obtain ⟨g, off, rfl, -, -⟩ := HA.out.cells 0 (by have := HN.out; omega)
              have c0 := HA.out.cel 0 (by have := HN.out; omega)
              have c1 := HA.out.cel 1 (by have := HN.out; omega)
              have c2 := HA.out.cel 2 (by have := HN.out; omega)
              obtain ⟨v0, hv0⟩ : ∃ v, vs.getD 0 0 = v := ⟨_, rfl⟩
              obtain ⟨v1, hv1⟩ : ∃ v, vs.getD 1 0 = v := ⟨_, rfl⟩
              obtain ⟨v2, hv2⟩ : ∃ v, vs.getD 2 0 = v := ⟨_, rfl⟩
              rw [hv0, hv1, hv2] at F
              rw [hv0, Nat.add_zero] at c0
              rw [hv1] at c1
              rw [hv2] at c2
              clear hv0 hv1 hv2 FF
              go_wp2
              go_region
              go_wp2
              refine bodyPost_ret (v := .tuple #[insA (2, v0, v1, v2), .bool true]) (by simp [results, Tryd.results10, go_sem, insA, i0, i1, i2, i3]) rfl ?_
              refine ⟨?_, Or.inl ⟨_, F.out, rfl⟩⟩
              repeat (first | exact B2.out | refine Below.setCell ?_ (by simp) _ | refine Below.drew ?_)
            · have F := hide' (show lineR l = none by rw [FF.out]; simp [n3])
              have n3' : ((n : Int) == 3) = false := by rw [beq_eq_false_iff_ne]; omega
              clear n3 FF
              go_wp2
              refine bodyPost_ret (v := .tuple #[insA (0, 0, 0, 0), .bool false]) (by simp [results, Tryd.results10, go_sem, insA, i0, i1, i2, i3]) rfl ?_
              refine ⟨?_, Or.inr ⟨F.out, rfl⟩⟩
              repeat (first | exact B2.out | refine Below.setCell ?_ (by simp) _ | refine Below.drew ?_)
          | false =>
            rw [b2] at FF
            have F := hide' (show lineR l = none by rw [FF.out]; rfl)
            clear FF
            go_wp2
            refine bodyPost_ret (v := .tuple #[insA (0, 0, 0, 0), .bool false]) (by simp [results, Tryd.results10, go_sem, insA, i0, i1, i2, i3]) rfl ?_
            refine ⟨?_, Or.inr ⟨F.out, rfl⟩⟩
            repeat (first | exact B2.out | refine Below.setCell ?_ (by simp) _ | refine Below.drew ?_)
      · have F := hide' (FN.out rfl)
        have B2 := hide' (show Below w.heap.size w w2 from ((Below.refl _ w).alloc (Nat.le_refl _) _).trans (hb.mono (by simp)))
        have R2 := hide' (show w2.heap[w.heap.size]? = some (.cells #[.int .i64 0, .int .i64 0, .int .i64 0, .int .i64 0] 34 (0, 0)) from (hb.block _ (by simp)).trans (heap_alloc_new _ _))
        have i0 := cell_of_row w2 _ 0 _ _ _ R2.out
        have i1 := cell_of_row w2 _ 1 _ _ _ R2.out
        have i2 := cell_of_row w2 _ 2 _ _ _ R2.out
        have i3 := cell_of_row w2 _ 3 _ _ _ R2.out
        simp at i0 i1 i2 i3
        have j0 := frozen_of_row w2 _ 0 _ _ R2.out
        have j1 := frozen_of_row w2 _ 1 _ _ R2.out
        have j2 := frozen_of_row w2 _ 2 _ _ R2.out
        have j3 := frozen_of_row w2 _ 3 _ _ R2.out
        clear hb
        go_wp2
        refine bodyPost_ret (v := .tuple #[insA (0, 0, 0, 0), .bool false]) (by simp [results, Tryd.results10, go_sem, insA, i0, i1, i2, i3]) rfl ?_
        refine ⟨?_, Or.inr ⟨F.out, rfl⟩⟩
        repeat (first | exact B2.out | refine Below.setCell ?_ (by simp) _ | refine Below.drew ?_)
end Go.Proofs.YtncinpkbiphpoaaDoor

namespace Go.Proofs.YtncinpkbiphpoaaDoor
open Go.RowKit
set_option linter.unusedVariables false
/-- What is wrong with a text. -/
def parE (L : List UInt8) : Nat := if (linesC L.length L).2 = true then codeE (linesC L.length L).1 else 2
/-- What Parse answers. -/
def ParP (L : List UInt8) (w : World) (e : Ending) (w' : World) : Prop :=
  Below w.heap.size w w' ∧ ((parE L = 0 ∧ ∃ a q, e = .returned (.tuple #[.slice a (linesC L.length L).1.length q, .int .i64 0, .nilIface]) ∧ ArgI w' (linesC L.length L).1 a (linesC L.length L).1.length q) ∨ (parE L ≠ 0 ∧ e = .returned (.tuple #[.slice none 0 0, .int .i64 ((linesC L.length L).1.length : Int), errOf (parE L)])))
theorem code_take (xs : List InsT) : codeE (xs.take 13) = codeE xs := by
  by_cases h : xs.length ≤ 13
  · rw [List.take_of_length_le h]
  · unfold codeE
    rw [if_pos (by rw [List.length_take]; omega), if_pos (by omega)]
theorem code_small {xs : List InsT} (h : codeE xs = 0) : xs.take 13 = xs := List.take_of_length_le (by have := (code_at h).2.1; omega)
set_option maxRecDepth 100000 in
set_option maxHeartbeats 3200000 in
theorem counterParse_any (L : List UInt8) (w : World) (hl : L.length ≤ 1048576) (hU : UsT w) (hW : WoT w) : Calls Tryd.prog 4 #[.string ⟨L.toArray⟩] w (ParP L w) := by
  have HU := hide' (fun (V : World) (h : Below w.heap.size w V) => hU.below h)
  have RL := hide' (readLines_any L w hl hU hW)
  have PE := hide' (show parE L = if (linesC L.length L).2 = true then codeE (linesC L.length L).1 else 2 from rfl)
  have PD := hide' (fun e w' => show ParP L w e w' = (Below w.heap.size w w' ∧ ((parE L = 0 ∧ ∃ a q, e = .returned (.tuple #[.slice a (linesC L.length L).1.length q, .int .i64 0, .nilIface]) ∧ ArgI w' (linesC L.length L).1 a (linesC L.length L).1.length q) ∨ (parE L ≠ 0 ∧ e = .returned (.tuple #[.slice none 0 0, .int .i64 ((linesC L.length L).1.length : Int), errOf (parE L)])))) from rfl)
  obtain ⟨⟨xs, b⟩, hr⟩ : ∃ r, linesC L.length L = r := ⟨_, rfl⟩
  rw [hr] at RL PE PD
  simp only at PE PD
  clear hU hW hl hr
  go_enter Tryd.func4, Tryd.ntmps4
  go_wp2_with fail
  refine RL.out.mono ?_
  rintro e w1 ⟨b1, ⟨ht, a, q, rfl, ho⟩ | ⟨hf, rfl⟩⟩
  · simp only at ht ho ⊢
    subst ht
    have PE1 := hide' (show parE L = codeE xs by rw [PE.out, if_pos rfl])
    have AR := hide' (own_argI ho)
    have CK := hide' (counterCheck_any (xs.take 13) a (xs.take 13).length q w1 AR.out (HU.out w1 b1))
    rw [code_take] at CK
    have B1 := hide' b1
    by_cases hc : codeE xs = 0
    · have TS := hide' (code_small hc)
      have HC := hide' hc
      rw [hc, show errOf 0 = .nilIface from rfl] at CK
      clear hc b1 ho
      rw [TS.out] at CK AR
      rw [TS.out]
      obtain ⟨n, hn⟩ : ∃ n, xs.length = n := ⟨_, rfl⟩
      rw [hn] at CK AR ⊢
      have HN := hide' hn
      clear hn
      go_wp2_with fail
      refine CK.out.mono ?_
      rintro e w2 ⟨rfl, b2⟩
      have B2 := hide' b2
      clear b2
      go_wp2
      go_ret3
      rw [PD.out]
      exact ⟨B1.out.trans (B2.out.mono B1.out.size), Or.inl ⟨by rw [PE1.out, HC.out], a, q, by rw [HN.out]; rfl, by rw [HN.out]; exact AR.out.below B2.out⟩⟩
    · have HC := hide' hc
      rw [errOf_is hc] at CK
      have EE := hide' (errOf_is hc)
      obtain ⟨m, hm⟩ : ∃ m, xs.length = m := ⟨_, rfl⟩
      rw [hm]
      have HM := hide' hm
      obtain ⟨n, hn⟩ : ∃ n, (xs.take 13).length = n := ⟨_, rfl⟩
      rw [hn] at CK ⊢
      clear hc b1 ho hm hn
      go_wp2_with fail
      refine CK.out.mono ?_
      rintro e w2 ⟨rfl, b2⟩
      have B2 := hide' b2
      clear b2
      go_wp2
      go_ret3
      rw [PD.out]
      refine ⟨B1.out.trans (B2.out.mono B1.out.size), Or.inr ⟨by rw [PE1.out]; exact HC.out, ?_⟩⟩
      rw [PE1.out, EE.out, HM.out]; rfl
  · simp only at hf ⊢
    subst hf
    have PE1 := hide' (show parE L = 2 by rw [PE.out, if_neg (by decide)])
    have EE := hide' (errOf_is (f := 2) (by omega))
    have B1 := hide' b1
    clear b1
    go_wp2
    go_ret3
    rw [PD.out]
    exact ⟨B1.out, Or.inr ⟨by rw [PE1.out]; omega, by rw [PE1.out, EE.out]; rfl⟩⟩
end Go.Proofs.YtncinpkbiphpoaaDoor

namespace Go.Proofs.YtncinpkbiphpoaaDoor
open Go.RowKit
set_option linter.unusedVariables false
/-- What the document's Parse answers. -/
def RpP (L : List UInt8) (w : World) (e : Ending) (w' : World) : Prop :=
  Below w.heap.size w w' ∧ ((parE L = 0 ∧ ∃ a q, e = .returned (.tuple #[.slice a (linesC L.length L).1.length q, .int .i64 0, .int .i64 0]) ∧ ArgI w' (linesC L.length L).1 a (linesC L.length L).1.length q) ∨ (parE L ≠ 0 ∧ e = .returned (.tuple #[.slice none 0 0, .int .i64 ((linesC L.length L).1.length : Int), .int .i64 (parE L : Int)])))
theorem cut_list (L : List UInt8) (a b : Nat) : (⟨L.toArray⟩ : ByteArray).extract a b = ⟨((L.drop a).take (b - a)).toArray⟩ := by apply ByteArray.ext; simp
theorem rp_bad {L : List UInt8} {acc : List InsT} {w w' : World} (hb : Below w.heap.size w w') (h : linesC L.length L = (acc, false)) : RpP L w (.returned (.tuple #[.slice none 0 0, .int .i64 (acc.length : Int), .int .i64 2])) w' := by
  have e : parE L = 2 := by unfold parE; rw [h]; rfl
  refine ⟨hb, Or.inr ⟨by rw [e]; omega, ?_⟩⟩
  rw [e, h]; rfl
theorem rp_code {L : List UInt8} {acc : List InsT} {w w' : World} (hb : Below w.heap.size w w') (h : linesC L.length L = (acc, true)) (hc : codeE acc ≠ 0) : RpP L w (.returned (.tuple #[.slice none 0 0, .int .i64 (acc.length : Int), .int .i64 (codeE acc : Int)])) w' := by
  have e : parE L = codeE acc := by unfold parE; rw [h]; rfl
  refine ⟨hb, Or.inr ⟨by rw [e]; exact hc, ?_⟩⟩
  rw [e, h]
theorem rp_ok {L : List UInt8} {acc : List InsT} {w w' : World} {a : Option Addr} {q : Nat} (hb : Below w.heap.size w w') (h : linesC L.length L = (acc, true)) (hc : codeE acc = 0) (hA : ArgI w' acc a acc.length q) : RpP L w (.returned (.tuple #[.slice a acc.length q, .int .i64 0, .int .i64 0])) w' := by
  have e : parE L = codeE acc := by unfold parE; rw [h]; rfl
  refine ⟨hb, Or.inl ⟨by rw [e]; exact hc, a, q, ?_, ?_⟩⟩
  · rw [h]
  · rw [h]; exact hA
set_option maxRecDepth 100000 in
set_option maxHeartbeats 12800000 in
theorem refParse_any (L : List UInt8) (w : World) (hl : L.length ≤ 1048576) : Calls Tryd.prog 5 #[.string ⟨L.toArray⟩] w (RpP L w) := by
  have HL := hide' hl
  obtain ⟨i0, hi0, hz⟩ := Option.map_eq_some_iff.1 info_ins
  simp only [Prod.mk.injEq] at hz
  obtain ⟨hz0, hz1, hz2⟩ := hz
  have RL := hide' (fun (l : List UInt8) (hl : l.length ≤ 1048576) (V : World) => refLine_any l V hl)
  go_enter Tryd.func5, Tryd.ntmps5
  go_wp2
  go_loopw [5, 6, 7, 8] (fun cv fv nv iv wr => ∃ (acc : List InsT) (N fr i : Nat) (oa : Option Addr) (q : Nat), cv = .slice oa N q ∧ fv = .int .i64 (fr : Int) ∧ nv = .int .i64 (N : Int) ∧ iv = .int .i64 (i : Int) ∧ N ≤ fr ∧ fr ≤ i ∧ i ≤ L.length ∧ Hid (acc.length = N ∧ PS L acc (L.drop fr) ∧ ∀ j, fr ≤ j → j < i → L.getD j 0 ≠ 10) ∧ Hid (wr.ownsRow w.heap.size 34 4 (.slice oa N q) N (flI acc)) ∧ Hid (Below w.heap.size w wr)) (fun _ _ _ iv _ => L.length - (intOf iv).toNat)
  case atStart => exact ⟨[], 0, 0, 0, none, 0, rfl, rfl, rfl, rfl, by omega, by omega, by omega, hide' ⟨rfl, PS.start L, fun j _ h => by omega⟩, hide' (World.ownsRow_nil w w.heap.size 34 4), hide' (Below.refl _ _)⟩
  case round =>
    obtain ⟨acc, N, fr, i, oa, q, rfl, rfl, rfl, rfl, hN, hf, hi, AP, OW, BW⟩ := hrel
    have hl := HL.out
    by_cases d : (i : Int) < (L.length : Int)
    · have il : i < L.length := by omega
      have i0' : (0 : Int) ≤ (i : Int) := by omega
      have gi : i < (⟨L.toArray⟩ : ByteArray).size := by show i < L.toArray.size; simpa using il
      have GI : ((⟨L.toArray⟩ : ByteArray)[i]'gi).toNat = (L.getD i 0).toNat := by show L[i].toNat = _; simp [List.getD, il]
      by_cases hc : L.getD i 0 = 10
      · have G0 : (((⟨L.toArray⟩ : ByteArray)[i]'gi).toNat : Int) = 10 := by rw [GI, hc]; rfl
        have IX := hide' (show Lib.indexByte (L.drop fr) 10 = ((i - fr : Nat) : Int) from index_first (L.drop fr) 10 (i - fr) (by rw [List.length_drop]; omega) (by rw [getD_drop, show fr + (i - fr) = i by omega]; exact hc) (fun j hj => by rw [getD_drop]; exact AP.out.2.2 (fr + j) (by omega) (by omega)))
        have X := cut_list L fr i
        obtain ⟨ln, hln⟩ : ∃ ln, (L.drop fr).take (i - fr) = ln := ⟨_, rfl⟩
        have LL : ln.length ≤ 1048576 := by rw [← hln]; simp; omega
        have RO := hide' (RL.out ln LL)
        have BD := hide' (fun (hx : lineC ln = none) => AP.out.2.1.bad (by intro e; have := congrArg List.length e; simp at this; omega) (Or.inr ⟨i - fr, IX.out, by rw [hln]; exact hx⟩))
        have NX := hide' (fun (x : InsT) (hx : lineC ln = some x) => show PS L (acc ++ [x]) (L.drop (i + 1)) from by
          have := AP.out.2.1.next IX.out (by rw [hln]; exact hx)
          rw [List.drop_drop, show fr + (i - fr + 1) = i + 1 by omega] at this
          exact this)
        have f0 : (0 : Int) ≤ (fr : Int) := by omega
        have f1 : (fr : Int) ≤ (i : Int) := by omega
        have f2 : (i : Int) ≤ (L.length : Int) := by omega
        rw [hln] at X
        clear hc GI hln LL IX
        rw [line_same] at RO
        go_wp2_with fail
        refine (RO.out _).mono ?_
        rintro e w5 ⟨hb, ⟨⟨o, a, t, el⟩, hx, rfl⟩ | ⟨hx, rfl⟩⟩
        · simp only [insA]
          have NP := hide' (NX.out _ hx)
          have B5 := hide' (BW.out.trans (hb.mono BW.out.size))
          have O5 := hide' (own_below OW.out hb)
          clear hx hb G0 X
          obtain ⟨w6, hw6⟩ : ∃ w6, w5.alloc (.cells #[.int .i64 o, .int .i64 a, .int .i64 t, .int .i64 el] 34) = w6 := ⟨_, rfl⟩
          have B6 := hide' (show Below w.heap.size w w6 by rw [← hw6]; exact B5.out.alloc B5.out.size _)
          have O6 := hide' (show w6.ownsRow w.heap.size 34 4 (.slice oa N q) N (flI acc) by rw [← hw6]; exact O5.out.alloc _)
          have r6 := hide' (show w6.heap[w5.heap.size]? = some (.cells #[.int .i64 o, .int .i64 a, .int .i64 t, .int .i64 el] 34 (0, 0)) by rw [← hw6]; exact heap_alloc_new _ _)
          have d0 := cell_of_row w6 _ 0 _ _ _ r6.out
          have d1 := cell_of_row w6 _ 1 _ _ _ r6.out
          have d2 := cell_of_row w6 _ 2 _ _ _ r6.out
          have d3 := cell_of_row w6 _ 3 _ _ _ r6.out
          simp at d0 d1 d2 d3
          go_upto_region 9 with fail
          clear hw6
          have z6 := B6.out.size
          have OR := hide' (fun k hk => (own_range O6.out k hk).1)
          go_wp2_with (at_builtin; go_loud (refine wpList_append_own _ rfl _ _ 22 rfl w.heap.size 34 i0 _ 4 32 Tryd.underlying22 hi0 hz0 hz1 hz2 rfl (by decide) _ N _ rfl (O6.out.alloc _) ⟨w6.heap.size, 0, none⟩ 1 1 (flI [(o, a, t, el)]) rfl rfl (news_ins w6 (o, a, t, el)) (one_flI _) (by unfold maxLen; omega) (by omega) (by simp; omega) ?_; intro v' w7 ho hg hn; go_frame))
          obtain ⟨a', q', rfl⟩ := own_slice ho
          refine ⟨⟨acc ++ [(o, a, t, el)], N + 1, i + 1, i + 1, a', q', rfl, by go_num, by go_num, by go_num, by omega, by omega, by omega, hide' ⟨by simp [AP.out.1], NP.out, fun j h1 h2 => by omega⟩, hide' (by rw [flI_append]; exact ho), hide' ((B6.out.alloc z6 _).grown hg (by simp; omega) OR.out)⟩, by simp [intOf]; omega⟩
        · simp only [insA]
          have RR := hide' (BD.out hx)
          have B5 := hide' (BW.out.trans (hb.mono BW.out.size))
          clear hx hb G0 X
          obtain ⟨w6, hw6⟩ : ∃ w6, w5.alloc (.cells #[.int .i64 0, .int .i64 0, .int .i64 0, .int .i64 0] 34) = w6 := ⟨_, rfl⟩
          have B6 := hide' (show Below w.heap.size w w6 by rw [← hw6]; exact B5.out.alloc B5.out.size _)
          have RB := hide' (rp_bad B6.out RR.out)
          rw [AP.out.1] at RB
          have HW6 := hide' hw6
          clear hw6
          go_upto_region 9 with fail
          rw [HW6.out]
          go_wp2
          go_ret3
          exact RB.out
      · have G0 : ¬ (((⟨L.toArray⟩ : ByteArray)[i]'gi).toNat : Int) = 10 := by
          rw [GI]; intro e; exact hc (UInt8.toNat_inj.1 (show (L.getD i 0).toNat = 10 by omega))
        have HC := hide' hc
        clear hc GI
        go_wp2
        exact ⟨⟨acc, N, fr, i + 1, oa, q, rfl, rfl, rfl, by go_num, hN, by omega, by omega, hide' ⟨AP.out.1, AP.out.2.1, fun j h1 h2 => by
          by_cases e : j = i
          · subst e; exact HC.out
          · exact AP.out.2.2 j h1 (by omega)⟩, OW, BW⟩, by simp [intOf]; omega⟩
    · obtain rfl : i = L.length := by omega
      by_cases ff : (fr : Int) < (L.length : Int)
      · have RR := hide' (AP.out.2.1.bad (by intro e; have := congrArg List.length e; simp at this; omega) (Or.inl (index_none' _ _ (fun j hj => by rw [getD_drop]; rw [List.length_drop] at hj; exact AP.out.2.2 (fr + j) (by omega) (by omega)))))
        have RB := hide' (rp_bad BW.out RR.out)
        rw [AP.out.1] at RB
        go_wp2
        go_ret3
        exact RB.out
      · obtain rfl : fr = L.length := by omega
        have PF := AP.out.2.1
        rw [List.drop_length] at PF
        have RR := hide' PF.fin
        have AR := OW.out
        rw [← AP.out.1] at AR
        have AI := hide' (own_argI AR)
        have CK := hide' (refCode_any acc oa acc.length q wr AI.out)
        have OK := hide' (fun (V : World) (hb : Below w.heap.size w V) (hc : codeE acc = 0) (hA : ArgI V acc oa acc.length q) => rp_ok hb RR.out hc hA)
        have NO := hide' (fun (V : World) (hb : Below w.heap.size w V) (hc : codeE acc ≠ 0) => rp_code hb RR.out hc)
        rw [AP.out.1] at CK OK NO AI
        obtain ⟨c, hc⟩ : ∃ c, codeE acc = c := ⟨_, rfl⟩
        rw [hc] at CK OK NO
        clear PF AR hc
        go_wp2_with fail
        refine CK.out.mono ?_
        rintro e w2 ⟨rfl, b2⟩
        have B2 := hide' (BW.out.trans (b2.mono BW.out.size))
        have A2 := hide' (AI.out.below b2)
        clear b2
        by_cases c0 : c = 0
        · subst c0
          go_wp2
          go_ret3
          exact OK.out w2 B2.out trivial A2.out
        · have c0' : ((c : Int) == 0) = false := by rw [beq_eq_false_iff_ne]; omega
          have RB := hide' (NO.out w2 B2.out c0)
          clear c0
          go_wp2
          go_ret3
          exact RB.out
end Go.Proofs.YtncinpkbiphpoaaDoor

