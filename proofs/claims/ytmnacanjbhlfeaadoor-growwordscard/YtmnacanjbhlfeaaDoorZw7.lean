/-
  What the last text of this claim leans on, part 7: LawGw, Gw5, LawGv.
-/
import Derived.Test.YtmnacanjbhlfeaaDoorZw6
import Derived.Test.YtmnacanjbhlfeaaDoorZw2
namespace Go.Proofs.YtmnacanjbhlfeaaDoor
open Go.RowKit
set_option linter.unusedVariables false
set_option linter.unusedSimpArgs false
/-- A list of numbers is told, and a word besides. -/
def ListA (w : World) (ys : List Int) (x : Value) (e : Ending) (w' : World) : Prop := ∃ a n c, e = .returned (.tuple #[.slice a n c, x]) ∧ Hid (ArgP w' ys a n c) ∧ Hid (Below w.heap.size w w')
set_option maxRecDepth 100000 in
set_option maxHeartbeats 25600000 in
theorem law_words_ok (a : Option Addr) (k c : Nat) (l : List UInt8) (n : Int) (w : World) (I gf cf : Nat) (tv : List UInt8) (ys : List Int)
    (cI : Calls Tryd.prog 5 #[.slice a k c] w fun e w' => e = .returned (.int .i64 (I : Int)) ∧ w' = w)
    (cC : ∀ V, Below w.heap.size w V → Calls Tryd.prog 6 #[.slice a k c] V fun e w' => e = .returned (errOf I) ∧ Below V.heap.size V w')
    (cF : ∀ V, Below w.heap.size w V → Calls Tryd.prog 8 #[.slice a k c, .string ⟨l.toArray⟩, .int .i64 n] V fun e w' => e = .returned (.int .i64 0) ∧ w' = V)
    (cG : ∀ V, Below w.heap.size w V → Calls Tryd.prog 9 #[.slice a k c, .string ⟨l.toArray⟩, .int .i64 n] V fun e w' => e = .returned (.tuple #[.string ⟨tv.toArray⟩, errOf gf]) ∧ Below V.heap.size V w')
    (cRG : ∀ V, Below w.heap.size w V → Calls Tryd.prog 10 #[.slice a k c, .string ⟨l.toArray⟩, .int .i64 n] V fun e w' => e = .returned (.tuple #[.string ⟨tv.toArray⟩, .int .i64 (gf : Int)]) ∧ Below V.heap.size V w')
    (cN : ∀ V, Below w.heap.size w V → Calls Tryd.prog 11 #[.slice a k c, .string ⟨l.toArray⟩, .int .i64 n] V (ListA V ys (errOf cf)))
    (cRN : ∀ V, Below w.heap.size w V → Calls Tryd.prog 12 #[.slice a k c, .string ⟨l.toArray⟩, .int .i64 n] V (ListA V ys (.int .i64 (cf : Int))))
    (ER : ∀ V, Below w.heap.size w V → ∀ f : Nat, Calls Tryd.prog 7 #[errOf f, .int .i64 (f : Int)] V fun e w' => e = .returned (.bool true) ∧ Below V.heap.size V w') :
    Calls Tryd.prog 3 #[.slice a k c, .string ⟨l.toArray⟩, .int .i64 n] w fun e w' => e = .returned (.bool true) ∧ Below w.heap.size w w' := by
  have CI := hide' cI
  have CC := hide' cC
  have CF := hide' cF
  have CG := hide' cG
  have CRG := hide' cRG
  have CN := hide' cN
  have CRN := hide' cRN
  have HE := hide' ER
  clear cI cC cF cG cRG cN cRN ER
  go_enter Tryd.func3, Tryd.ntmps3
  go_wp2_with fail
  refine CI.out.mono ?_
  rintro e w1 ⟨rfl, rfl⟩
  go_wp2_with fail
  refine (CC.out _ (Below.refl _ _)).mono ?_
  rintro e w2 ⟨rfl, b⟩
  have B2 := hide' b
  clear b
  go_wp2_with fail
  refine (HE.out _ B2.out I).mono ?_
  rintro e w3 ⟨rfl, b⟩
  have B3 := hide' (B2.out.trans (b.mono B2.out.size))
  clear b
  go_wp2_with fail
  refine (CF.out _ B3.out).mono ?_
  rintro e w4 ⟨rfl, rfl⟩
  go_wp2_with fail
  refine (CG.out _ B3.out).mono ?_
  rintro e w5 ⟨rfl, b⟩
  have B5 := hide' (B3.out.trans (b.mono B3.out.size))
  clear b
  go_wp2_with fail
  refine (CRG.out _ B5.out).mono ?_
  rintro e w6 ⟨rfl, b⟩
  have B6 := hide' (B5.out.trans (b.mono B5.out.size))
  clear b
  go_wp2_with fail
  refine (HE.out _ B6.out gf).mono ?_
  rintro e w7 ⟨rfl, b⟩
  have B7 := hide' (B6.out.trans (b.mono B6.out.size))
  clear b
  go_wp2_with fail
  refine (CN.out _ B7.out).mono ?_
  rintro e w8 ⟨a8, n8, c8, rfl, A8, b⟩
  have B8 := hide' (B7.out.trans (b.out.mono B7.out.size))
  clear b
  go_wp2_with fail
  refine (CRN.out _ B8.out).mono ?_
  rintro e w9 ⟨a9, n9, c9, rfl, A9, b⟩
  have B9 := hide' (B8.out.trans (b.out.mono B8.out.size))
  have P9 := hide' (A8.out.below b.out)
  clear b A8
  go_wp2_with fail
  refine (HE.out _ B9.out cf).mono ?_
  rintro e w10 ⟨rfl, b⟩
  have B10 := hide' (B9.out.trans (b.mono B9.out.size))
  have IN := hide' (Ints_any ys ys a8 a9 n8 c8 n9 c9 w10 (P9.out.below b) (A9.out.below b))
  clear b P9 A9
  go_wp2_with fail
  refine IN.out.mono ?_
  rintro e w11 ⟨rfl, q, rfl⟩
  have B11 := hide' (drewG B10.out q)
  simp only [decide_true]
  go_wp2
  go_ret
  exact ⟨rfl, B11.out⟩
set_option maxRecDepth 100000 in
set_option maxHeartbeats 25600000 in
theorem law_words_bad (a : Option Addr) (k c : Nat) (l : List UInt8) (n : Int) (w : World) (I F : Nat) (f0 : ¬ (F : Int) = 0)
    (cI : Calls Tryd.prog 5 #[.slice a k c] w fun e w' => e = .returned (.int .i64 (I : Int)) ∧ w' = w)
    (cC : ∀ V, Below w.heap.size w V → Calls Tryd.prog 6 #[.slice a k c] V fun e w' => e = .returned (errOf I) ∧ Below V.heap.size V w')
    (cF : ∀ V, Below w.heap.size w V → Calls Tryd.prog 8 #[.slice a k c, .string ⟨l.toArray⟩, .int .i64 n] V fun e w' => e = .returned (.int .i64 (F : Int)) ∧ w' = V)
    (cG : ∀ V, Below w.heap.size w V → Calls Tryd.prog 9 #[.slice a k c, .string ⟨l.toArray⟩, .int .i64 n] V fun e w' => e = .returned (.tuple #[.string ⟨#[]⟩, errOf F]) ∧ Below V.heap.size V w')
    (cN : ∀ V, Below w.heap.size w V → Calls Tryd.prog 11 #[.slice a k c, .string ⟨l.toArray⟩, .int .i64 n] V (ListA V [] (errOf F)))
    (ER : ∀ V, Below w.heap.size w V → ∀ f : Nat, Calls Tryd.prog 7 #[errOf f, .int .i64 (f : Int)] V fun e w' => e = .returned (.bool true) ∧ Below V.heap.size V w') :
    Calls Tryd.prog 3 #[.slice a k c, .string ⟨l.toArray⟩, .int .i64 n] w fun e w' => e = .returned (.bool true) ∧ Below w.heap.size w w' := by
  have CI := hide' cI
  have CC := hide' cC
  have CF := hide' cF
  have CG := hide' cG
  have CN := hide' cN
  have HE := hide' ER
  clear cI cC cF cG cN ER
  go_enter Tryd.func3, Tryd.ntmps3
  go_wp2_with fail
  refine CI.out.mono ?_
  rintro e w1 ⟨rfl, rfl⟩
  go_wp2_with fail
  refine (CC.out _ (Below.refl _ _)).mono ?_
  rintro e w2 ⟨rfl, b⟩
  have B2 := hide' b
  clear b
  go_wp2_with fail
  refine (HE.out _ B2.out I).mono ?_
  rintro e w3 ⟨rfl, b⟩
  have B3 := hide' (B2.out.trans (b.mono B2.out.size))
  clear b
  go_wp2_with fail
  refine (CF.out _ B3.out).mono ?_
  rintro e w4 ⟨rfl, rfl⟩
  go_wp2_with fail
  refine (CG.out _ B3.out).mono ?_
  rintro e w5 ⟨rfl, b⟩
  have B5 := hide' (B3.out.trans (b.mono B3.out.size))
  clear b
  go_wp2_with fail
  refine (HE.out _ B5.out F).mono ?_
  rintro e w7 ⟨rfl, b⟩
  have B7 := hide' (B5.out.trans (b.mono B5.out.size))
  clear b
  go_wp2_with fail
  refine (CN.out _ B7.out).mono ?_
  rintro e w8 ⟨a8, n8, c8, rfl, A8, b⟩
  have B8 := hide' (B7.out.trans (b.out.mono B7.out.size))
  clear b
  go_wp2_with fail
  refine (HE.out _ B8.out F).mono ?_
  rintro e w10 ⟨rfl, b⟩
  have B10 := hide' (B8.out.trans (b.mono B8.out.size))
  have IN := hide' (Ints_any [] [] a8 none n8 c8 0 0 w10 (A8.out.below b) ⟨rfl, by simp, fun k hk => absurd hk (by simp)⟩)
  clear b A8
  go_wp2_with fail
  refine IN.out.mono ?_
  rintro e w11 ⟨rfl, q, rfl⟩
  have B11 := hide' (drewG B10.out q)
  simp only [decide_true]
  go_wp2
  go_ret
  exact ⟨rfl, B11.out⟩
end Go.Proofs.YtmnacanjbhlfeaaDoor

namespace Go.Proofs.YtmnacanjbhlfeaaDoor
open Go.RowKit
set_option linter.unusedVariables false
set_option linter.unusedSimpArgs false
theorem info_u8G : (Tryd.prog.info? 5).map (fun i => (i.zero, i.size, i.bytes)) = some (some (.int .u8 0), 1, 1) := by kernel_rfl
/-- What Grow answers. -/
def GrO (o : Option (List UInt8)) (e : Ending) : Prop := (∃ s, o = some s ∧ e = .returned (.tuple #[.string ⟨s.toArray⟩, .int .i64 0])) ∨ (o = none ∧ e = .returned (.tuple #[.string ⟨#[]⟩, .int .i64 4]))
theorem own_partsG {w : World} {base : Nat} {v : Value} {n : Nat} {xs : List Value} (h : w.ownsRow base 5 1 v n xs) : (∃ a q, v = .slice a n q) ∧ ∀ k, v.ownBlock = some k → base ≤ k ∧ k < w.heap.size := by
  rcases h.2 with ⟨rfl, rfl⟩ | ⟨g, cap, cur, rfl, hb, hg, _⟩
  · exact ⟨⟨none, 0, rfl⟩, fun k hk => by cases hk⟩
  · exact ⟨⟨_, cap, rfl⟩, fun k hk => by simp [Value.ownBlock] at hk; subst hk; exact ⟨hb, lt_blockG hg⟩⟩
set_option maxRecDepth 100000 in
set_option maxHeartbeats 12800000 in
theorem refGrow_any (xs : List (List UInt8)) (a : Option Addr) (n c : Nat) (l : List UInt8) (m : Nat) (w : World) (hA : ArgX w xs a n c) (ok : imF xs = 0) (hl : l.length ≤ 40000) (hlt : l.all (ltB n) = true) (hm : m ≤ 60) :
    Calls Tryd.prog 10 #[.slice a n c, .string ⟨l.toArray⟩, .int .i64 (m : Int)] w fun e w' => GrO (gwN xs m l) e ∧ Below w.heap.size w w' := by
  obtain ⟨it, hit, hz⟩ := Option.map_eq_some_iff.1 info_u8G
  simp only [Prod.mk.injEq] at hz
  obtain ⟨hz0, hz1, hz2⟩ := hz
  obtain ⟨a1, a2, a3⟩ := imF_ok ok
  have OKX := hide' (fun k (hk : k < n) => show (xs.getD k []).length ≤ 12 ∧ (xs.getD k []).all (ltB n) = true by rw [hA.len] at hk ⊢; exact a3 k hk)
  have NL := hide' hA.len
  have HA := hide' (fun (V : World) (h : Below w.heap.size w V) => hA.below h)
  have hn8 : n ≤ 8 := by rw [hA.len]; exact a2
  obtain ⟨b0, n0, c0, w1, hb0, hby, hbw⟩ := bytes_made l w
  have e0 : n0 = l.length := hby.len
  have BY := hide' hby
  have BW1 := hide' hbw
  have LT := hide' hlt
  have N0 := hide' e0
  have m0 : n0 ≤ 40000 := by omega
  clear hA ok a1 a2 a3 hby hbw hlt e0 hl
  go_enter Tryd.func10, Tryd.ntmps10
  go_wp2
  clear hb0
  go_loopw [8, 9, 10, 11] (fun bv rv _ _ wr => ∃ (r : Nat) (cur : List UInt8) (ba : Option Addr) (bn bc : Nat), bv = .slice ba bn bc ∧ rv = .int .i64 (r : Int) ∧ r ≤ m ∧ bn ≤ 40000 ∧ Hid (ByR wr cur ba bn bc) ∧ Hid (cur.all (ltB n) = true) ∧ Hid (gwN xs m l = gwN xs (m - r) cur) ∧ Hid (Below w.heap.size w wr)) (fun _ rv _ _ _ => m - (intOf rv).toNat)
  case atStart => exact ⟨0, l, b0, n0, c0, rfl, rfl, by omega, m0, BY, LT, hide' rfl, BW1⟩
  case round =>
    obtain ⟨r, cur, ba, bn, bc, rfl, rfl, hr, hbn, BC, LC, GE, BW⟩ := hrel
    by_cases d : (r : Int) < (m : Int)
    · obtain ⟨V, hV⟩ : ∃ V, V = wr := ⟨_, rfl⟩
      have BV := hide' (show Below w.heap.size w V by rw [hV]; exact BW.out)
      have BCV := hide' (show ByR V cur ba bn bc by rw [hV]; exact BC.out)
      have B0 := hide' (show Below V.heap.size V wr by rw [hV]; exact Below.refl _ _)
      have GS := hide' (show gwN xs m l = if 40000 < (imgL xs cur).length then none else gwN xs (m - (r + 1)) (imgL xs cur) by
        rw [GE.out, show m - r = (m - (r + 1)) + 1 by omega, gwN_succ])
      have O0 := hide' (World.ownsRow_nil wr V.heap.size 5 1)
      have RM := hide' (show r + 1 ≤ m by omega)
      clear hV
      go_wp2
      go_loopw [10, 11] (fun ov iv wr => ∃ (i N : Nat) (oa : Option Addr) (q : Nat), ov = .slice oa N q ∧ iv = .int .i64 (i : Int) ∧ i ≤ bn ∧ N ≤ 40000 ∧ Hid (N = (imgL xs (cur.take i)).length) ∧ Hid (wr.ownsRow V.heap.size 5 1 (.slice oa N q) N ((imgL xs (cur.take i)).map bvG)) ∧ Hid (Below V.heap.size V wr)) (fun _ iv _ => bn - (intOf iv).toNat)
      case atStart => exact ⟨0, 0, none, 0, rfl, rfl, by omega, by omega, hide' rfl, O0, B0⟩
      case round =>
        obtain ⟨i, N, oa, q, rfl, rfl, hi, hN, NE, OW, BZ⟩ := hrel
        by_cases di : (i : Int) < (bn : Int)
        · have il : i < cur.length := by have := BCV.out.len; omega
          have i0 : (0 : Int) ≤ (i : Int) := by omega
          have FW := hide' (BV.out.trans (BZ.out.mono BV.out.size))
          obtain ⟨g, rfl, hc⟩ := (BCV.out.below BZ.out).cells i il
          have LA := ltB_at LC.out il
          have IN := hide' (imgL_next xs il)
          obtain ⟨ch, hch⟩ : ∃ ch, cur.getD i 0 = ch := ⟨_, rfl⟩
          rw [hch] at hc LA IN
          obtain ⟨x, hx⟩ : ∃ x, ch.toNat = x := ⟨_, rfl⟩
          unfold bvG at hc
          rw [hx] at hc LA IN
          obtain ⟨k, hk⟩ : ∃ k, x - 97 = k := ⟨_, rfl⟩
          rw [hk] at IN
          have ek : (x : Int) - 97 = (k : Int) := by omega
          have kn : k < n := by omega
          have k0 : (0 : Int) ≤ (k : Int) := by omega
          have xb : x < 256 := by have := ch.toNat_lt; omega
          obtain ⟨ga, off, rfl, -, hs⟩ := (HA.out wr FW.out).cells k (by have := NL.out; omega)
          have OK := OKX.out k kn
          obtain ⟨y, hy⟩ : ∃ y, xs.getD k [] = y := ⟨_, rfl⟩
          rw [hy] at hs OK IN
          have y12 : y.length ≤ 12 := OK.1
          have ys : (⟨y.toArray⟩ : ByteArray).size = y.length := by show y.toArray.size = _; simp
          have YS := hide' ys
          have PT := hide' (imgL_part xs cur (i + 1))
          have sz := BZ.out.size
          have OR := hide' (own_partsG OW.out).2
          clear hch hx hk hy OK LA ys
          obtain ⟨N2, hN2⟩ : ∃ N2, N + y.length = N2 := ⟨_, rfl⟩
          have HN2 := hide' hN2
          have IL := hide' (show N2 = (imgL xs (cur.take (i + 1))).length by rw [IN.out, List.length_append, ← NE.out]; exact hN2.symm)
          have n2 : N2 ≤ N + 12 := by omega
          clear hN2
          by_cases big : (40000 : Int) < (N2 : Int)
          · have GN := hide' (show gwN xs m l = none by rw [GS.out, if_pos]; have := PT.out; have := IL.out; omega)
            go_wp2_with (at_builtin; go_loud (refine Lib.wpList_append_own_string _ rfl _ _ 55 9 rfl V.heap.size 5 it Tryd.underlying55 Tryd.underlying9 hit hz0 hz1 hz2 _ N _ rfl OW.out ⟨y.toArray⟩ rfl (by rw [YS.out]; unfold maxLen; omega) (by rw [YS.out]; omega) (by omega) ?_; intro v' w4 ho hg hn; rw [YS.out, HN2.out] at ho; obtain ⟨⟨a', q', rfl⟩, -⟩ := own_partsG ho; go_frame))
            go_ret2
            exact ⟨Or.inr ⟨GN.out, rfl⟩, BV.out.trans ((BZ.out.grown hg sz (fun k hk => (OR.out k hk).1)).mono BV.out.size)⟩
          · go_wp2_with (at_builtin; go_loud (refine Lib.wpList_append_own_string _ rfl _ _ 55 9 rfl V.heap.size 5 it Tryd.underlying55 Tryd.underlying9 hit hz0 hz1 hz2 _ N _ rfl OW.out ⟨y.toArray⟩ rfl (by rw [YS.out]; unfold maxLen; omega) (by rw [YS.out]; omega) (by omega) ?_; intro v' w4 ho hg hn; rw [YS.out, HN2.out] at ho; obtain ⟨⟨a', q', rfl⟩, -⟩ := own_partsG ho; go_frame))
            have sc : Lib.strCells ⟨y.toArray⟩ = y.map bvG := by unfold Lib.strCells bvG; simp
            refine ⟨⟨i + 1, N2, a', q', rfl, by go_num, by omega, by omega, IL, hide' ?_, hide' (BZ.out.grown hg sz (fun k hk => (OR.out k hk).1))⟩, by simp [intOf]; omega⟩
            rw [IN.out, List.map_append, ← sc]
            exact ho
        · have ib : i = cur.length := by have := BCV.out.len; omega
          have OF := hide' (show wr.ownsRow V.heap.size 5 1 (.slice oa N q) N ((imgL xs cur).map bvG) by
            have := OW.out
            rw [ib, List.take_length] at this
            exact this)
          have NF := hide' (show N = (imgL xs cur).length by
            have := NE.out
            rw [ib, List.take_length] at this
            exact this)
          have GN := hide' (show gwN xs m l = gwN xs (m - (r + 1)) (imgL xs cur) by rw [GS.out, if_neg]; have := NF.out; omega)
          have AL := hide' (imgL_all (n := n) (fun k hk => (OKX.out k hk).2) LC.out)
          have BF := hide' (BV.out.trans (BZ.out.mono BV.out.size))
          clear ib
          go_wp2
          exact ⟨⟨r + 1, imgL xs cur, oa, N, q, rfl, by go_num, RM.out, hN, hide' (ByR.own OF.out NF.out), AL, GN, BF⟩, by have := RM.out; simp [intOf]; omega⟩
    · obtain rfl : r = m := by omega
      have GN := hide' (show gwN xs r l = some cur by rw [GE.out, Nat.sub_self, gwN_zero])
      have tx := BC.out.text
      go_wp2
      go_ret2
      exact ⟨Or.inl ⟨cur, GN.out, rfl⟩, BW.out⟩
end Go.Proofs.YtmnacanjbhlfeaaDoor

namespace Go.Proofs.YtmnacanjbhlfeaaDoor
open Go.RowKit
set_option linter.unusedVariables false
set_option linter.unusedSimpArgs false
/-- What Grow ought to answer: the word; what is wrong. -/
def grO (xs : List (List UInt8)) (l : List UInt8) (n : Int) : List UInt8 × Nat := if gwF xs l n = 0 then match gwN xs n.toNat l with
  | some s => (s, 0)
  | none => ([], 4) else ([], gwF xs l n)
/-- What Count ought to answer. -/
def coO (xs : List (List UInt8)) (k : Nat) (l : List UInt8) (n : Int) : List Int × Nat := if gwF xs l n = 0 then match cnW xs n.toNat l with
  | some s => ((List.range k).map fun x => ((ctL s x : Nat) : Int), 0)
  | none => ([], 4) else ([], gwF xs l n)
theorem law_words_of (xs : List (List UInt8)) (a : Option Addr) (k c : Nat) (l : List UInt8) (n : Int) (w : World) (hA : ArgX w xs a k c) (hl : l.length ≤ maxLen) (hg : Handle w)
    (hC : ∀ V, Below w.heap.size w V → Calls Tryd.prog 6 #[.slice a k c] V fun e w' => e = .returned (errOf (imF xs)) ∧ Below V.heap.size V w')
    (hG : ∀ V, Below w.heap.size w V → Calls Tryd.prog 9 #[.slice a k c, .string ⟨l.toArray⟩, .int .i64 n] V fun e w' => e = .returned (.tuple #[.string ⟨(grO xs l n).1.toArray⟩, errOf (grO xs l n).2]) ∧ Below V.heap.size V w')
    (hN : ∀ V, Below w.heap.size w V → Calls Tryd.prog 11 #[.slice a k c, .string ⟨l.toArray⟩, .int .i64 n] V (ListA V (coO xs k l n).1 (errOf (coO xs k l n).2))) :
    Calls Tryd.prog 3 #[.slice a k c, .string ⟨l.toArray⟩, .int .i64 n] w fun e w' => e = .returned (.bool true) ∧ Below w.heap.size w w' := by
  have ER : ∀ V, Below w.heap.size w V → ∀ f : Nat, Calls Tryd.prog 7 #[errOf f, .int .i64 (f : Int)] V fun e w' => e = .returned (.bool true) ∧ Below V.heap.size V w' := fun V h f => errSameC_any f V (hg.below h)
  have cI := refImages_any xs a k c w hA
  have cF := fun V (h : Below w.heap.size w V) => refFaultG_any xs a k c l n V (hA.below h) hl
  by_cases f0 : gwF xs l n = 0
  · obtain ⟨i1, i2, i3, i4, i5⟩ := gwF_ok f0
    obtain ⟨m, rfl⟩ : ∃ m : Nat, n = (m : Int) := ⟨n.toNat, by omega⟩
    rw [← hA.len] at i3
    have OK3 := (imF_ok i1).2.2
    have OKK : ∀ j, j < k → (xs.getD j []).all (ltB k) = true := fun j hj => by rw [hA.len] at hj ⊢; exact (OK3 j hj).2
    have k8 : k ≤ 8 := by rw [hA.len]; exact (imF_ok i1).2.1
    have gO : grO xs l (m : Int) = match gwN xs m l with
      | some s => (s, 0)
      | none => ([], 4) := by unfold grO; rw [if_pos f0, Int.toNat_natCast]
    have cO : coO xs k l (m : Int) = match cnW xs m l with
      | some s => ((List.range k).map fun x => ((ctL s x : Nat) : Int), 0)
      | none => ([], 4) := by unfold coO; rw [if_pos f0, Int.toNat_natCast]
    refine law_words_ok a k c l (m : Int) w (imF xs) (grO xs l (m : Int)).2 (coO xs k l (m : Int)).2 (grO xs l (m : Int)).1 (coO xs k l (m : Int)).1 cI hC (fun V h => ?_) hG (fun V h => ?_) hN (fun V h => ?_) ER
    · have := cF V h
      rw [f0] at this
      exact this
    · refine (refGrow_any xs a k c l m V (hA.below h) i1 i2 i3 (by omega)).mono ?_
      rintro e w' ⟨h1, h2⟩
      rcases h1 with ⟨s, q, rfl⟩ | ⟨q, rfl⟩
      · rw [gO, q]; exact ⟨rfl, h2⟩
      · rw [gO, q]; exact ⟨rfl, h2⟩
    · refine (refCount_any xs a k c l m V (hA.below h) i1 i2 i3 (by omega)).mono ?_
      rintro e w' ⟨h1, h2⟩
      rw [cnN_is OKK m i3] at h1
      rw [cO]
      cases hc : cnW xs m l with
      | none =>
        rw [hc] at h1
        rcases h1 with ⟨f, g, ef, _⟩ | ⟨_, rfl⟩
        · cases ef
        · exact ⟨none, 0, 0, rfl, hide' ⟨rfl, by simp, fun k hk => absurd hk (by simp)⟩, hide' h2⟩
      | some s =>
        rw [hc] at h1
        rcases h1 with ⟨f, g, ef, rfl, hr, _, _⟩ | ⟨q, _⟩
        · obtain rfl : ctL s = f := Option.some.inj ef
          exact ⟨_, _, _, rfl, hide' (hr.arg k8), hide' h2⟩
        · cases q
  · have gO : grO xs l n = ([], gwF xs l n) := by unfold grO; rw [if_neg f0]
    have cO : coO xs k l n = ([], gwF xs l n) := by unfold coO; rw [if_neg f0]
    rw [gO] at hG
    rw [cO] at hN
    exact law_words_bad a k c l n w (imF xs) (gwF xs l n) (by omega) cI hC cF hG hN ER
end Go.Proofs.YtmnacanjbhlfeaaDoor

