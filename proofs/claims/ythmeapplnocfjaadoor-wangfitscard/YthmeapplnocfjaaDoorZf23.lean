/-
  What the last text of this claim leans on, part 23: Wx4, Wx5, Wx6, Wx7, In1.
-/
import Derived.Test.YthmeapplnocfjaaDoorZf5
import Derived.Test.YthmeapplnocfjaaDoorZf9
import Derived.Test.YthmeapplnocfjaaDoorZf21
import Derived.Test.YthmeapplnocfjaaDoorZf22
import Derived.Test.YthmeapplnocfjaaDoorZf2
namespace Go.Proofs.YthmeapplnocfjaaDoor
open Go.RowKit
set_option linter.unusedVariables false
set_option linter.unusedSimpArgs false
theorem below_of_grownW {w V w' : World} {g : Nat} (k : Below w.heap.size w V) (h : V.grownBy w' (some g)) (hg : w.heap.size ≤ g) : Below w.heap.size w w' := k.trans ⟨h.os, h.tape, h.output, h.size, fun p hp => h.block p (Nat.lt_of_lt_of_le hp k.size) (fun e => by cases e; omega)⟩
set_option maxRecDepth 100000 in
set_option maxHeartbeats 12800000 in
theorem wangFits_any (xs : List TlT) (a : Option Addr) (n c : Nat) (W H : Int) (zs : List Int) (za : Option Addr) (zn zc : Nat) (ring : Bool) (w : World) (hA : ArgT w xs a n c) (hZ : ArgP w zs za zn zc) :
    Calls Tryd.prog 11 #[.slice a n c, .int .i64 W, .int .i64 H, .slice za zn zc, .bool ring] w fun e w' => FtA xs n W H zs ring e ∧ Below w.heap.size w w' := by
  have SC := hide' (wangSized_any xs a n c W H w hA)
  by_cases s0 : sdF xs W H = 0
  · have S0 := hide' s0
    obtain ⟨t0, n1, n16, v, u, rfl, rfl, v1, v5, u1, u5⟩ := sdF_ok s0
    rw [s0, show errOf 0 = .nilIface from rfl] at SC
    have nl := hA.len
    have LC := hide' (fun (V : World) (h : Below w.heap.size w V) => lay_anyW xs a n c v u ring V (hA.below h) t0 (by omega) (by omega) v1 v5 u1 u5)
    have HL := hide' hZ.len
    have HMX := hide' hZ.max
    have HZ := hide' (fun (V : World) (h : Below w.heap.size w V) => show ArgP V zs za zn zc from hZ.below h)
    have CEA := hide' (fun (h0 : 0 < zs.length) (hz : ∀ i, i < zs.length → 0 ≤ zs.getD i 0) (V : World) (h : Below w.heap.size w V) => celW_arg (hZ.below h) h0 hz)
    have zmm := HMX.out
    unfold maxLen at zmm
    obtain ⟨N, hN⟩ : ∃ N, v * u = N := ⟨_, rfl⟩
    have eN : (v : Int) * (u : Int) = (N : Int) := by rw [← hN]; push_cast; rfl
    have N25 : N ≤ 25 := by rw [← hN]; exact Nat.le_trans (Nat.mul_le_mul v5 u5) (by decide)
    have N1 : 1 ≤ N := by rw [← hN]; exact Nat.mul_le_mul v1 u1
    have HN := hide' hN
    have CF := hide' (show ceF n (v : Int) (u : Int) zs = if (zn : Int) = (N : Int) then if zs.all (fun z => decide (0 ≤ z) && decide (z < (n : Int))) = true then 0 else 1 else 3 by unfold ceF; rw [← eN, HL.out])
    have NL := hide' nl
    have n16' : n ≤ 16 := by omega
    clear hA hZ hN s0 t0 n16 nl n1
    go_enter Tryd.func11, Tryd.ntmps11
    by_cases q : (zn : Int) = (N : Int)
    · rw [if_pos q] at CF
      obtain rfl : zn = N := by omega
      clear q
      go_wp2_with fail
      refine SC.out.mono ?_
      rintro o w1 ⟨rfl, b1⟩
      have B1 := hide' b1
      clear b1
      go_wp2
      go_loopw [14, 32] (fun _ iv wr => ∃ (i : Nat), iv = .int .i64 (i : Int) ∧ i ≤ zn ∧ Hid (∀ j, j < i → 0 ≤ zs.getD j 0 ∧ zs.getD j 0 < (n : Int)) ∧ wr = w1) (fun _ iv _ => zn - (intOf iv).toNat)
      case atStart => exact ⟨0, rfl, by omega, hide' (fun j h => by omega), rfl⟩
      case round =>
        obtain ⟨i, rfl, hi, AL, rfl⟩ := hrel
        by_cases d : (i : Int) < (zn : Int)
        · have il : i < zs.length := by have := HL.out; omega
          have i0 : (0 : Int) ≤ (i : Int) := by omega
          obtain ⟨g, off, ea, hg, hc⟩ := (HZ.out wr B1.out).cells i il
          subst ea
          have ge : zs[i] = zs.getD i 0 := by simp [List.getD, il]
          rw [ge] at hc
          have NO := hide' (fun (h : ¬ (0 ≤ zs.getD i 0 ∧ zs.getD i 0 < (n : Int))) => show ¬ zs.all (fun z => decide (0 ≤ z) && decide (z < (n : Int))) = true from fun q => by
            rw [List.all_eq_true] at q
            have := q zs[i] (List.getElem_mem il)
            rw [ge] at this
            exact h (by simpa using this))
          have YES := hide' (fun (h : 0 ≤ zs.getD i 0 ∧ zs.getD i 0 < (n : Int)) j (hj : j < i + 1) => show 0 ≤ zs.getD j 0 ∧ zs.getD j 0 < (n : Int) by
            by_cases e : j = i
            · rw [e]; exact h
            · exact AL.out j (by omega))
          obtain ⟨z, hz⟩ : ∃ z, zs.getD i 0 = z := ⟨_, rfl⟩
          rw [hz] at hc NO YES
          clear hz ge
          have E1 := hide' (fun (h : ceF n (v : Int) (u : Int) zs = 1) (V : World) => show FtA xs n (v : Int) (u : Int) zs ring (.returned (.tuple #[.bool false, .iface 49 (.int .i64 1)])) from Or.inr (Or.inl ⟨S0.out, by rw [h]; decide, by rw [h]; rfl⟩))
          by_cases z1 : z < 0
          · rw [if_neg (NO.out (by omega))] at CF
            go_wp2
            go_ret2
            exact ⟨E1.out CF.out wr, B1.out⟩
          · by_cases z2 : (n : Int) ≤ z
            · rw [if_neg (NO.out (by omega))] at CF
              go_wp2
              go_ret2
              exact ⟨E1.out CF.out wr, B1.out⟩
            · have Y := hide' (YES.out ⟨by omega, by omega⟩)
              clear E1
              go_wp2
              exact ⟨⟨i + 1, by go_num, by omega, Y, trivial⟩, by simp [intOf]; omega⟩
        · obtain rfl : i = zn := by omega
          have Y : zs.all (fun z => decide (0 ≤ z) && decide (z < (n : Int))) = true := by
            rw [List.all_eq_true]
            intro z hz
            obtain ⟨j, hj, rfl⟩ := List.getElem_of_mem hz
            have := AL.out j (by rw [HL.out]; exact hj)
            rw [List.getD, List.getElem?_eq_getElem hj] at this
            simpa using this
          rw [if_pos Y] at CF
          clear Y
          have LY := hide' (LC.out wr B1.out)
          have zv := zero_boardW
          obtain ⟨Z, hZ⟩ : ∃ Z, arV 92 (bdV zeB) = Z := ⟨_, rfl⟩
          rw [hZ] at zv
          have ZS : Z.size = 92 := by rw [← hZ, arV_size]
          have zn' : ¬ Z = #[] := fun e => by rw [e] at ZS; simp at ZS
          clear hZ
          go_wp2_with fail
          refine LY.out.mono ?_
          rintro o w2 ⟨B, hLB, hBO, rfl, b2⟩
          obtain ⟨A, hA⟩ : ∃ A, arV 92 (bdV B) = A := ⟨_, rfl⟩
          have os : A.size = 92 := by rw [← hA, arV_size]
          have ol : A.all (·.oneCell') = true := by rw [← hA]; exact arV_all (fun k _ => bdV_one _ k)
          rw [hA]
          have G0 := heap_alloc_new w2 (.cells Z 58)
          have B2 := hide' (B1.out.trans (b2.mono B1.out.size))
          have LB := hide' hLB
          have BO := hide' hBO
          clear b2 hLB hBO LY LC
          go_upto_region 13 with (refine wpList_store_row rfl 58 _ _ rfl w2.heap.size A rfl rfl 58 Z G0 (by rw [os]; exact size_boardW) (by rw [os]; exact ZS) ol ?_)
          obtain ⟨g, hg⟩ : ∃ g, w2.heap.size = g := ⟨_, rfl⟩
          rw [hg] at G0
          obtain ⟨w3, hw3⟩ : ∃ w3, (w2.alloc (.cells Z 58)).setRow g A = w3 := ⟨_, rfl⟩
          have D3 := hide' (show BrdA w3 g B by unfold BrdA; rw [← hw3, setRow_heap _ _ _ _ _ _ G0, hA])
          have B3 := hide' (show Below w.heap.size w w3 by rw [← hw3]; exact belowW_set (B2.out.alloc B2.out.size _) (by have := B2.out.size; omega) _)
          rw [hg, hw3]
          have RNG := hide' (show ∀ j, j < i → 0 ≤ zs.getD j 0 ∧ zs.getD j 0 < (n : Int) from AL.out)
          have FC := hide' (fitsB_any B g za i zc (fun k => (zs.getD k 0).toNat) w3 D3.out BO.out (by
            have := CEA.out (by rw [← HL.out]; omega) (fun k hk => (RNG.out k (by rw [HL.out]; exact hk)).1) w3 B3.out
            rw [← HL.out] at this
            exact this) (by rw [LB.out.eW, LB.out.eH, HN.out]) (fun k hk => by have := RNG.out k hk; omega))
          have FX := hide' (show FitB B (fun r q => (zs.getD (r * B.W + q) 0).toNat) ↔ AllW xs v u ring zs from by
            rw [LB.out.eW]
            unfold AllW
            exact fit_iff LB.out v1 u1 (c := fun k => (zs.getD k 0).toNat) (fun k hk => by have := RNG.out k (by rw [← HN.out]; exact hk); omega))
          clear hw3 hg G0 ol os hA zv ZS zn'
          go_wp2_with fail
          refine FC.out.mono ?_
          rintro o w4 ⟨⟨zz, rfl, hzz⟩, b4⟩
          have B4 := hide' (B3.out.trans (b4.mono B3.out.size))
          have FIN := hide' (show FtA xs n (v : Int) (u : Int) zs ring (.returned (.tuple #[.bool zz, .nilIface])) from Or.inr (Or.inr ⟨S0.out, CF.out, zz, rfl, by rw [Int.toNat_natCast, Int.toNat_natCast]; exact hzz.trans FX.out⟩))
          clear b4 hzz
          go_wp2
          go_ret2
          exact ⟨FIN.out, B4.out⟩
    · rw [if_neg q] at CF
      have qb : ((zn : Int) == (N : Int)) = false := by simp; omega
      have E3 := hide' (show FtA xs n (v : Int) (u : Int) zs ring (.returned (.tuple #[.bool false, .iface 49 (.int .i64 3)])) from Or.inr (Or.inl ⟨S0.out, by rw [CF.out]; decide, by rw [CF.out]; rfl⟩))
      go_wp2_with fail
      refine SC.out.mono ?_
      rintro o w1 ⟨rfl, b1⟩
      go_wp2
      go_ret2
      exact ⟨E3.out, b1⟩
  · have EE := hide' (show FtA xs n W H zs ring (.returned (.tuple #[.bool false, errOf (sdF xs W H)])) from Or.inl ⟨s0, rfl⟩)
    obtain ⟨f, hf⟩ : ∃ f, sdF xs W H = f := ⟨_, rfl⟩
    rw [hf] at SC EE s0
    have ef : errOf f = .iface 49 (.int .i64 (f : Int)) := by unfold errOf; rw [if_neg s0]
    rw [ef] at SC EE
    clear hA hZ hf s0 ef
    go_enter Tryd.func11, Tryd.ntmps11
    go_wp2_with fail
    refine SC.out.mono ?_
    rintro o w1 ⟨rfl, b1⟩
    go_wp2
    go_ret2
    exact ⟨EE.out, b1⟩
end Go.Proofs.YthmeapplnocfjaaDoor

namespace Go.Proofs.YthmeapplnocfjaaDoor
open Go.RowKit
set_option linter.unusedVariables false
set_option linter.unusedSimpArgs false
theorem argP_own {w : World} {B N : Nat} {a : Option Addr} {oc : Nat} {c : Nat → Nat} (h : w.ownsRow B 3 1 (.slice a N oc) N ((List.range N).map fun i => .int .i64 ((c i : Nat) : Int))) (hN : N ≤ 25) : ArgP w ((List.range N).map fun i => ((c i : Nat) : Int)) a N oc := by
  refine ⟨by simp, by unfold maxLen; omega, fun k hk => ?_⟩
  have hk' : k < N := by simpa using hk
  rcases h.2 with ⟨_, e⟩ | ⟨g, cap, cur, e, hg, hb, h1, h2, h3, h4⟩
  · omega
  · injection e with e1 e2 e3
    refine ⟨g, 0, e1, lt_blockT hb, ?_⟩
    have : ((List.range N).map fun i => Value.int .i64 ((c i : Nat) : Int))[k]? = some (.int .i64 ((c k : Nat) : Int)) := by simp [hk']
    rw [cell_of_row w _ _ _ _ _ hb, Nat.zero_add]
    rw [← h4, List.getElem?_take, if_pos (by omega)] at this
    simp at this ⊢
    exact this
/-- What comes of a board that is laid and filled. -/
def LfO (xs : List TlT) (n W H : Nat) (ring : Bool) (w : World) (e : Ending) (w' : World) : Prop :=
  (NoneW n (W * H) (okW xs W H ring) ∧ e = .returned (.tuple #[.slice none 0 0, .iface 49 (.int .i64 5)]) ∧ Hid (Below w.heap.size w w'))
  ∨ (∃ c oa oc, FirstW n (W * H) (okW xs W H ring) c ∧ e = .returned (.tuple #[.slice oa (W * H) oc, .nilIface]) ∧ Hid (ArgP w' ((List.range (W * H)).map fun i => ((c i : Nat) : Int)) oa (W * H) oc) ∧ Hid (∀ p off, oa = some ⟨p, off, none⟩ → w.heap.size ≤ p) ∧ Hid (Below w.heap.size w w'))
theorem fill_laid (xs : List TlT) (n W H : Nat) (ring : Bool) (B : BdW) (g : Nat) (w V : World) (hL : LaiW xs n W H ring B) (hB : BokW B) (hV : BrdA V g B) (hT : TzTab w) (hb : Below w.heap.size w V) (hg : w.heap.size ≤ g) (hW : 1 ≤ W) (hW5 : W ≤ 5) (hH : 1 ≤ H) (hH5 : H ≤ 5) :
    Calls Tryd.prog 23 #[.pointer (some ⟨g, 0, none⟩)] V (LfO xs n W H ring w) := by
  refine (fill_any B g V hV hB (hT.below hb) (by have := tz_lt hT; omega)).mono ?_
  rintro e w' (⟨no, rfl, gr⟩ | ⟨c, oa, oc, fil, rfl, own, gr⟩)
  · exact Or.inl ⟨none_of hL hW hH no, rfl, hide' (below_of_grownW hb gr hg)⟩
  · have eN : B.H * B.W = W * H := by rw [hL.eW, hL.eH, Nat.mul_comm]
    have F := first_of hL hW hH fil
    rw [eN] at own
    exact Or.inr ⟨c, oa, oc, F, by rw [eN], hide' (argP_own own (Nat.le_trans (Nat.mul_le_mul hW5 hH5) (by decide))), hide' (fun p off e => Nat.le_trans hb.size (own.lt p (by rw [e]; rfl)).1), hide' (below_of_grownW hb gr hg)⟩
set_option maxRecDepth 100000 in
set_option maxHeartbeats 12800000 in
theorem wangFill_any (xs : List TlT) (a : Option Addr) (n c : Nat) (W H : Int) (ring : Bool) (w : World) (hA : ArgT w xs a n c) (hT : TzTab w) :
    Calls Tryd.prog 14 #[.slice a n c, .int .i64 W, .int .i64 H, .bool ring] w (WfA xs n W H ring w) := by
  have SC := hide' (wangSized_any xs a n c W H w hA)
  by_cases s0 : sdF xs W H = 0
  · have S0 := hide' s0
    obtain ⟨t0, n1, n16, v, u, rfl, rfl, v1, v5, u1, u5⟩ := sdF_ok s0
    rw [s0, show errOf 0 = .nilIface from rfl] at SC
    have nl := hA.len
    have LC := hide' (fun (V : World) (h : Below w.heap.size w V) => lay_anyW xs a n c v u ring V (hA.below h) t0 (by omega) (by omega) v1 v5 u1 u5)
    have FL := hide' (fun (B : BdW) (g : Nat) (V : World) hL hB hV hb hg => fill_laid xs n v u ring B g w V hL hB hV hT hb hg v1 v5 u1 u5)
    have FNO := hide' (fun (h : NoneW n (v * u) (okW xs v u ring)) (w' : World) (hb : Below w.heap.size w w') => show WfA xs n (v : Int) (u : Int) ring w (.returned (.tuple #[.slice none 0 0, .iface 49 (.int .i64 5)])) w' from Or.inr (Or.inl ⟨S0.out, by rw [Int.toNat_natCast, Int.toNat_natCast]; exact h, none, 0, 0, rfl, hide' (nilW _), hide' hb⟩))
    have FYE := hide' (fun (d : Nat → Nat) (oa : Option Addr) (oc : Nat) (h : FirstW n (v * u) (okW xs v u ring) d) (w' : World) (hp : ArgP w' ((List.range (v * u)).map fun i => ((d i : Nat) : Int)) oa (v * u) oc) (hb : Below w.heap.size w w') => show WfA xs n (v : Int) (u : Int) ring w (.returned (.tuple #[.slice oa (v * u) oc, .nilIface])) w' from Or.inr (Or.inr ⟨S0.out, d, by rw [Int.toNat_natCast, Int.toNat_natCast]; exact h, oa, v * u, oc, rfl, by rw [Int.toNat_natCast, Int.toNat_natCast]; exact hide' hp, hide' hb⟩))
    clear hA hT s0 t0 n16 nl n1
    have zv := zero_boardW
    obtain ⟨Z, hZ⟩ : ∃ Z, arV 92 (bdV zeB) = Z := ⟨_, rfl⟩
    rw [hZ] at zv
    have ZS : Z.size = 92 := by rw [← hZ, arV_size]
    have zn' : ¬ Z = #[] := fun e => by rw [e] at ZS; simp at ZS
    clear hZ
    go_enter Tryd.func14, Tryd.ntmps14
    go_wp2_with fail
    refine SC.out.mono ?_
    rintro o w1 ⟨rfl, b1⟩
    have B1 := hide' b1
    have LY := hide' (LC.out w1 b1)
    clear b1
    go_wp2_with fail
    refine LY.out.mono ?_
    rintro o w2 ⟨B, hLB, hBO, rfl, b2⟩
    obtain ⟨A, hA⟩ : ∃ A, arV 92 (bdV B) = A := ⟨_, rfl⟩
    have os : A.size = 92 := by rw [← hA, arV_size]
    have ol : A.all (·.oneCell') = true := by rw [← hA]; exact arV_all (fun k _ => bdV_one _ k)
    rw [hA]
    have G0 := heap_alloc_new w2 (.cells Z 58)
    have B2 := hide' (B1.out.trans (b2.mono B1.out.size))
    have LB := hide' hLB
    have BO := hide' hBO
    clear b2 hLB hBO LY LC
    go_upto_region 5 with (refine wpList_store_row rfl 58 _ _ rfl w2.heap.size A rfl rfl 58 Z G0 (by rw [os]; exact size_boardW) (by rw [os]; exact ZS) ol ?_)
    obtain ⟨g, hg⟩ : ∃ g, w2.heap.size = g := ⟨_, rfl⟩
    rw [hg] at G0
    obtain ⟨w3, hw3⟩ : ∃ w3, (w2.alloc (.cells Z 58)).setRow g A = w3 := ⟨_, rfl⟩
    have D3 := hide' (show BrdA w3 g B by unfold BrdA; rw [← hw3, setRow_heap _ _ _ _ _ _ G0, hA])
    have B3 := hide' (show Below w.heap.size w w3 by rw [← hw3]; exact belowW_set (B2.out.alloc B2.out.size _) (by have := B2.out.size; omega) _)
    have FC := hide' (FL.out B g w3 LB.out BO.out D3.out B3.out (by have := B2.out.size; omega))
    rw [hg, hw3]
    clear hw3 hg G0 ol os hA zv ZS zn'
    go_wp2_with fail
    refine FC.out.mono ?_
    rintro o w4 (⟨no, rfl, b4⟩ | ⟨d, oa, oc, yes, rfl, hp, -, b4⟩)
    · have FIN := hide' (FNO.out no w4 b4.out)
      clear no
      go_wp2
      go_ret2
      exact FIN.out
    · have FIN := hide' (FYE.out d oa oc yes w4 hp.out b4.out)
      obtain ⟨N, hN⟩ : ∃ N, v * u = N := ⟨_, rfl⟩
      rw [hN] at FIN
      rw [hN]
      clear yes hp hN
      go_wp2
      go_ret2
      exact FIN.out
  · have EE := hide' (fun (w' : World) (hb : Below w.heap.size w w') => show WfA xs n W H ring w (.returned (.tuple #[.slice none 0 0, errOf (sdF xs W H)])) w' from Or.inl ⟨s0, none, 0, 0, rfl, hide' (nilW _), hide' hb⟩)
    obtain ⟨f, hf⟩ : ∃ f, sdF xs W H = f := ⟨_, rfl⟩
    rw [hf] at SC EE s0
    have ef : errOf f = .iface 49 (.int .i64 (f : Int)) := by unfold errOf; rw [if_neg s0]
    rw [ef] at SC EE
    clear hA hT hf s0 ef
    go_enter Tryd.func14, Tryd.ntmps14
    go_wp2_with fail
    refine SC.out.mono ?_
    rintro o w1 ⟨rfl, b1⟩
    go_wp2
    go_ret2
    exact EE.out w1 b1
end Go.Proofs.YthmeapplnocfjaaDoor

namespace Go.Proofs.YthmeapplnocfjaaDoor
open Go.RowKit
set_option linter.unusedVariables false
set_option linter.unusedSimpArgs false
end Go.Proofs.YthmeapplnocfjaaDoor

namespace Go.Proofs.YthmeapplnocfjaaDoor
open Go.RowKit
set_option linter.unusedVariables false
set_option linter.unusedSimpArgs false
end Go.Proofs.YthmeapplnocfjaaDoor

namespace Go.Proofs.YthmeapplnocfjaaDoor
open Go.RowKit
set_option linter.unusedVariables false

theorem list_ne_len {xs ys : List Int} (h : xs.length ≠ ys.length) : decide (xs = ys) = false := by
  simp; intro e; exact h (by rw [e])
theorem list_ne_at {xs ys : List Int} {k : Nat} (hx : k < xs.length) (hy : k < ys.length) (h : xs[k] ≠ ys[k]) : decide (xs = ys) = false := by
  simp; intro e; subst e; exact h rfl

set_option maxHeartbeats 1600000 in
theorem Ints_any (xs ys : List Int) (a b : Option Addr) (n c m d : Nat) (w : World) (hA : ArgP w xs a n c) (hB : ArgP w ys b m d) :
    Calls Tryd.prog 15 #[.slice a n c, .slice b m d] w fun e w' => e = .returned (.bool (decide (xs = ys))) ∧ ∃ q, w' = w.drewN q := by
  have HA := hide' hA
  have HB := hide' hB
  have hlx := hA.len
  have hly := hB.len
  have hma := hA.max
  have hmb := hB.max
  have LX := hide' hlx
  have LY := hide' hly
  unfold maxLen at hma hmb
  by_cases hnm : n = m
  · subst hnm
    clear hA hB hlx hly
    have EQ := hide' (fun (h : ∀ j (h1 : j < xs.length) (h2 : j < ys.length), xs[j] = ys[j]) => show decide (xs = ys) = true by
      simp; exact List.ext_getElem (by rw [← LX.out, ← LY.out]) fun j h1 h2 => h j h1 h2)
    go_enter Tryd.func15, Tryd.ntmps15
    go_wp2
    go_loopw [5] (fun iv wr => ∃ k q : Nat, iv = .int .i64 (k : Int) ∧ k ≤ n ∧ wr = w.drewN q ∧ Hid (∀ j (h1 : j < xs.length) (h2 : j < ys.length), j < k → xs[j] = ys[j])) (fun iv _ => n - (intOf iv).toNat)
    case atStart => exact ⟨0, 0, rfl, by omega, rfl, fun j h1 h2 h => by omega⟩
    case round =>
      obtain ⟨k, q, rfl, hk, rfl, HK⟩ := hrel
      by_cases hkn : (k : Int) < (n : Int)
      · have l1 : k < xs.length := by have := LX.out; omega
        have l2 : k < ys.length := by have := LY.out; omega
        obtain ⟨ga, oa, rfl, -, c1⟩ := HA.out.cells k l1
        obtain ⟨gb, ob, rfl, -, c2⟩ := HB.out.cells k l2
        obtain ⟨x, hx⟩ : ∃ x, xs[k] = x := ⟨_, rfl⟩
        obtain ⟨y, hy⟩ : ∃ y, ys[k] = y := ⟨_, rfl⟩
        rw [hx] at c1
        rw [hy] at c2
        have HX := hide' hx
        have HY := hide' hy
        clear hx hy
        by_cases e : x = y
        · subst e
          have m1 : (x != x) = false := by simp
          go_wp2
          go_quiet (fail)
          go_wp2
          refine ⟨⟨k + 1, q + nq, by go_num, by omega, rfl, fun j h1 h2 h => ?_⟩, by simp [intOf]; omega⟩
          by_cases ej : j = k
          · subst ej; rw [HX.out, HY.out]
          · exact HK.out j h1 h2 (by omega)
        · have m1 : (x != y) = true := by simp [e]
          have F := hide' (list_ne_at l1 l2 (by rw [HX.out, HY.out]; exact e))
          clear e
          go_wp2
          go_quiet (fail)
          go_wp2
          go_ret
          exact ⟨by rw [F.out]; rfl, q + nq, by simp [World.drewN, Nat.add_assoc]⟩
      · have F := hide' (EQ.out fun j h1 h2 => HK.out j h1 h2 (by have := LX.out; omega))
        go_wp2
        go_ret
        exact ⟨by rw [F.out]; rfl, q, rfl⟩
  · have m1 : ((n : Int) != (m : Int)) = true := by simp; omega
    have F := hide' (list_ne_len (xs := xs) (ys := ys) (by rw [← hlx, ← hly]; exact hnm))
    clear hA hB hlx hly hnm
    go_enter Tryd.func15, Tryd.ntmps15
    go_wp2
    go_ret
    exact ⟨by rw [F.out]; rfl, 0, rfl⟩

end Go.Proofs.YthmeapplnocfjaaDoor

