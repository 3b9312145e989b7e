/-
  What the last text of this claim leans on, part 22: Cm5, OpenP, OpenQ, OpenF.
-/
import Derived.Test.YtcfoeadfhkojeaaGreatDoorZm12
import Derived.Test.YtcfoeadfhkojeaaGreatDoorZm18
import Derived.Test.YtcfoeadfhkojeaaGreatDoorZm20
import Derived.Test.YtcfoeadfhkojeaaGreatDoorZm15
import Derived.Test.YtcfoeadfhkojeaaGreatDoorZm21
import Derived.Test.YtcfoeadfhkojeaaGreatDoorZm6
import Derived.Test.YtcfoeadfhkojeaaGreatDoorZm1
import Derived.Test.YtcfoeadfhkojeaaGreatDoorRows
import Derived.Test.YtcfoeadfhkojeaaGreatDoorCards
import Derived.Test.YtcfoeadfhkojeaaGreatDoorTie
import Derived.Test.YtcfoeadfhkojeaaGreatDoorZm9
import Derived.ProofKit
import Derived.OpenShut
import Derived.ChangeSame
import Derived.ChangeSlices
import Derived.ChangeVars
import Derived.JoinedOf
import Derived.RowKit
import Derived.RowKitTokens
import Derived.LaidLaws
import Derived.LaidHandle
import Derived.LaidSub
import Derived.Lay
import Derived.Carry
import Derived.Stop.Joined
import Derived.SevenTiedAt
import Derived.Stop.LaidErr
import Derived.Lib.LaidTab
namespace Go.Proofs.YtcfoeadfhkojeaaGreatDoor
open Go.RowKit
set_option linter.unusedVariables false
def addM : List InsT := [(2, 0, 1, 2), (1, 1, 0, 0), (3, 0, 0, 0)]
set_option maxRecDepth 100000 in
theorem add_runs : runE addM [2, 3, 0, 0] 100 = 0 := by decide +kernel
set_option maxRecDepth 100000 in
theorem add_ends : cntA addM [2, 3, 0, 0] 100 = ([0, 5, 0, 0], 5, 2, 0) := by
  unfold cntA
  rw [if_neg (by rw [add_runs]; simp)]
  rw [if_pos (by rfl)]
  rfl
theorem prim_at {n k : Nat} (hn : n ≤ 28) (hk : k < n) (h : k < (primI n).length) : (primI n)[k] = (prN k : Int) := by
  have h1 : k < primT.length := by show k < 28; omega
  unfold primI prN
  simp [List.getD, h1]
theorem prim_len {n : Nat} (hn : n ≤ 28) : (primI n).length = n := by unfold primI; rw [List.length_map, List.length_take, show primT.length = 28 from rfl]; omega
set_option maxRecDepth 100000 in
set_option maxHeartbeats 12800000 in
theorem law_means_all (xs : List InsT) (a : Option Addr) (n c : Nat) (cs : List Int) (b : Option Addr) (m d : Nat) (f : Int) (eb : Addr) (w : World) (hP : ArgI w xs a n c) (hC : ArgP w cs b m d) (hU : UsT w) (hW : WoT w) (hT : PrT w) (hE : EndT w eb) (hG : Handle w) :
    Calls Tryz.prog 3 #[.slice a n c, .slice b m d, .int .i64 f] w fun e w' => e = .returned (.bool true) ∧ Below w.heap.size w w' := by
  have HP := hide' (fun (V : World) (h : Below w.heap.size w V) => hP.below h)
  have HC := hide' (fun (V : World) (h : Below w.heap.size w V) => hC.below h)
  have HU := hide' (fun (V : World) (h : Below w.heap.size w V) => hU.below h)
  have HW := hide' (fun (V : World) (h : Below w.heap.size w V) => hW.below h)
  have HT := hide' (fun (V : World) (h : Below w.heap.size w V) => hT.below h hT.lt)
  have HE := hide' (fun (V : World) (h : Below w.heap.size w V) => hE.below h hE.lt)
  have HG := hide' (fun (V : World) (h : Below w.heap.size w V) => hG.below h)
  have HL := hide' hP.len
  have HM := hide' hC.len
  obtain ⟨w2, hw2⟩ : ∃ w2, (w.alloc (.cells #[.int .i64 2, .int .i64 0, .int .i64 1, .int .i64 2, .int .i64 1, .int .i64 1, .int .i64 0, .int .i64 0, .int .i64 3, .int .i64 0, .int .i64 0, .int .i64 0] 25)).alloc (.cells #[.int .i64 2, .int .i64 3, .int .i64 0, .int .i64 0] 3) = w2 := ⟨_, rfl⟩
  have B2 := hide' (show Below w.heap.size w w2 by rw [← hw2]; exact ((Below.refl _ _).alloc (Nat.le_refl _) _).alloc (by simp) _)
  have R0 := hide' (show w2.heap[w.heap.size]? = some (.cells #[.int .i64 2, .int .i64 0, .int .i64 1, .int .i64 2, .int .i64 1, .int .i64 1, .int .i64 0, .int .i64 0, .int .i64 3, .int .i64 0, .int .i64 0, .int .i64 0] 25 (0, 0)) by rw [← hw2]; exact (heap_alloc_old (w.alloc _) _ (by simp)).trans (heap_alloc_new w _))
  have R1 := hide' (show w2.heap[w.heap.size + 1]? = some (.cells #[.int .i64 2, .int .i64 3, .int .i64 0, .int .i64 0] 3 (0, 0)) by rw [← hw2]; exact heap_alloc2_new _ _ _)
  have AI := hide' (show ArgI w2 addM (some ⟨w.heap.size, 0, none⟩) 3 3 from ⟨rfl, by omega, fun k hk => ⟨w.heap.size, 0, rfl, lt_of_block R0.out, by
    rcases (show k = 0 ∨ k = 1 ∨ k = 2 by have : addM.length = 3 := rfl; omega) with rfl | rfl | rfl <;> exact ⟨cell_of_row w2 _ _ _ _ _ R0.out, cell_of_row w2 _ _ _ _ _ R0.out, cell_of_row w2 _ _ _ _ _ R0.out, cell_of_row w2 _ _ _ _ _ R0.out⟩⟩⟩)
  have AC := hide' (show ArgP w2 [2, 3, 0, 0] (some ⟨w.heap.size + 1, 0, none⟩) 4 4 from ⟨rfl, by unfold maxLen; omega, fun k hk => ⟨w.heap.size + 1, 0, rfl, lt_of_block R1.out, by
    rcases (show k = 0 ∨ k = 1 ∨ k = 2 ∨ k = 3 by simp at hk; omega) with rfl | rfl | rfl | rfl <;> exact cell_of_row w2 _ _ _ _ _ R1.out⟩⟩)
  have RA := hide' (counterRun_ok addM (some ⟨w.heap.size, 0, none⟩) 3 3 [2, 3, 0, 0] (some ⟨w.heap.size + 1, 0, none⟩) 4 4 100 eb w2 AI.out (HU.out w2 B2.out) AC.out (HE.out w2 B2.out) add_runs)
  rw [add_ends] at RA
  have HW2 := hide' hw2
  clear hP hC hU hW hT hE hG hw2
  go_enter Tryz.func3, Tryz.ntmps3
  go_wp2_with fail
  rw [HW2.out]
  refine RA.out.mono ?_
  rintro e w3 ⟨fa, fq, rfl, hF, b3⟩
  have B3 := hide' (B2.out.trans (b3.mono B2.out.size))
  obtain ⟨fg, fo, rfl, -, f1⟩ := hF.cells 1 (by decide)
  simp only [List.length_cons, List.length_nil, show errOf 0 = .nilIface from rfl] at f1 ⊢
  have f1' : w3.cell? ⟨fg, fo + 1, none⟩ = some (.int .i64 5) := f1
  clear f1 hF b3
  by_cases hc : codeE xs = 0
  · have PR := hide' (print_ok xs a n c w3 (HP.out w3 B3.out) (HU.out w3 B3.out) (HW.out w3 B3.out) hc)
    obtain ⟨tb1, tb2, tb3⟩ := text_back hc
    have HCO := hide' hc
    have TB := hide' (fun (V : World) (hb : Below w.heap.size w V) => counterParse_any (textL xs) V tb3 (HU.out V hb) (HW.out V hb))
    unfold ParP at TB
    rw [tb1, tb2] at TB
    obtain ⟨tx, htx⟩ : ∃ tx, textL xs = tx := ⟨_, rfl⟩
    rw [htx] at PR TB
    clear tb1 tb2 tb3 hc htx
    go_wp2_with fail
    refine PR.out.mono ?_
    rintro e w4 ⟨rfl, b4⟩
    have B4 := hide' (B3.out.trans (b4.mono B3.out.size))
    clear f1' b4
    go_wp2_with fail
    refine (TB.out w4 B4.out).mono ?_
    rintro e w5 ⟨b5, ⟨-, pa, pq, rfl, hA⟩ | ⟨h0, -⟩⟩
    · simp only at hA ⊢
      rw [← HL.out] at hA ⊢
      have B5 := hide' (B4.out.trans (b5.mono B4.out.size))
      have SI := hide' (sameI_any xs a pa n c pq w5 (HP.out w5 B5.out) hA)
      clear hA b5
      go_wp2_with fail
      refine SI.out.mono ?_
      rintro e w6 ⟨rfl, b6⟩
      have B6 := hide' (B5.out.trans (b6.mono B5.out.size))
      clear b6
      have RN := hide' (show Calls Tryz.prog 4 #[.slice a n c, .slice b m d, .int .i64 f] w6 (RanC (cntA xs cs f) w6) from by
        by_cases hr : runE xs cs f = 0
        · exact counterRun_ok xs a n c cs b m d f eb w6 (HP.out w6 B6.out) (HU.out w6 B6.out) (HC.out w6 B6.out) (HE.out w6 B6.out) hr
        · exact counterRun_bad xs a n c cs b m d f w6 (HP.out w6 B6.out) (HU.out w6 B6.out) (HC.out w6 B6.out) hr)
      by_cases h0 : (cntA xs cs f).2.2.2 = 0
      · obtain ⟨c', N, t, RE⟩ := run_ends HCO.out h0
        have RF := hide' (fun (V : World) (hb : Below w.heap.size w V) => refPlayM_any xs a n c cs b m d f V (HP.out V hb) (HC.out V hb) HCO.out)
        rw [RE.ans] at RN RF
        obtain rfl : m = 4 := by rw [HM.out]; exact RE.len
        have HRE := hide' RE
        have n12 : n ≤ 12 := by rw [HL.out]; exact (code_at HCO.out).2.1
        have tn : t < n := by rw [HL.out]; exact RE.at_
        have hN := RE.few
        clear h0 RE
        go_wp2_with fail
        refine RN.out.mono ?_
        rintro e w7 ⟨ra, rq, rfl, hRA, b7⟩
        simp only [show errOf 0 = .nilIface from rfl, show (fourM c').length = 4 from rfl] at hRA ⊢
        have B7 := hide' (B6.out.trans (b7.mono B6.out.size))
        have HRA := hide' (fun (V : World) (h : Below w7.heap.size w7 V) => hRA.below h)
        clear hRA b7
        by_cases n5 : (50000 : Int) < (N : Int)
        · go_wp2
          go_ret
          exact ⟨rfl, B7.out⟩
        · go_wp2_with fail
          refine (RF.out w7 B7.out).mono ?_
          rintro e w8 ⟨sa, sq, rfl, -, b8⟩
          simp only [show (fourM c').length = 4 from rfl]
          have B8 := hide' (B7.out.trans (b8.mono B7.out.size))
          have D8 := hide' b8
          clear b8
          obtain ⟨np, hnp⟩ : ∃ np, 4 + 2 * n = np := ⟨_, rfl⟩
          have np28 : np ≤ 28 := by omega
          have e1 : (4 : Int) + 2 * (n : Int) = (np : Int) := by omega
          have PI := hide' (fun V => refPrimes_any np np28 V)
          go_wp2_with fail
          refine (PI.out w8).mono ?_
          rintro e w9 ⟨qa, qq, rfl, hQ, b9⟩
          have B9 := hide' (B8.out.trans (b9.mono B8.out.size))
          have D9 := hide' (D8.out.trans (b9.mono D8.out.size))
          obtain ⟨qg, qo, rfl, -, -⟩ := hQ.cells 4 (by rw [prim_len np28]; omega)
          have HQ := hide' (fun (V : World) (h : Below w9.heap.size w9 V) (k : Nat) (hk : k < np) => show V.cell? ⟨qg, qo + k, none⟩ = some (.int .i64 (prN k : Int)) by
            obtain ⟨g', o', ee, -, h5⟩ := (hQ.below h).cells k (by rw [prim_len np28]; exact hk)
            cases ee
            rw [h5, prim_at np28 hk])
          have q4 : w9.cell? ⟨qg, qo + 4, none⟩ = some (.int .i64 11) := HQ.out w9 (Below.refl _ _) 4 (by omega)
          have l4 : (4 : Int) < (np : Int) := by omega
          have NB := hide' (show Calls Tryz.prog 10 #[.slice b 4 d, .int .i64 11] w9 (fun e w' => e = .returned (.int .i64 (numA (fun k => cs.getD k 0) 11 : Int)) ∧ Below w9.heap.size w9 w') from number_any cs b d 11 w9 (HC.out w9 B9.out) HRE.out.len HRE.out.rng (by omega) (by omega))
          have XP := hide' (show numA (fun k => cs.getD k 0) 11 ≠ 0 → valP (fun k => cs.getD k 0) * prN 4 = numA (fun k => cs.getD k 0) 11 ∧ numA (fun k => cs.getD k 0) 11 ≤ 4611686018427387904 from fun h => by
            unfold numA at h ⊢
            split at h
            · rename_i h1
              rw [if_pos h1]
              exact ⟨rfl, h1⟩
            · exact absurd rfl h)
          obtain ⟨X, hX⟩ : ∃ X, numA (fun k => cs.getD k 0) 11 = X := ⟨_, rfl⟩
          rw [hX] at NB XP
          clear hQ b9 hX hnp
          go_wp2_with fail
          refine NB.out.mono ?_
          rintro e w10 ⟨rfl, b10⟩
          have B10 := hide' (B9.out.trans (b10.mono B9.out.size))
          have D10 := hide' (D9.out.trans (b10.mono D9.out.size))
          have q10 := HQ.out w10 b10
          clear b10 q4
          by_cases x0 : X = 0
          · subst x0
            clear q10
            go_wp2
            go_ret
            exact ⟨rfl, B10.out⟩
          · obtain ⟨xe, xl⟩ := XP.out x0
            have PLY := hide' (HRE.out.play X xe xl (by omega))
            have x0' : ((X : Int) == 0) = false := by rw [beq_eq_false_iff_ne]; omega
            obtain ⟨tp, htp⟩ : ∃ tp, 4 + 2 * t = tp := ⟨_, rfl⟩
            rw [htp] at PLY
            have e2 : (4 : Int) + 2 * (t : Int) = (tp : Int) := by omega
            have tl : (tp : Int) < (np : Int) := by omega
            have t0 : (0 : Int) ≤ (tp : Int) := by omega
            have qt := q10 tp (by omega)
            have P2 := pr_two (i := tp) (by omega)
            have P107 := prN_le tp
            obtain ⟨pt, hpt⟩ : ∃ pt, prN tp = pt := ⟨_, rfl⟩
            rw [hpt] at qt PLY P2 P107
            have NB2 := hide' (number_any (fourM c') ra rq pt w10 (HRA.out w10 D10.out) rfl HRE.out.rng' (by omega) P107)
            rw [show numA (fun k => (fourM c').getD k 0) pt = numA c' pt from rfl] at NB2
            have YE := hide' (fun (h : valP c' * pt ≤ 4611686018427387904) => show numA c' pt = valP c' * pt by unfold numA; rw [if_pos h])
            obtain ⟨Y, hY⟩ : ∃ Y, numA c' pt = Y := ⟨_, rfl⟩
            rw [hY] at NB2 YE
            have X1 := hide' (And.intro x0 xl)
            clear q10 x0 xe xl htp hpt hY P2 P107
            go_wp2_with fail
            refine NB2.out.mono ?_
            rintro e w11 ⟨rfl, b11⟩
            have B11 := hide' (B10.out.trans (b11.mono B10.out.size))
            have FR := hide' (fractions_ok xs a n c w11 (HP.out w11 B11.out) (HU.out w11 B11.out) (HT.out w11 B11.out) HCO.out)
            clear b11 qt tl t0 e2
            go_wp2_with fail
            refine FR.out.mono ?_
            rintro e w12 ⟨ga, gq, rfl, hO, b12⟩
            simp only [show errOf 0 = .nilIface from rfl]
            have B12 := hide' (B11.out.trans (b12.mono B11.out.size))
            have AF := own_argF hO (fraL_fit xs)
            obtain ⟨nf, hnf⟩ : ∃ nf, (fraL xs).length = nf := ⟨_, rfl⟩
            rw [hnf] at AF ⊢
            have PL := hide' (show Calls Tryz.prog 12 #[.slice ga nf gq, .int .i64 (X : Int), .int .i64 (2 * (N : Int))] w12 (PlaC (plyA (fraL xs) (X : Int) (2 * (N : Int))) w12) from by
              by_cases hr : playE (fraL xs) (X : Int) (2 * (N : Int)) = 0
              · exact counterPlay_ok (fraL xs) ga nf gq (X : Int) (2 * (N : Int)) eb w12 AF (HE.out w12 B12.out) (by have := X1.out; omega) hr
              · exact counterPlay_bad (fraL xs) ga nf gq (X : Int) (2 * (N : Int)) w12 AF hr)
            clear b12 hO AF hnf
            rcases PLY.out with p4 | ⟨pz, pb⟩
            · rw [p4] at PL
              clear p4 PLY YE
              go_wp2_with fail
              refine PL.out.mono ?_
              rintro e w13 ⟨rfl, b13⟩
              simp only
              have B13 := hide' (B12.out.trans (b13.mono B12.out.size))
              have ES := hide' (errSameC_any 4 w13 (HG.out w13 B13.out))
              obtain ⟨ev, hev⟩ : ∃ ev, errOf 4 = ev := ⟨_, rfl⟩
              rw [hev] at ES ⊢
              clear b13 hev
              go_wp2_with fail
              refine ES.out.mono ?_
              rintro e w14 ⟨rfl, b14⟩
              have B14 := hide' (B13.out.trans (b14.mono B13.out.size))
              clear b14
              go_wp2
              go_ret
              exact ⟨rfl, B14.out⟩
            · rw [pz] at PL
              have YY := YE.out pb
              rw [← YY] at PL
              clear pz PLY YE pb YY
              go_wp2_with fail
              refine PL.out.mono ?_
              rintro e w13 ⟨rfl, b13⟩
              simp only [show errOf 0 = .nilIface from rfl]
              have B13 := hide' (B12.out.trans (b13.mono B12.out.size))
              have ES := hide' (error_nil 4 w13)
              rw [show ((0 : Int) == 4) = false from rfl] at ES
              have en : ((2 * N : Nat) : Int) = 2 * (N : Int) := by omega
              clear b13
              go_wp2_with fail
              refine ES.out.mono ?_
              rintro e w14 ⟨rfl, rfl⟩
              go_wp2
              go_ret
              exact ⟨rfl, B13.out⟩
      · have E0 := errOf_is h0
        obtain ⟨A, hA⟩ : ∃ A, cntA xs cs f = A := ⟨_, rfl⟩
        rw [hA] at RN h0 E0
        obtain ⟨A1, A2, A3, A4⟩ := A
        simp only at h0 E0
        have HE0 := hide' E0
        clear hA h0 E0
        go_wp2_with fail
        refine RN.out.mono ?_
        rintro e w7 ⟨ra, rq, rfl, -, b7⟩
        simp only
        rw [HE0.out]
        have B7 := hide' (B6.out.trans (b7.mono B6.out.size))
        clear b7
        obtain ⟨nn, hnn⟩ : ∃ nn, A1.length = nn := ⟨_, rfl⟩
        rw [hnn]
        clear hnn
        go_wp2
        go_ret
        exact ⟨rfl, B7.out⟩
    · exact absurd rfl h0
  · have PR := hide' (print_bad xs a n c w3 (HP.out w3 B3.out) (HU.out w3 B3.out) hc)
    rw [errOf_is hc] at PR
    clear hc
    go_wp2_with fail
    refine PR.out.mono ?_
    rintro e w4 ⟨rfl, b4⟩
    have B4 := hide' (B3.out.trans (b4.mono B3.out.size))
    clear f1' b4
    go_wp2
    go_ret
    exact ⟨rfl, B4.out⟩
end Go.Proofs.YtcfoeadfhkojeaaGreatDoor

namespace Go.Proofs.YtcfoeadfhkojeaaGreatDoor
open Go.ChangeShapes Go.WideShapes Go.ChangeAt Go.RowKit
open Go.ChangeMaps (setBlock shut_map_nil open_string shut_string keptBut_setBlock frozen?_setBlock heap_setBlock_same)
set_option linter.unusedVariables false

theorem laidOutP : laidOutB Tryz.prog = true := by kernel_rfl
theorem ownP : ownKnob Tryz.prog.godebug = none := by kernel_rfl
theorem errorTypeAtP : Tryz.prog.globalNamed "errors.errorType" = some 4 := by kernel_rfl
theorem rtypeAtP : (Tryz.prog.cutTypes.find? (·.1 == "internal/reflectlite.rtype")).map (·.2) = some 117 := by kernel_rfl
theorem oneRowP : ((List.range 189).filter fun t => Tryz.prog.rowNamed t [101, 114, 114, 111, 114]) = [27] := by kernel_rfl
theorem typesSizeP : Tryz.prog.types.size = 189 := by kernel_rfl

/-- What the condition on the listed variable gives a walk: its one cell. -/
theorem handle_laid {W : World} (h : handlesMet Tryz.prog [("errors.errorType", Rows.laid_errors_errorType)] W) : Handle W := by
  obtain ⟨name, u, ty, e1, e2, e3, e4, e5⟩ := h _ (List.mem_singleton.2 rfl)
  have en : name = [101, 114, 114, 111, 114] := (Option.some.inj e1).symm
  subst en
  obtain rfl := Option.some.inj (rtypeAtP.symm.trans e2)
  have hm : ty ∈ (List.range 189).filter fun t => Tryz.prog.rowNamed t [101, 114, 114, 111, 114] := List.mem_filter.2 ⟨List.mem_range.2 (by rw [← typesSizeP]; exact e3), e4⟩
  rw [oneRowP] at hm
  obtain rfl := List.mem_singleton.1 hm
  have hh : typeHandle Tryz.prog 27 = .pointer (some ⟨13, 27, none⟩) := by kernel_rfl
  rw [hh] at e5
  simpa [Handle] using World.var?_cell errorTypeAtP e5 0

/-- The variable's cell laid. -/
def layBlockP (o : Obj) : Obj := match o with
  | .cells _ t frozen => .cells #[.iface 117 (.agg #[.pointer (some ⟨13, 27, none⟩)])] t frozen
  | o => o
def layWorldP (w : World) : World := { w with heap := w.heap.modify 4 layBlockP }

/-- A list of ints as it is read. -/
theorem ints_arg {H : Type} {enc : TypeId × Value → H} {W : World} {fuel : Nat} {cs : List Value} {x : DataW H × List MemPlace}
    (h : DataW.trod enc Tryz.prog W 0 (fun _ => true) true fuel 23 cs = some x) :
    ∃ (xs : List Int) (a : Option Addr) (c : Nat), cs = [.slice a xs.length c] ∧ ArgP W xs a xs.length c ∧ xs.length ≤ c ∧ c ≤ maxLen := by
  have q3 : Tryz.prog.cellsOf 3 = 1 := by kernel_rfl
  rcases open_ints Tryz.underlying23 Tryz.underlying3 q3 h with ⟨rfl, -⟩ | ⟨a, len, cap, zs, rfl, hb, hlc, hcm, hzl, -, hcell, hwf⟩
  · exact ⟨[], none, 0, rfl, ⟨rfl, by simp, fun k hk => absurd hk (by simp)⟩, by simp, by simp⟩
  · simp only [if_true] at hzl
    have hl : (zs.take len).length = len := by simp; omega
    refine ⟨zs.take len, some a, cap, by rw [hl], ⟨rfl, by omega, fun k hk => ?_⟩, by omega, hcm⟩
    have hk' : k < len ∧ k < zs.length := by simp only [List.length_take] at hk; omega
    have hc0 := hcell 0 (by omega)
    have hck := hcell k hk'.2
    obtain ⟨g, off, sp⟩ := a
    have hsp : sp = none := by
      cases sp with
      | none => rfl
      | some q =>
        exfalso
        simp [Addr.add, World.cell?] at hc0
        split at hc0 <;> simp at hc0
    subst hsp
    have ea : (⟨g, off, none⟩ : Addr).add k = ⟨g, off + k, none⟩ := by
      unfold Addr.add
      split
      · rename_i hz; subst hz; rfl
      · rfl
    rw [ea] at hck
    refine ⟨g, off, rfl, ?_, ?_⟩
    · rcases Nat.lt_or_ge g W.heap.size with q | q
      · exact q
      · simp [World.cell?, Array.getElem?_eq_none q] at hck
    · rw [hck]
      simp [List.getD, hk'.2]

set_option maxRecDepth 100000 in
/-- A list of ints that came in. -/
theorem open_list {H : Type} {enc : TypeId × Value → H} {W : World} {base : Nat} {v : Value} {d : DataW H} {p : List MemPlace}
    (hv : Value.okWide Tryz.prog W .any base 23 v) (h : DataW.Trod enc Tryz.prog W 0 (fun _ => true) true 23 v d p) :
    ∃ (xs : List Int) (a : Option Addr) (c : Nat), v = .slice a xs.length c ∧ ArgP W xs a xs.length c ∧ xs.length ≤ c ∧ c ≤ maxLen := by
  obtain ⟨a0, n0, c0, rfl⟩ := okWide_slice Tryz.underlying23 hv
  obtain ⟨fuel, h⟩ := h
  obtain ⟨xs, a, c, e, ha, h1, h2⟩ := ints_arg h
  simp [Value.cells] at e
  obtain ⟨rfl, rfl, rfl⟩ := e
  exact ⟨xs, _, _, rfl, ha, h1, h2⟩
end Go.Proofs.YtcfoeadfhkojeaaGreatDoor

namespace Go.Proofs.YtcfoeadfhkojeaaGreatDoor
open Go.ChangeShapes Go.WideShapes Go.ChangeAt Go.RowKit
set_option linter.unusedVariables false

end Go.Proofs.YtcfoeadfhkojeaaGreatDoor

namespace Go.Proofs.YtcfoeadfhkojeaaGreatDoor
open Go.ChangeShapes Go.WideShapes Go.ChangeAt Go.RowKit
open Go.ChangeMaps (setBlock shut_map_nil open_string shut_string keptBut_setBlock frozen?_setBlock heap_setBlock_same)
set_option linter.unusedVariables false
theorem endAt : Tryz.prog.globalNamed "eden/counter.errEnded" = some 3 := by kernel_rfl
theorem endStar : "*" ++ "errors.errorString" = "*errors.errorString" := by decide
theorem endRow (u : TypeId) (h : Tryz.prog.typeName? 3 u = some "*errors.errorString") : u = 158 :=
  typeName_ptr_named (nm := "errors.errorString") (by rw [endStar]; kernel_rfl) (by kernel_rfl) (by decide) u (by rw [endStar]; exact h)
theorem end_of_laid {W : World} {l : List (String × DataW Unit)} (he : (l.filter fun x => x.1 == "eden/counter.errEnded") = [("eden/counter.errEnded", Rows.laid_eden_counter_errEnded)])
    (h : laidMet Tryz.prog l W) : ∃ eb, EndT W eb := by
  have h1 := h.filter fun x => x.1 == "eden/counter.errEnded"
  rw [he] at h1
  obtain ⟨a, s, h2, -⟩ := laid_sentinel (tp := 158) (te := 177) (ts := 9) h1 endAt (by kernel_rfl) Tryz.underlying27 endRow Tryz.underlying158 Tryz.underlying177 rfl rfl Tryz.underlying9 (by kernel_rfl) (by kernel_rfl)
  refine ⟨a, ?_⟩
  unfold EndT
  simpa using World.var?_cell endAt h2 0
theorem add_atF (g off k : Nat) : (⟨g, off, none⟩ : Addr).add k = ⟨g, off + k, none⟩ := by
  unfold Addr.add
  split
  · rename_i hz; subst hz; rfl
  · rfl
theorem sp_noneF {w : World} {g off : Nat} {sp : Option Nat} {v : Value} (h : w.cell? (((⟨g, off, sp⟩ : Addr).add 0).add 0) = some v) : sp = none := by
  cases sp with
  | none => rfl
  | some q =>
    exfalso
    simp [Addr.add, World.cell?] at h
    split at h <;> simp at h
end Go.Proofs.YtcfoeadfhkojeaaGreatDoor

