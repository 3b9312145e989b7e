/-
  What the last text of this claim leans on, part 14: Ch1, OpenP, OpenQ, OpenF.
-/
import Derived.Test.YtdkomlgkkepioaaDoorJr9
import Derived.Test.YtdkomlgkkepioaaDoorJr10
import Derived.Test.YtdkomlgkkepioaaDoorJr6
import Derived.Test.YtdkomlgkkepioaaDoorJr12
import Derived.Test.YtdkomlgkkepioaaDoorJr13
import Derived.Test.YtdkomlgkkepioaaDoorJr1
import Derived.Test.YtdkomlgkkepioaaDoorRows
import Derived.Test.YtdkomlgkkepioaaDoorCards
import Derived.Test.YtdkomlgkkepioaaDoorTie
import Derived.Test.YtdkomlgkkepioaaDoorJr7
import Derived.ProofKit
import Derived.OpenShut
import Derived.ChangeSame
import Derived.ChangeSlices
import Derived.ChangeVars
import Derived.JoinedOf
import Derived.RowKit
import Derived.RowKitTokens
import Derived.LaidLaws
import Derived.LaidHandle
import Derived.LaidSub
import Derived.Lay
import Derived.Carry
import Derived.Stop.Joined
import Derived.SevenTiedAt
import Derived.Stop.LaidErr
import Derived.Lib.LaidTab
namespace Go.Proofs.YtdkomlgkkepioaaDoor
open Go.RowKit
set_option linter.unusedVariables false
theorem ran_code {xs : List InsT} {cs : List Int} {f : Int} (h : codeE xs ≠ 0) : runE xs cs f = codeE xs := by unfold runE; rw [if_pos h]
theorem fraL_fit (xs : List InsT) : ∀ p ∈ fraL xs, p.1 ≤ 9223372036854775807 ∧ p.2 ≤ 9223372036854775807 := by
  have nf : ∀ a b : Nat, a ≤ 107 * 107 → b ≤ 107 * 107 → (natF a b).1 ≤ 9223372036854775807 ∧ (natF a b).2 ≤ 9223372036854775807 := fun a b ha hb => by unfold natF; simp only; omega
  have pm : ∀ i j, prN i * prN j ≤ 107 * 107 := fun i j => Nat.mul_le_mul (prN_le i) (prN_le j)
  have pl : ∀ i, prN i ≤ 107 * 107 := fun i => Nat.le_trans (prN_le i) (by omega)
  have hl : ∀ k p, ∀ q ∈ lineF k p, q.1 ≤ 9223372036854775807 ∧ q.2 ≤ 9223372036854775807 := fun k p q hq => by
    unfold lineF at hq
    split at hq
    · simp only [List.mem_singleton] at hq; subst hq; exact nf _ _ (pm _ _) (pl _)
    · split at hq
      · simp only [List.mem_cons, List.not_mem_nil, or_false] at hq
        rcases hq with rfl | rfl
        · exact nf _ _ (pl _) (pm _ _)
        · exact nf _ _ (pl _) (pl _)
      · cases hq
  have hn : ∀ k, ∀ q ∈ linesF xs k, q.1 ≤ 9223372036854775807 ∧ q.2 ≤ 9223372036854775807 := fun k => by
    induction k with
    | zero => intro q hq; cases hq
    | succ k ih => intro q hq; rw [linesF, List.mem_append] at hq; exact hq.elim (ih q) (hl _ _ q)
  have he : ∀ k, ∀ q ∈ endsF k, q.1 ≤ 9223372036854775807 ∧ q.2 ≤ 9223372036854775807 := fun k => by
    induction k with
    | zero => intro q hq; cases hq
    | succ k ih => intro q hq; rw [endsF, List.mem_append] at hq; exact hq.elim (ih q) (fun h => by simp only [List.mem_singleton] at h; subst h; exact nf _ _ (pl _) (pl _))
  intro p hp
  unfold fraL at hp
  rw [List.mem_append] at hp
  exact hp.elim (hn _ p) (he _ p)
set_option maxRecDepth 100000 in
set_option maxHeartbeats 6400000 in
theorem law_runs_bad (xs : List InsT) (a : Option Addr) (n c : Nat) (cs : List Int) (b : Option Addr) (m d : Nat) (f : Int) (w : World) (hP : ArgI w xs a n c) (hC : ArgP w cs b m d) (hU : UsT w) (hG : Handle w) (hc : codeE xs ≠ 0) :
    Calls Tryd.prog 8 #[.slice a n c, .slice b m d, .int .i64 f] w fun e w' => e = .returned (.bool true) ∧ Below w.heap.size w w' := by
  have RC := hide' (refCode_any xs a n c w hP)
  have CK := hide' (fun (V : World) (h : Below w.heap.size w V) => counterCheck_any xs a n c V (hP.below h) (hU.below h))
  have PR := hide' (fun (V : World) (h : Below w.heap.size w V) => print_bad xs a n c V (hP.below h) (hU.below h) hc)
  have FR := hide' (fun (V : World) (h : Below w.heap.size w V) => fractions_bad xs a n c V (hP.below h) (hU.below h) hc)
  have RN := hide' (fun (V : World) (h : Below w.heap.size w V) => counterRun_bad xs a n c cs b m d f V (hP.below h) (hU.below h) (hC.below h) (by rw [ran_code hc]; exact hc))
  have A := hide' (show cntA xs cs f = ([], 0, 0, codeE xs) by unfold cntA; rw [ran_code hc, if_pos hc])
  rw [A.out] at RN
  have ES := hide' (fun (V : World) (hb : Below w.heap.size w V) => errSameC_any (codeE xs) V (hG.below hb))
  obtain ⟨s, hs⟩ : ∃ s, codeE xs = s := ⟨_, rfl⟩
  rw [hs] at RC CK PR FR RN ES hc
  have h0 : ((s : Int) == 0) = false := by simp; omega
  clear hP hC hU hG hs A hc
  go_enter Tryd.func8, Tryd.ntmps8
  go_wp2_with fail
  refine RC.out.mono ?_
  rintro e w1 ⟨rfl, b1⟩
  have C1 := hide' b1
  clear b1
  go_wp2_with fail
  refine (CK.out _ C1.out).mono ?_
  rintro e w2 ⟨rfl, b2⟩
  have C2 := hide' (C1.out.trans (b2.mono C1.out.size))
  clear b2
  go_wp2_with fail
  refine (ES.out _ C2.out).mono ?_
  rintro e w3 ⟨rfl, b3⟩
  have C3 := hide' (C2.out.trans (b3.mono C2.out.size))
  clear b3
  go_wp2_with fail
  refine (PR.out _ C3.out).mono ?_
  rintro e w4 ⟨rfl, b4⟩
  have C4 := hide' (C3.out.trans (b4.mono C3.out.size))
  clear b4
  go_wp2_with fail
  refine (ES.out _ C4.out).mono ?_
  rintro e w5 ⟨rfl, b5⟩
  have C5 := hide' (C4.out.trans (b5.mono C4.out.size))
  clear b5
  go_wp2_with fail
  refine (FR.out _ C5.out).mono ?_
  rintro e w6 ⟨fa, fq, rfl, -, b6⟩
  have C6 := hide' (C5.out.trans (b6.mono C5.out.size))
  clear b6
  go_wp2_with fail
  refine (ES.out _ C6.out).mono ?_
  rintro e w7 ⟨rfl, b7⟩
  have C7 := hide' (C6.out.trans (b7.mono C6.out.size))
  clear b7
  go_wp2_with fail
  refine (RN.out _ C7.out).mono ?_
  rintro e w8 ⟨ra, rq, rfl, -, b8⟩
  have C8 := hide' (C7.out.trans (b8.mono C7.out.size))
  clear b8
  go_wp2_with fail
  refine (ES.out _ C8.out).mono ?_
  rintro e w9 ⟨rfl, b9⟩
  have C9 := hide' (C8.out.trans (b9.mono C8.out.size))
  clear b9
  go_wp2
  go_ret
  exact ⟨rfl, C9.out⟩
set_option maxRecDepth 100000 in
set_option maxHeartbeats 6400000 in
theorem law_runs_ok (xs : List InsT) (a : Option Addr) (n c : Nat) (cs : List Int) (b : Option Addr) (m d : Nat) (f : Int) (eb : Addr) (w : World) (hP : ArgI w xs a n c) (hC : ArgP w cs b m d) (hU : UsT w) (hW : WoT w) (hT : PrT w) (hE : EndT w eb) (hG : Handle w) (hc : codeE xs = 0) :
    Calls Tryd.prog 8 #[.slice a n c, .slice b m d, .int .i64 f] w fun e w' => e = .returned (.bool true) ∧ Below w.heap.size w w' := by
  have RC := hide' (refCode_any xs a n c w hP)
  have CK := hide' (fun (V : World) (h : Below w.heap.size w V) => counterCheck_any xs a n c V (hP.below h) (hU.below h))
  rw [hc] at RC CK
  rw [show errOf 0 = .nilIface from rfl] at CK
  have PR := hide' (fun (V : World) (h : Below w.heap.size w V) => print_ok xs a n c V (hP.below h) (hU.below h) (hW.below h) hc)
  have FR := hide' (fun (V : World) (h : Below w.heap.size w V) => fractions_ok xs a n c V (hP.below h) (hU.below h) (hT.below h hT.lt) hc)
  have RN := hide' (fun (V : World) (h : Below w.heap.size w V) => show Calls Tryd.prog 38 #[.slice a n c, .slice b m d, .int .i64 f] V (RanC (cntA xs cs f) V) from by
    by_cases hr : runE xs cs f = 0
    · exact counterRun_ok xs a n c cs b m d f eb V (hP.below h) (hU.below h) (hC.below h) (hE.below h hE.lt) hr
    · exact counterRun_bad xs a n c cs b m d f V (hP.below h) (hU.below h) (hC.below h) hr)
  have QP := hide' (fun (V : World) (h : Below w.heap.size w V) => refPrint_any xs a n c V (hP.below h) hc)
  have QF := hide' (fun (V : World) (h : Below w.heap.size w V) => refFractions_any xs a n c V (hP.below h) hc)
  have QR := hide' (fun (V : World) (h : Below w.heap.size w V) => refPlayM_any xs a n c cs b m d f V (hP.below h) (hC.below h) hc)
  have ES := hide' (fun (s : Nat) (V : World) (hb : Below w.heap.size w V) => errSameC_any s V (hG.below hb))
  have FF := hide' (fraL_fit xs)
  obtain ⟨A, hA⟩ : ∃ A, cntA xs cs f = A := ⟨_, rfl⟩
  obtain ⟨ys, hy⟩ : ∃ l, fraL xs = l := ⟨_, rfl⟩
  obtain ⟨t, ht⟩ : ∃ l, textL xs = l := ⟨_, rfl⟩
  rw [hA] at RN QR
  rw [hy] at FR QF FF
  rw [ht] at PR QP
  obtain ⟨x, y, z, u⟩ := A
  clear hP hC hU hW hT hE hG hc hA hy ht
  go_enter Tryd.func8, Tryd.ntmps8
  go_wp2_with fail
  refine RC.out.mono ?_
  rintro e w1 ⟨rfl, b1⟩
  have C1 := hide' b1
  clear b1
  go_wp2_with fail
  refine (CK.out _ C1.out).mono ?_
  rintro e w2 ⟨rfl, b2⟩
  have C2 := hide' (C1.out.trans (b2.mono C1.out.size))
  clear b2
  go_wp2_with fail
  refine (ES.out 0 _ C2.out).mono ?_
  rintro e w3 ⟨rfl, b3⟩
  have C3 := hide' (C2.out.trans (b3.mono C2.out.size))
  clear b3
  go_wp2_with fail
  refine (PR.out _ C3.out).mono ?_
  rintro e w4 ⟨rfl, b4⟩
  have C4 := hide' (C3.out.trans (b4.mono C3.out.size))
  clear b4
  go_wp2_with fail
  refine (ES.out 0 _ C4.out).mono ?_
  rintro e w5 ⟨rfl, b5⟩
  have C5 := hide' (C4.out.trans (b5.mono C4.out.size))
  clear b5
  go_wp2_with fail
  refine (FR.out _ C5.out).mono ?_
  rintro e w6 ⟨fa, fq, rfl, o6, b6⟩
  have C6 := hide' (C5.out.trans (b6.mono C5.out.size))
  have AF := hide' (own_argF o6 FF.out)
  clear b6 o6
  go_wp2_with fail
  refine (ES.out 0 _ C6.out).mono ?_
  rintro e w7 ⟨rfl, b7⟩
  have C7 := hide' (C6.out.trans (b7.mono C6.out.size))
  have AF7 := hide' (AF.out.below (B := 0) b7)
  clear b7 AF
  go_wp2_with fail
  refine (QP.out _ C7.out).mono ?_
  rintro e w8 ⟨rfl, b8⟩
  have C8 := hide' (C7.out.trans (b8.mono C7.out.size))
  have AF8 := hide' (AF7.out.below (B := 0) b8)
  clear b8 AF7
  go_wp2_with fail
  refine (QF.out _ C8.out).mono ?_
  rintro e w9 ⟨B9, ga, gq, hB9, rfl, o9, b9⟩
  have C9 := hide' (C8.out.trans (b9.mono C8.out.size))
  have AF9 := hide' (AF8.out.below (B := 0) b9)
  have AG9 := hide' (own_argF o9 FF.out)
  clear b9 AF8 o9 hB9
  go_wp2_with fail
  refine (sameF_any ys fa ga ys.length fq gq _ AF9.out AG9.out).mono ?_
  rintro e w10 ⟨rfl, b10⟩
  have C10 := hide' (C9.out.trans (b10.mono C9.out.size))
  clear b10 AF9 AG9
  go_wp2_with fail
  refine (RN.out _ C10.out).mono ?_
  rintro e w11 ⟨ra, rq, rfl, hr, b11⟩
  have C11 := hide' (C10.out.trans (b11.mono C10.out.size))
  have AR := hide' hr
  clear b11 hr
  go_wp2_with fail
  refine (QR.out _ C11.out).mono ?_
  rintro e w12 ⟨pa, pq, rfl, hp, b12⟩
  have C12 := hide' (C11.out.trans (b12.mono C11.out.size))
  have AR12 := hide' (AR.out.below b12)
  have AP12 := hide' hp
  clear b12 hp AR
  go_wp2_with fail
  refine (ES.out u _ C12.out).mono ?_
  rintro e w13 ⟨rfl, b13⟩
  have C13 := hide' (C12.out.trans (b13.mono C12.out.size))
  have AR13 := hide' (AR12.out.below b13)
  have AP13 := hide' (AP12.out.below b13)
  clear b13 AR12 AP12
  go_wp2_with fail
  refine (Ints_any x x ra pa x.length rq x.length pq _ AR13.out AP13.out).mono ?_
  rintro e w14 ⟨he, q14, rfl⟩
  rw [show decide (x = x) = true by simp] at he
  subst he
  have C14 := hide' (below_drewN C13.out q14)
  go_wp2
  go_ret
  exact ⟨rfl, C14.out⟩
theorem law_runs_all (xs : List InsT) (a : Option Addr) (n c : Nat) (cs : List Int) (b : Option Addr) (m d : Nat) (f : Int) (eb : Addr) (w : World) (hP : ArgI w xs a n c) (hC : ArgP w cs b m d) (hU : UsT w) (hW : WoT w) (hT : PrT w) (hE : EndT w eb) (hG : Handle w) :
    Calls Tryd.prog 8 #[.slice a n c, .slice b m d, .int .i64 f] w fun e w' => e = .returned (.bool true) ∧ Below w.heap.size w w' := by
  by_cases hc : codeE xs = 0
  · exact law_runs_ok xs a n c cs b m d f eb w hP hC hU hW hT hE hG hc
  · exact law_runs_bad xs a n c cs b m d f w hP hC hU hG hc
end Go.Proofs.YtdkomlgkkepioaaDoor

namespace Go.Proofs.YtdkomlgkkepioaaDoor
open Go.ChangeShapes Go.WideShapes Go.ChangeAt Go.RowKit
open Go.ChangeMaps (setBlock shut_map_nil open_string shut_string keptBut_setBlock frozen?_setBlock heap_setBlock_same)
set_option linter.unusedVariables false

theorem laidOutP : laidOutB Tryd.prog = true := by kernel_rfl
theorem ownP : ownKnob Tryd.prog.godebug = none := by kernel_rfl
theorem errorTypeAtP : Tryd.prog.globalNamed "errors.errorType" = some 4 := by kernel_rfl
theorem rtypeAtP : (Tryd.prog.cutTypes.find? (·.1 == "internal/reflectlite.rtype")).map (·.2) = some 281 := by kernel_rfl
theorem oneRowP : ((List.range 378).filter fun t => Tryd.prog.rowNamed t [101, 114, 114, 111, 114]) = [31] := by kernel_rfl
theorem typesSizeP : Tryd.prog.types.size = 378 := by kernel_rfl

/-- What the condition on the listed variable gives a walk: its one cell. -/
theorem handle_laid {W : World} (h : handlesMet Tryd.prog [("errors.errorType", Rows.laid_errors_errorType)] W) : Handle W := by
  obtain ⟨name, u, ty, e1, e2, e3, e4, e5⟩ := h _ (List.mem_singleton.2 rfl)
  have en : name = [101, 114, 114, 111, 114] := (Option.some.inj e1).symm
  subst en
  obtain rfl := Option.some.inj (rtypeAtP.symm.trans e2)
  have hm : ty ∈ (List.range 378).filter fun t => Tryd.prog.rowNamed t [101, 114, 114, 111, 114] := List.mem_filter.2 ⟨List.mem_range.2 (by rw [← typesSizeP]; exact e3), e4⟩
  rw [oneRowP] at hm
  obtain rfl := List.mem_singleton.1 hm
  have hh : typeHandle Tryd.prog 31 = .pointer (some ⟨13, 31, none⟩) := by kernel_rfl
  rw [hh] at e5
  simpa [Handle] using World.var?_cell errorTypeAtP e5 0

/-- The variable's cell laid. -/
def layBlockP (o : Obj) : Obj := match o with
  | .cells _ t frozen => .cells #[.iface 281 (.agg #[.pointer (some ⟨13, 31, none⟩)])] t frozen
  | o => o
def layWorldP (w : World) : World := { w with heap := w.heap.modify 4 layBlockP }

/-- A list of ints as it is read. -/
theorem ints_arg {H : Type} {enc : TypeId × Value → H} {W : World} {fuel : Nat} {cs : List Value} {x : DataW H × List MemPlace}
    (h : DataW.trod enc Tryd.prog W 0 (fun _ => true) true fuel 22 cs = some x) :
    ∃ (xs : List Int) (a : Option Addr) (c : Nat), cs = [.slice a xs.length c] ∧ ArgP W xs a xs.length c ∧ xs.length ≤ c ∧ c ≤ maxLen := by
  have q3 : Tryd.prog.cellsOf 3 = 1 := by kernel_rfl
  rcases open_ints Tryd.underlying22 Tryd.underlying3 q3 h with ⟨rfl, -⟩ | ⟨a, len, cap, zs, rfl, hb, hlc, hcm, hzl, -, hcell, hwf⟩
  · exact ⟨[], none, 0, rfl, ⟨rfl, by simp, fun k hk => absurd hk (by simp)⟩, by simp, by simp⟩
  · simp only [if_true] at hzl
    have hl : (zs.take len).length = len := by simp; omega
    refine ⟨zs.take len, some a, cap, by rw [hl], ⟨rfl, by omega, fun k hk => ?_⟩, by omega, hcm⟩
    have hk' : k < len ∧ k < zs.length := by simp only [List.length_take] at hk; omega
    have hc0 := hcell 0 (by omega)
    have hck := hcell k hk'.2
    obtain ⟨g, off, sp⟩ := a
    have hsp : sp = none := by
      cases sp with
      | none => rfl
      | some q =>
        exfalso
        simp [Addr.add, World.cell?] at hc0
        split at hc0 <;> simp at hc0
    subst hsp
    have ea : (⟨g, off, none⟩ : Addr).add k = ⟨g, off + k, none⟩ := by
      unfold Addr.add
      split
      · rename_i hz; subst hz; rfl
      · rfl
    rw [ea] at hck
    refine ⟨g, off, rfl, ?_, ?_⟩
    · rcases Nat.lt_or_ge g W.heap.size with q | q
      · exact q
      · simp [World.cell?, Array.getElem?_eq_none q] at hck
    · rw [hck]
      simp [List.getD, hk'.2]

set_option maxRecDepth 100000 in
/-- A list of ints that came in. -/
theorem open_list {H : Type} {enc : TypeId × Value → H} {W : World} {base : Nat} {v : Value} {d : DataW H} {p : List MemPlace}
    (hv : Value.okWide Tryd.prog W .any base 22 v) (h : DataW.Trod enc Tryd.prog W 0 (fun _ => true) true 22 v d p) :
    ∃ (xs : List Int) (a : Option Addr) (c : Nat), v = .slice a xs.length c ∧ ArgP W xs a xs.length c ∧ xs.length ≤ c ∧ c ≤ maxLen := by
  obtain ⟨a0, n0, c0, rfl⟩ := okWide_slice Tryd.underlying22 hv
  obtain ⟨fuel, h⟩ := h
  obtain ⟨xs, a, c, e, ha, h1, h2⟩ := ints_arg h
  simp [Value.cells] at e
  obtain ⟨rfl, rfl, rfl⟩ := e
  exact ⟨xs, _, _, rfl, ha, h1, h2⟩
end Go.Proofs.YtdkomlgkkepioaaDoor

namespace Go.Proofs.YtdkomlgkkepioaaDoor
open Go.ChangeShapes Go.WideShapes Go.ChangeAt Go.RowKit
set_option linter.unusedVariables false

end Go.Proofs.YtdkomlgkkepioaaDoor

namespace Go.Proofs.YtdkomlgkkepioaaDoor
open Go.ChangeShapes Go.WideShapes Go.ChangeAt Go.RowKit
open Go.ChangeMaps (setBlock shut_map_nil open_string shut_string keptBut_setBlock frozen?_setBlock heap_setBlock_same)
set_option linter.unusedVariables false
theorem endAt : Tryd.prog.globalNamed "eden/counter.errEnded" = some 3 := by kernel_rfl
theorem endStar : "*" ++ "errors.errorString" = "*errors.errorString" := by decide
theorem endRow (u : TypeId) (h : Tryd.prog.typeName? 3 u = some "*errors.errorString") : u = 344 :=
  typeName_ptr_named (nm := "errors.errorString") (by rw [endStar]; kernel_rfl) (by kernel_rfl) (by decide) u (by rw [endStar]; exact h)
theorem end_of_laid {W : World} {l : List (String × DataW Unit)} (he : (l.filter fun x => x.1 == "eden/counter.errEnded") = [("eden/counter.errEnded", Rows.laid_eden_counter_errEnded)])
    (h : laidMet Tryd.prog l W) : ∃ eb, EndT W eb := by
  have h1 := h.filter fun x => x.1 == "eden/counter.errEnded"
  rw [he] at h1
  obtain ⟨a, s, h2, -⟩ := laid_sentinel (tp := 344) (te := 367) (ts := 9) h1 endAt (by kernel_rfl) Tryd.underlying31 endRow Tryd.underlying344 Tryd.underlying367 rfl rfl Tryd.underlying9 (by kernel_rfl) (by kernel_rfl)
  refine ⟨a, ?_⟩
  unfold EndT
  simpa using World.var?_cell endAt h2 0
theorem add_atF (g off k : Nat) : (⟨g, off, none⟩ : Addr).add k = ⟨g, off + k, none⟩ := by
  unfold Addr.add
  split
  · rename_i hz; subst hz; rfl
  · rfl
theorem sp_noneF {w : World} {g off : Nat} {sp : Option Nat} {v : Value} (h : w.cell? (((⟨g, off, sp⟩ : Addr).add 0).add 0) = some v) : sp = none := by
  cases sp with
  | none => rfl
  | some q =>
    exfalso
    simp [Addr.add, World.cell?] at h
    split at h <;> simp at h
end Go.Proofs.YtdkomlgkkepioaaDoor

