/-
  What the last text of this claim leans on, part 31: LawRr, OpenP.
-/
import Derived.Test.YtpppmollmiomlaaDoorZu28
import Derived.Test.YtpppmollmiomlaaDoorZu29
import Derived.Test.YtpppmollmiomlaaDoorZu30
import Derived.Test.YtpppmollmiomlaaDoorZu4
import Derived.Test.YtpppmollmiomlaaDoorRows
import Derived.Test.YtpppmollmiomlaaDoorCards
import Derived.Test.YtpppmollmiomlaaDoorTie
import Derived.Test.YtpppmollmiomlaaDoorZu27
import Derived.ProofKit
import Derived.OpenShut
import Derived.ChangeSame
import Derived.ChangeSlices
import Derived.ChangeVars
import Derived.JoinedOf
import Derived.RowKit
import Derived.RowKitTokens
import Derived.LaidLaws
import Derived.LaidHandle
import Derived.LaidSub
import Derived.Lay
import Derived.Carry
import Derived.Stop.Joined
import Derived.SevenTiedAt
namespace Go.Proofs.YtpppmollmiomlaaDoor
open Go.RowKit
set_option linter.unusedVariables false
set_option linter.unusedSimpArgs false
theorem FaG.ex (P : Int) (xs : List EgT) : ∃ f, FaG P xs f := by
  by_cases a : P < 1 ∨ 10 < P
  · exact ⟨1, Or.inl ⟨a, rfl⟩⟩
  · by_cases b : 40 < xs.length
    · exact ⟨4, Or.inr (Or.inl ⟨by omega, b, rfl⟩)⟩
    · by_cases c : ∃ j, j < xs.length ∧ badE P (xs.getD j egz)
      · exact ⟨1, Or.inr (Or.inr (Or.inl ⟨by omega, by omega, c, rfl⟩))⟩
      · have c' : ∀ j, j < xs.length → ¬ badE P (xs.getD j egz) := fun j hj hb => c ⟨j, hj, hb⟩
        by_cases d : allR P.toNat xs
        · exact ⟨0, Or.inr (Or.inr (Or.inr (Or.inl ⟨by omega, by omega, c', d, rfl⟩)))⟩
        · exact ⟨3, Or.inr (Or.inr (Or.inr (Or.inr ⟨by omega, by omega, c', d, rfl⟩)))⟩
theorem SiG.ex (P : Int) (xs : List EgT) (s : Int) : ∃ f, SiG P xs s f := by
  obtain ⟨f, hf⟩ := FaG.ex P xs
  by_cases a : f = 0
  · subst a
    by_cases b : 0 ≤ s ∧ s < P
    · exact ⟨0, Or.inr (Or.inr ⟨hf, b, rfl⟩)⟩
    · exact ⟨1, Or.inr (Or.inl ⟨hf, b, rfl⟩)⟩
  · exact ⟨f, Or.inl ⟨a, hf⟩⟩
theorem SgG.ex (P : Int) (xs : List EgT) (s : Int) (ss : List Int) : ∃ f, SgG P xs s ss f := by
  obtain ⟨f, hf⟩ := SiG.ex P xs s
  by_cases a : f = 0
  · subst a
    by_cases b : (ss.length : Int) = P
    · by_cases c : ∃ k, k < ss.length ∧ ¬ mayI s (dgF xs k) k (ss.getD k 0)
      · exact ⟨1, Or.inr ⟨hf, Or.inr (Or.inl ⟨b, c, rfl⟩)⟩⟩
      · exact ⟨0, Or.inr ⟨hf, Or.inr (Or.inr ⟨b, fun k hk => Classical.byContradiction fun q => c ⟨k, hk, q⟩, rfl⟩)⟩⟩
    · exact ⟨3, Or.inr ⟨hf, Or.inl ⟨b, rfl⟩⟩⟩
  · exact ⟨f, Or.inl ⟨a, hf⟩⟩
theorem LaG.ex (P s : Int) (cs : List Int) : ∃ f, LaG P s cs f := by
  by_cases b : (cs.length : Int) = P
  · by_cases c : ∃ k, k < cs.length ∧ badC s k (cs.getD k 0)
    · exact ⟨1, Or.inr (Or.inl ⟨b, c, rfl⟩)⟩
    · exact ⟨0, Or.inr (Or.inr ⟨b, fun k hk q => c ⟨k, hk, q⟩, rfl⟩)⟩
  · exact ⟨3, Or.inl ⟨b, rfl⟩⟩
def nilF (a b : List Int) : Prop := a = [] ∧ b = []
theorem nil_one : OneF nilF := fun a b c d h k => ⟨h.1.trans k.1.symm, h.2.trans k.2.symm⟩
theorem two_nil {V w' : World} (b : Below V.heap.size V w') : TwoL V w' nilF none none 0 0 0 0 := ⟨[], [], ArgP.none _, ArgP.none _, ⟨rfl, rfl⟩, b⟩
theorem eq_nz {f : Nat} (h : ¬ f = 0) : ((f : Int) == 0) = false := by simp; omega
theorem law_routes_all (P : Int) (xs : List EgT) (ea : Option Addr) (n c : Nat) (s : Int) (ss : List Int) (sa : Option Addr) (sn sc : Nat) (cs : List Int) (ca : Option Addr) (cn cc : Nat) (os : List Int) (oa : Option Addr) (on oc : Nat) (w : World) (hE : ArgE w xs ea n c) (hS : ArgP w ss sa sn sc) (hC : ArgP w cs ca cn cc) (hO : ArgP w os oa on oc) (hg : Handle w) :
    Calls Tryd.prog 3 #[.agg #[.int .i64 P, .slice ea n c], .int .i64 s, .slice sa sn sc, .slice ca cn cc, .slice oa on oc] w (TrueR w) := by
  have hEr : ∀ V, Below w.heap.size w V → ∀ f : Nat, Calls Tryd.prog 6 #[errOf f, .int .i64 (f : Int)] V fun e w' => e = .returned (.bool true) ∧ Below V.heap.size V w' := fun V h f => errSameC_any f V (hg.below h)
  obtain ⟨f0, h0⟩ := SgG.ex P xs s ss
  have cS : ∀ V, Below w.heap.size w V → Calls Tryd.prog 4 #[.agg #[.int .i64 P, .slice ea n c], .int .i64 s, .slice sa sn sc] V fun e w' => e = .returned (.int .i64 (f0 : Int)) ∧ Below V.heap.size V w' := fun V h => by
    refine (refSigns_any P xs ea n c s ss sa sn sc V (hE.below h) (hS.below h)).mono ?_
    rintro e w' ⟨f, hf, rfl, b⟩
    obtain rfl := hf.only h0
    exact ⟨rfl, b⟩
  -- what an error of signs and chips makes of Route and Walk
  have cR : ∀ f, ¬ f = 0 → RoG P xs s ss cs f → ∀ V, Below w.heap.size w V → Calls Tryd.prog 10 #[.agg #[.int .i64 P, .slice ea n c], .int .i64 s, .slice sa sn sc, .slice ca cn cc] V fun e w' => ∃ a1 a2 n1 c1 n2 c2, e = .returned (.tuple #[.slice a1 n1 c1, .slice a2 n2 c2, errOf f]) ∧ Hid (TwoL V w' nilF a1 a2 n1 c1 n2 c2) := fun f nz hf V h => by
    refine (Route_any P xs ea n c s ss sa sn sc cs ca cn cc V (hE.below h) (hS.below h) (hC.below h)).mono ?_
    rintro e w' ⟨f', hf', b, q⟩
    obtain rfl := hf'.only hf
    rcases q with ⟨_, rfl⟩ | ⟨z, _⟩
    · exact ⟨none, none, 0, 0, 0, 0, rfl, two_nil b⟩
    · exact absurd z nz
  have cW : ∀ f, ¬ f = 0 → WaG P xs s ss cs os f → ∀ V, Below w.heap.size w V → Calls Tryd.prog 14 #[.agg #[.int .i64 P, .slice ea n c], .int .i64 s, .slice sa sn sc, .slice ca cn cc, .slice oa on oc] V fun e w' => ∃ a1 a2 n1 c1 n2 c2, e = .returned (.tuple #[.slice a1 n1 c1, .slice a2 n2 c2, errOf f]) ∧ Hid (TwoL V w' nilF a1 a2 n1 c1 n2 c2) := fun f nz hf V h => by
    refine (Walk_any P xs ea n c s ss sa sn sc cs ca cn cc os oa on oc V (hE.below h) (hS.below h) (hC.below h) (hO.below h)).mono ?_
    rintro e w' ⟨f', hf', b, q⟩
    obtain rfl := hf'.only hf
    rcases q with ⟨_, rfl⟩ | ⟨z, _⟩
    · exact ⟨none, none, 0, 0, 0, 0, rfl, two_nil b⟩
    · exact absurd z nz
  by_cases e0 : f0 = 0
  · subst e0
    obtain ⟨Q, t, rfl, rfl, ok, ls⟩ := h0.good
    obtain ⟨z, hz⟩ : ∃ z : Bool, z = true ↔ treeR Q t (wyF xs) (sgN ss) := by
      by_cases q : treeR Q t (wyF xs) (sgN ss)
      · exact ⟨true, fun _ => q, fun _ => rfl⟩
      · exact ⟨false, fun h => (by cases h), fun h => absurd h q⟩
    have same : ∀ z' : Bool, (z' = true ↔ treeR Q t (wyF xs) (sgN ss)) → z' = z := fun z' h => by
      exact Bool.eq_iff_iff.2 (h.trans hz.symm)
    have cT : ∀ V, Below w.heap.size w V → Calls Tryd.prog 5 #[.agg #[.int .i64 (Q : Int), .slice ea n c], .int .i64 (t : Int), .slice sa sn sc] V fun e w' => e = .returned (.tuple #[.bool z, errOf 0]) ∧ Below V.heap.size V w' := fun V h => by
      refine (Tree_any (Q : Int) xs ea n c (t : Int) ss sa sn sc V (hE.below h) (hS.below h)).mono ?_
      rintro e w' ⟨f', hf', b, q⟩
      obtain rfl := hf'.only h0
      rcases q with ⟨z', _⟩ | ⟨_, Q', t', z', e1, e2, _, _, rfl, hz'⟩
      · exact absurd rfl z'
      · obtain rfl : Q = Q' := by omega
        obtain rfl : t = t' := by omega
        rw [same z' hz']
        exact ⟨rfl, b⟩
    have cRT : ∀ V, Below w.heap.size w V → Calls Tryd.prog 7 #[.agg #[.int .i64 (Q : Int), .slice ea n c], .int .i64 (t : Int), .slice sa sn sc] V fun e w' => e = .returned (.bool z) ∧ Below V.heap.size V w' := fun V h => by
      refine (refTree_any Q t xs ea n c ss sa sn sc V (hE.below h) (hS.below h) ok ls).mono ?_
      rintro e w' ⟨⟨z', rfl, hz'⟩, b⟩
      rw [same z' hz']
      exact ⟨rfl, b⟩
    obtain ⟨f1, h1⟩ := LaG.ex (Q : Int) (t : Int) cs
    have cL : ∀ V, Below w.heap.size w V → Calls Tryd.prog 8 #[.agg #[.int .i64 (Q : Int), .slice ea n c], .int .i64 (t : Int), .slice ca cn cc] V fun e w' => e = .returned (.int .i64 (f1 : Int)) ∧ Below V.heap.size V w' := fun V h => by
      refine (refLaid_any (Q : Int) ea n c (t : Int) cs ca cn cc V (hC.below h)).mono ?_
      rintro e w' ⟨f, hf, rfl, b⟩
      obtain rfl := hf.only h1
      exact ⟨rfl, b⟩
    have hr : RcG (Q : Int) xs (t : Int) ss cs f1 := Or.inr ⟨h0, h1⟩
    by_cases e1 : f1 = 0
    · subst e1
      have ch := h1.chips ok.sk
      have cq : cn = Q := by rw [hC.len]; exact ch.len
      have cSum : ∀ V, Below w.heap.size w V → Calls Tryd.prog 9 #[.slice ca cn cc] V fun e w' => e = .returned (.int .i64 (totL cs)) ∧ w' = V := fun V h => by
        have := refSum_any cs ca cn cc V (hC.below h) (by rw [cq]; exact ok.gr.p2) (fun k hk => ⟨ch.lo k (by omega), ch.hi k (by omega)⟩)
        rw [show smS cn (fun k => cs.getD k 0) = totL cs by unfold totL; rw [hC.len]] at this
        exact this
      obtain ⟨f3, u3, h3⟩ : ∃ f3 u3, walkU Q t (wyF xs) (dgF xs) (sgN ss) (chN cs) os (fun _ => 0) = (f3, u3) := ⟨_, _, rfl⟩
      obtain ⟨K, hK⟩ : ∃ K : List Int → List Int → Prop, K = fun l1 l2 => (¬ f3 = 0 ∧ l1 = [] ∧ l2 = []) ∨ (f3 = 0 ∧ l1 = lsN Q (sgR (dgF xs) (sgN ss) u3) ∧ l2 = lsN Q (lfR Q t (wyF xs) (dgF xs) (sgN ss) (chN cs) u3)) := ⟨_, rfl⟩
      have uK : OneF K := fun a b c d h k => by
        rw [hK] at h k
        rcases h with ⟨h1, h2, h3⟩ | ⟨h1, h2, h3⟩ <;> rcases k with ⟨k1, k2, k3⟩ | ⟨k1, k2, k3⟩
        · exact ⟨h2.trans k2.symm, h3.trans k3.symm⟩
        · exact absurd k1 h1
        · exact absurd h1 k1
        · exact ⟨h2.trans k2.symm, h3.trans k3.symm⟩
      have wk : wkP (Q : Int) (t : Int) xs ss cs os = (f3, u3) := by unfold wkP; simp only [Int.toNat_natCast]; exact h3
      have cWk : ∀ V, Below w.heap.size w V → Calls Tryd.prog 14 #[.agg #[.int .i64 (Q : Int), .slice ea n c], .int .i64 (t : Int), .slice sa sn sc, .slice ca cn cc, .slice oa on oc] V fun e w' => ∃ a1 a2 n1 c1 n2 c2, e = .returned (.tuple #[.slice a1 n1 c1, .slice a2 n2 c2, errOf f3]) ∧ Hid (TwoL V w' K a1 a2 n1 c1 n2 c2) := fun V h => by
        refine (Walk_any (Q : Int) xs ea n c (t : Int) ss sa sn sc cs ca cn cc os oa on oc V (hE.below h) (hS.below h) (hC.below h) (hO.below h)).mono ?_
        rintro e w' ⟨f', hf', b, q⟩
        obtain rfl : f' = f3 := hf'.only (Or.inr ⟨hr, by rw [wk]⟩)
        rcases q with ⟨z', rfl⟩ | ⟨z', Q', t', u, sb, sc2, lb, lc, rfl, hW⟩
        · exact ⟨none, none, 0, 0, 0, 0, rfl, [], [], ArgP.none _, ArgP.none _, by rw [hK]; exact Or.inl ⟨z', rfl, rfl⟩, b⟩
        · obtain rfl : Q = Q' := by have := hW.hP; omega
          obtain rfl : t = t' := by have := hW.hs; omega
          have hu : u = u3 := by rw [hW.hu, wk]
          subst hu
          subst z'
          exact ⟨_, _, _, _, _, _, rfl, _, _, hW.sgs, hW.lft, by rw [hK]; exact Or.inr ⟨rfl, rfl, rfl⟩, b⟩
      have cRW : ∀ V, Below w.heap.size w V → Calls Tryd.prog 13 #[.agg #[.int .i64 (Q : Int), .slice ea n c], .int .i64 (t : Int), .slice sa sn sc, .slice ca cn cc, .slice oa on oc] V fun e w' => ∃ a1 a2 n1 c1 n2 c2, e = .returned (.tuple #[.slice a1 n1 c1, .slice a2 n2 c2, .int .i64 (f3 : Int)]) ∧ Hid (TwoL V w' K a1 a2 n1 c1 n2 c2) := fun V h => by
        refine (refWalk_any Q t xs ea n c ss sa sn sc cs ca cn cc os oa on oc V (hE.below h) (hS.below h) (hC.below h) (hO.below h) ok ls ch).mono ?_
        rintro e w' ⟨f', hf', b, q⟩
        rw [h3] at hf'
        obtain rfl : f' = f3 := hf'
        rcases q with ⟨z', rfl⟩ | ⟨z', u, sb, sc2, cb, cc2, rfl, hu, a1, a2⟩
        · exact ⟨none, none, 0, 0, 0, 0, rfl, [], [], ArgP.none _, ArgP.none _, by rw [hK]; exact Or.inl ⟨z', rfl, rfl⟩, b⟩
        · rw [h3] at hu
          have hu : u = u3 := hu
          subst hu
          subst z'
          exact ⟨_, _, _, _, _, _, rfl, _, _, a1, a2, by rw [hK]; exact Or.inr ⟨rfl, rfl, rfl⟩, b⟩
      by_cases dT : 1000 < totL cs
      · have hro : RoG (Q : Int) xs (t : Int) ss cs 4 := Or.inr (Or.inl ⟨hr, dT, rfl⟩)
        exact law_rrC (Q : Int) (t : Int) ea n c sa sn sc ca cn cc oa on oc 0 0 f3 z (totL cs) nilF K w cS cT hEr cRT cL cSum (cR 4 (by decide) hro) ⟨rfl, rfl⟩ cRW cWk nil_one uK rfl rfl dT
      · have hro : RoG (Q : Int) xs (t : Int) ss cs 0 := Or.inr (Or.inr ⟨hr, by omega, rfl⟩)
        obtain ⟨F, hF⟩ : ∃ F : List Int → List Int → Prop, F = fun l1 l2 => ∃ u, WkR Q t (wyF xs) (dgF xs) (sgN ss) (chN cs) u ∧ doneR Q t (wyF xs) (dgF xs) (sgN ss) (chN cs) u ∧ l1 = lsN Q (sgR (dgF xs) (sgN ss) u) ∧ l2 = lsN Q u := ⟨_, rfl⟩
        have uF : OneF F := fun a b c d h k => by
          rw [hF] at h k
          obtain ⟨u, u1, u2, rfl, rfl⟩ := h
          obtain ⟨v, v1, v2, rfl, rfl⟩ := k
          have q := u1.same u2 v1 v2
          exact ⟨lsN_ext fun k hk => by unfold sgR; rw [q k hk], lsN_ext q⟩
        have cRo : ∀ V, Below w.heap.size w V → Calls Tryd.prog 10 #[.agg #[.int .i64 (Q : Int), .slice ea n c], .int .i64 (t : Int), .slice sa sn sc, .slice ca cn cc] V fun e w' => ∃ a1 a2 n1 c1 n2 c2, e = .returned (.tuple #[.slice a1 n1 c1, .slice a2 n2 c2, errOf 0]) ∧ Hid (TwoL V w' F a1 a2 n1 c1 n2 c2) := fun V h => by
          refine (Route_any (Q : Int) xs ea n c (t : Int) ss sa sn sc cs ca cn cc V (hE.below h) (hS.below h) (hC.below h)).mono ?_
          rintro e w' ⟨f', hf', b, q⟩
          obtain rfl := hf'.only hro
          rcases q with ⟨z', _⟩ | ⟨_, Q', t', u, sb, sc2, tb, rfl, hR⟩
          · exact absurd rfl z'
          · obtain rfl : Q = Q' := by have := hR.hP; omega
            obtain rfl : t = t' := by have := hR.hs; omega
            exact ⟨_, _, _, _, _, _, rfl, _, _, hR.sgs, hR.wts, by rw [hF]; exact ⟨u, hR.wk, hR.dn, rfl, rfl⟩, b⟩
        have cRR : ∀ V, Below w.heap.size w V → Calls Tryd.prog 11 #[.agg #[.int .i64 (Q : Int), .slice ea n c], .int .i64 (t : Int), .slice sa sn sc, .slice ca cn cc] V fun e w' => ∃ a1 a2 n1 c1 n2 c2, e = .returned (.tuple #[.slice a1 n1 c1, .slice a2 n2 c2]) ∧ Hid (TwoL V w' F a1 a2 n1 c1 n2 c2) := fun V h => by
          refine (refRoute_any Q t xs ea n c ss sa sn sc cs ca cn cc V (hE.below h) (hS.below h) (hC.below h) ok ls ch (by rw [← ch.tot]; omega)).mono ?_
          rintro e w' ⟨b, u, sb, sc2, mb, rfl, u1, u2, a1, a2⟩
          exact ⟨_, _, _, _, _, _, rfl, _, _, a1, a2, by rw [hF]; exact ⟨u, u1, u2, rfl, rfl⟩, b⟩
        exact law_rrD (Q : Int) (t : Int) ea n c sa sn sc ca cn cc oa on oc 0 0 f3 z (totL cs) F K w cS cT hEr cRT cL cSum cRo cRR cRW cWk uF uK rfl rfl dT
    · exact law_rrB (Q : Int) (t : Int) ea n c sa sn sc ca cn cc oa on oc 0 f1 z nilF nilF w cS cT hEr cRT cL (cR f1 e1 (Or.inl ⟨e1, hr⟩)) ⟨rfl, rfl⟩ ⟨rfl, rfl⟩ (cW f1 e1 (Or.inl ⟨e1, hr⟩)) nil_one nil_one rfl (eq_nz e1)
  · have hr : RcG P xs s ss cs f0 := Or.inl ⟨e0, h0⟩
    have cT : ∀ V, Below w.heap.size w V → Calls Tryd.prog 5 #[.agg #[.int .i64 P, .slice ea n c], .int .i64 s, .slice sa sn sc] V fun e w' => e = .returned (.tuple #[.bool false, errOf f0]) ∧ Below V.heap.size V w' := fun V h => by
      refine (Tree_any P xs ea n c s ss sa sn sc V (hE.below h) (hS.below h)).mono ?_
      rintro e w' ⟨f', hf', b, q⟩
      obtain rfl := hf'.only h0
      rcases q with ⟨_, rfl⟩ | ⟨z', _⟩
      · exact ⟨rfl, b⟩
      · exact absurd z' e0
    exact law_rrA P s ea n c sa sn sc ca cn cc oa on oc f0 false nilF nilF w cS cT hEr (cR f0 e0 (Or.inl ⟨e0, hr⟩)) ⟨rfl, rfl⟩ ⟨rfl, rfl⟩ (cW f0 e0 (Or.inl ⟨e0, hr⟩)) nil_one nil_one (eq_nz e0) rfl
end Go.Proofs.YtpppmollmiomlaaDoor

namespace Go.Proofs.YtpppmollmiomlaaDoor
open Go.ChangeShapes Go.WideShapes Go.ChangeAt Go.RowKit
open Go.ChangeMaps (setBlock shut_map_nil open_string shut_string keptBut_setBlock frozen?_setBlock heap_setBlock_same)
set_option linter.unusedVariables false

theorem laidOutP : laidOutB Tryd.prog = true := by kernel_rfl
theorem ownP : ownKnob Tryd.prog.godebug = none := by kernel_rfl
theorem errorTypeAtP : Tryd.prog.globalNamed "errors.errorType" = some 0 := by kernel_rfl
theorem rtypeAtP : (Tryd.prog.cutTypes.find? (·.1 == "internal/reflectlite.rtype")).map (·.2) = some 100 := by kernel_rfl
theorem oneRowP : ((List.range 148).filter fun t => Tryd.prog.rowNamed t [101, 114, 114, 111, 114]) = [28] := by kernel_rfl
theorem typesSizeP : Tryd.prog.types.size = 148 := by kernel_rfl

/-- What the condition on the listed variable gives a walk: its one cell. -/
theorem handle_laid {W : World} (h : handlesMet Tryd.prog [("errors.errorType", Rows.laid_errors_errorType)] W) : Handle W := by
  obtain ⟨name, u, ty, e1, e2, e3, e4, e5⟩ := h _ (List.mem_singleton.2 rfl)
  have en : name = [101, 114, 114, 111, 114] := (Option.some.inj e1).symm
  subst en
  obtain rfl := Option.some.inj (rtypeAtP.symm.trans e2)
  have hm : ty ∈ (List.range 148).filter fun t => Tryd.prog.rowNamed t [101, 114, 114, 111, 114] := List.mem_filter.2 ⟨List.mem_range.2 (by rw [← typesSizeP]; exact e3), e4⟩
  rw [oneRowP] at hm
  obtain rfl := List.mem_singleton.1 hm
  have hh : typeHandle Tryd.prog 28 = .pointer (some ⟨1, 28, none⟩) := by kernel_rfl
  rw [hh] at e5
  simpa [Handle] using World.var?_cell errorTypeAtP e5 0

/-- The variable's cell laid. -/
def layBlockP (o : Obj) : Obj := match o with
  | .cells _ t frozen => .cells #[.iface 100 (.agg #[.pointer (some ⟨1, 28, none⟩)])] t frozen
  | o => o
def layWorldP (w : World) : World := { w with heap := w.heap.modify 0 layBlockP }

end Go.Proofs.YtpppmollmiomlaaDoor

