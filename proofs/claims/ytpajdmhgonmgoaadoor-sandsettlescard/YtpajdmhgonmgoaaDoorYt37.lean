/-
  What the last text of this claim leans on, part 37: Kf7, Kfc, Kfd, Kfe, Kff, Kfg, Kfh, Kfi, Kfj, Kfk, Kfl, Kfm, Td3, Sw3, Kf9, Tc1, Tc2.
-/
import Derived.Test.YtpajdmhgonmgoaaDoorYt36
import Derived.Test.YtpajdmhgonmgoaaDoorYt35
import Derived.Test.YtpajdmhgonmgoaaDoorYt22
import Derived.Test.YtpajdmhgonmgoaaDoorYt20
import Derived.LoneHanded
import Derived.Listen
namespace Go.Proofs.YtpajdmhgonmgoaaDoor
open Go.RowKit
set_option linter.unusedVariables false
open Go.Conc Go.ConcN Go.RowKit Go.Conc.Lib Go.ConcR.Gen
open Go.ConcR (KK wgBlock WgAt stA smA rd wr Payload DC0)
set_option linter.unusedSimpArgs false
theorem ends_here {P : Program} {b : Frame} {a : Act} {todo : List Item} {fn : Func} {v : Value} {w : World} (hn : b.kind = .normal) (hd : a.defers = []) (hf : P.funcs[b.fn]? = some fn) (hi : P.inits.idxOf? b.fn = none)
    {s : Tmp} (hrs : fn.results = #[.tmp s]) (hv : a.tmps[s]? = some v) : stepG P true (G { b.at a todo with mode := .returning } []) w = .ended (.done v) w #[] := by
  have hr : (results fn a.tmps).run P w = .ok v w := by
    have h := results_tmp hrs a.tmps P w
    have e : a.tmps.getD s undef = v := by simp [hv]
    rw [e] at h
    exact h
  have he : (results fn a.tmps).events P w #[] = #[] := events_results_tmp hrs _ _
  simp [G, stepG, unwind, doReturn, Frame.at, hn, hd, hf, hr, he, hi, seen, GStep.after]
theorem ev_nil (w : World) : (binOp .eql 28 .nilIface .nilIface).events Tryd.prog w #[] = #[] := by
  have h : ∀ (d : Nat) (es : Array Event), (Op.equalIn (d + 1) 28 .nilIface .nilIface).events Tryd.prog w es = es := fun d es => by
    simp [Op.equalIn, run_underlying Tryd.underlying28]
  simp only [binOp]
  simp [Op.equal, Op.maxDepth, h 9999]
theorem row_on {w w' : World} {g n : Nat} {f : Nat → Int} (h : RowAt w g n f) (e : w'.heap[g]? = w.heap[g]?) : RowAt w' g n f := by
  obtain ⟨C, h1, h2⟩ := h
  exact ⟨C, e.trans h1, h2⟩
theorem row_lt {w : World} {g n : Nat} {f : Nat → Int} (h : RowAt w g n f) : g < w.heap.size := by
  obtain ⟨C, h1, h2⟩ := h
  exact ltS_of_block h1
end Go.Proofs.YtpajdmhgonmgoaaDoor

namespace Go.Proofs.YtpajdmhgonmgoaaDoor
open Go.RowKit
set_option linter.unusedVariables false
open Go.Conc Go.ConcN Go.RowKit
set_option linter.unusedSimpArgs false
theorem reach_nrm {P : Program} {S : FuncId → Bool} (M : Mild P S) {b : Frame} (hk : b.kind ≠ .early) (hb : (P.funcs[b.fn]?).isSome = true) (hi : P.inits.idxOf? b.fn = none) {c d : Code} {a : Act} {w : World} {k : List Item} {cs : List Frame} {T : Machine → Trace → Prop}
    (hc : tameC S c = true) (hd : a.defers = []) (h : c.wp P (nrmQ fun a' w' => Reach P (G (b.at a' (.code d :: k)) cs) w' T) a w) : Reach P (G (b.at a (.code (.seq c d) :: k)) cs) w T := by
  refine Reach.ctl rfl stepG_seq ?_
  have key := arr_of_wp M hk hb hi hc hd h (Q' := fun a' w' => Reach P (G (b.at a' (.code d :: k)) cs) w' T) (fun e a' w' q => by
    cases e <;> first | exact ⟨rfl, q⟩ | exact q.elim) (.code d :: k) cs
  intro tr hp
  obtain ⟨N, a', w', tr', hq, hsz, hr, hp'⟩ := key tr hp
  obtain ⟨N2, m2, tr2, h1, h2⟩ := hq tr' hp'
  refine ⟨N + N2, m2, tr2, ?_, h2⟩
  have hr' : runNT P N (solo (G (b.at a (.code c :: .code d :: k)) cs) w) tr = (.next (solo (G (b.at a' (.code d :: k)) cs) w'), tr') := hr
  rw [runNT_then hr']
  exact h1
end Go.Proofs.YtpajdmhgonmgoaaDoor

namespace Go.Proofs.YtpajdmhgonmgoaaDoor
set_option linter.unusedVariables false
end Go.Proofs.YtpajdmhgonmgoaaDoor

namespace Go.Proofs.YtpajdmhgonmgoaaDoor
open Go.RowKit
set_option linter.unusedVariables false
open Go.Conc Go.ConcN Go.RowKit
set_option linter.unusedSimpArgs false
end Go.Proofs.YtpajdmhgonmgoaaDoor

namespace Go.Proofs.YtpajdmhgonmgoaaDoor
open Go.RowKit
set_option linter.unusedVariables false
open Go.Conc Go.ConcN Go.RowKit Go.Conc.Lib Go.ConcR.Gen
open Go.ConcR (KK wgBlock WgAt stA smA rd wr Payload DC0)
set_option linter.unusedSimpArgs false
/-- The run ends well. -/
def LawEnd (P : Program) (Post : Value → World → Prop) (m : Machine) (t : Trace) : Prop := ∃ N last o w' t', runNT P (N + 1) m t = (.ended o w', t') ∧ runN P N m = .next last ∧ step P last = .ended o w' ∧ Go.Conc.Good P Post last o w' t'
end Go.Proofs.YtpajdmhgonmgoaaDoor

namespace Go.Proofs.YtpajdmhgonmgoaaDoor
open Go.RowKit
set_option linter.unusedVariables false
open Go.Conc Go.ConcN Go.RowKit
set_option linter.unusedSimpArgs false
/-- The law's own pile, settled. -/
structure SetA (w : World) (P s : Int) (xs : List EgT) (cl : List Int) (gx : Nat) (ea : Option Addr) (en ec pa n sn fa fq ta : Nat) (ua : Nat → Int) (V : World) : Prop where
  bl : Below w.heap.size w V
  gr : V.heap[gx]? = some (.cells #[.int .i64 P, .slice ea en ec] 24 (0, 0))
  eP : P = (n : Int)
  es : s = (sn : Int)
  ok : GoodC n sn xs cl
  pl : PlS n sn (btX xs) (chF cl) ua
  st : stillS n sn (btX xs) (chF cl) ua
  pile : V.heap[pa]? = some (.cells #[.slice (some ⟨fa, 0, none⟩) n fq, .slice (some ⟨ta, 0, none⟩) n n] 33 (0, 0))
  chips : RowAt V fa n (chS n sn (btX xs) (chF cl) ua)
  often : RowAt V ta n ua
  far : w.heap.size < pa ∧ w.heap.size < fa ∧ w.heap.size < ta ∧ fa ≠ ta
end Go.Proofs.YtpajdmhgonmgoaaDoor

namespace Go.Proofs.YtpajdmhgonmgoaaDoor
open Go.RowKit
set_option linter.unusedVariables false
open Go.Conc Go.ConcN Go.RowKit
set_option linter.unusedSimpArgs false
theorem SetA.below {w : World} {P s : Int} {xs : List EgT} {cl : List Int} {gx : Nat} {ea : Option Addr} {en ec pa n sn fa fq ta : Nat} {ua : Nat → Int} {V V' : World} (h : SetA w P s xs cl gx ea en ec pa n sn fa fq ta ua V) (b : Below V.heap.size V V') : SetA w P s xs cl gx ea en ec pa n sn fa fq ta ua V' :=
  ⟨h.bl.trans (b.mono h.bl.size), (b.block _ (ltS_of_block h.gr)).trans h.gr, h.eP, h.es, h.ok, h.pl, h.st, (b.block _ (ltS_of_block h.pile)).trans h.pile, h.chips.below b, h.often.below b, h.far⟩
/-- All but one block stands. -/
theorem SetA.but {w : World} {P s : Int} {xs : List EgT} {cl : List Int} {gx : Nat} {ea : Option Addr} {en ec pa n sn fa fq ta tb : Nat} {ua : Nat → Int} {V V' : World} (h : SetA w P s xs cl gx ea en ec pa n sn fa fq ta ua V) (hb : Below w.heap.size w V') (o : ∀ k, k < V.heap.size → k ≠ tb → V'.heap[k]? = V.heap[k]?) (n1 : gx ≠ tb) (n2 : pa ≠ tb) (n3 : fa ≠ tb) (n4 : ta ≠ tb) : SetA w P s xs cl gx ea en ec pa n sn fa fq ta ua V' :=
  ⟨hb, (o _ (ltS_of_block h.gr) n1).trans h.gr, h.eP, h.es, h.ok, h.pl, h.st, (o _ (ltS_of_block h.pile) n2).trans h.pile, row_on h.chips (o _ (row_lt h.chips) n3), row_on h.often (o _ (row_lt h.often) n4), h.far⟩
/-- Behind the single topples. -/
structure SetB (w : World) (P s : Int) (xs : List EgT) (cl : List Int) (gx : Nat) (ea : Option Addr) (en ec pa n sn fa fq ta : Nat) (ua : Nat → Int) (nb tb : Nat) (v : Nat → Int) (V : World) : Prop where
  a : SetA w P s xs cl gx ea en ec pa n sn fa fq ta ua V
  tm : V.heap[tb]? = some (.cells (arrS n fun k => .int .i64 (v k)) 3 (0, 0))
  now : ∃ F, RowAt V nb n F ∧ ∀ k, k < n → F k = chS n sn (btX xs) (chF cl) v k
  pl : PlS n sn (btX xs) (chF cl) v
end Go.Proofs.YtpajdmhgonmgoaaDoor

namespace Go.Proofs.YtpajdmhgonmgoaaDoor
open Go.RowKit
set_option linter.unusedVariables false
open Go.Conc Go.ConcN Go.RowKit
set_option linter.unusedSimpArgs false
theorem SetB.below {w : World} {P s : Int} {xs : List EgT} {cl : List Int} {gx : Nat} {ea : Option Addr} {en ec pa n sn fa fq ta nb tb : Nat} {ua v : Nat → Int} {V V' : World} (h : SetB w P s xs cl gx ea en ec pa n sn fa fq ta ua nb tb v V) (b : Below V.heap.size V V') : SetB w P s xs cl gx ea en ec pa n sn fa fq ta ua nb tb v V' := by
  obtain ⟨F, r, e⟩ := h.now
  exact ⟨h.a.below b, (b.block _ (ltS_of_block h.tm)).trans h.tm, ⟨F, r.below b, e⟩, h.pl⟩
end Go.Proofs.YtpajdmhgonmgoaaDoor

namespace Go.Proofs.YtpajdmhgonmgoaaDoor
open Go.RowKit
set_option linter.unusedVariables false
open Go.Conc Go.ConcN Go.RowKit
set_option linter.unusedSimpArgs false
theorem reach_then {P : Program} {g : Goroutine} {w : World} {T T' : Machine → Trace → Prop} (h : Reach P g w T) (k : ∀ m t, T m t → ∃ N m' t', runNT P N m t = (.next m', t') ∧ T' m' t') : Reach P g w T' := fun tr hp => by
  obtain ⟨N, m, t, h1, h2⟩ := h tr hp
  obtain ⟨N2, m2, t2, h3, h4⟩ := k m t h2
  exact ⟨N + N2, m2, t2, by rw [runNT_then h1]; exact h3, h4⟩
theorem crowd_reachE {n sn en ec cn cc nw : Nat} {xs : List EgT} {cl : List Int} {ea ca : Option Addr} {w : World} {c : Code} (hcd : (bodyOf Tryd.f10) = c) (GC : GoodC n sn xs cl) (hE : ArgE w xs ea en ec) (hP : ArgP w cl ca cn cc) (h1 : 1 ≤ nw) (h2 : nw ≤ 8) {b₀ : Frame} {a₀ : Act} {ops₀ : Array Oper} {i₀ : Nat} {rest₀ : List Nat} {k₀ : List Item} {cs : List Frame} :
    Reach Tryd.prog (G ((base 10).at ⟨#[.agg #[.int .i64 (n : Int), .slice ea en ec], .int .i64 (sn : Int), .slice ca cn cc, .int .i64 (nw : Int), undef, undef, undef, undef, undef, undef, undef, undef, undef, undef, undef, undef, undef, undef, undef, undef, undef, undef, undef, undef, undef, undef, undef, undef, undef, undef, undef, undef, undef, undef, undef, undef, undef], []⟩ [.code c]) (b₀.at a₀ (.inRegion ops₀ (i₀ :: rest₀) :: k₀) :: cs)) w (CrowdEnd n sn (btX xs) (chF cl) b₀ a₀ ops₀ i₀ rest₀ k₀ cs w) := by
  subst hcd
  exact crowd_reach GC hE hP h1 h2
end Go.Proofs.YtpajdmhgonmgoaaDoor

namespace Go.Proofs.YtpajdmhgonmgoaaDoor
open Go.RowKit
set_option linter.unusedVariables false
open Go.Conc Go.ConcN Go.RowKit
set_option linter.unusedSimpArgs false
end Go.Proofs.YtpajdmhgonmgoaaDoor

namespace Go.Proofs.YtpajdmhgonmgoaaDoor
open Go.RowKit
set_option linter.unusedVariables false
open Go.Conc Go.ConcN Go.RowKit
set_option linter.unusedSimpArgs false
end Go.Proofs.YtpajdmhgonmgoaaDoor

namespace Go.Proofs.YtpajdmhgonmgoaaDoor
open Go.RowKit
set_option linter.unusedVariables false
open Go.Conc Go.ConcN Go.RowKit
set_option linter.unusedSimpArgs false
theorem lone_tail {P : Program} {Post : Value → World → Prop} {b : Frame} {a : Act} {w : World} {c : Code} {fn : Func} {s : Tmp} (hn : b.kind = .normal) (hf : P.funcs[b.fn]? = some fn) (hi : P.inits.idxOf? b.fn = none) (hrs : fn.results = #[.tmp s])
    (h : c.wp P (fun e a' w' => e = .ret ∧ a'.defers = [] ∧ ∃ v, a'.tmps[s]? = some v ∧ Post v w') a w) : Reach P (G (b.at a [.code c]) []) w (LawEnd P Post) := by
  intro tr hp
  obtain ⟨e, a', w', ⟨rfl, hd, v, hv, hpost⟩, r⟩ := h b [] []
  obtain ⟨todo, n, hn'⟩ := r
  obtain ⟨last, hlast⟩ : ∃ last, lone { b.at a' todo with mode := .returning } [] w' = last := ⟨_, rfl⟩
  rw [hlast] at hn'
  have hN : runN P n (solo (G (b.at a [.code c]) []) w) = .next last := hn'
  have hT : runNT P n (solo (G (b.at a [.code c]) []) w) tr = (.next last, (runNT P n (solo (G (b.at a [.code c]) []) w) tr).2) := Prod.ext (by rw [runNT_fst, hN]) rfl
  obtain ⟨t1, ht1⟩ : ∃ t1, (runNT P n (solo (G (b.at a [.code c]) []) w) tr).2 = t1 := ⟨_, rfl⟩
  rw [ht1] at hT
  have sz : last.gs.size ≤ 1 := by rw [← hlast]; simp [lone]
  have ab := runNT_lone P n _ _ _ _ hT sz (Trace.allBy_of_forall fun o ho => Or.inr (hp.2.2 o ho))
  have hs : step P last = .ended (.done v) w' := by
    have e := ends_here (P := P) (b := b) (a := a') (todo := todo) (w := w') hn hd hf hi hrs hv
    rw [← hlast]
    exact step_ended (g := G { b.at a' todo with mode := .returning } []) rfl e
  have hw : last.rest.watch = false := by rw [← hlast]; rfl
  have ab2 := Trace.allBy_append ab (Trace.allBy_of_forall (stepT_lone P last true sz hw))
  refine ⟨0, _, tr, rfl, n, last, .done v, w', t1 ++ (stepT P last).2, ?_, hN, hs, v, rfl, hpost, fun said => not_race_of_allBy ab2, handedOver_of_allBy ab2, ⟨fun g hg => ?_, by rw [← hlast]; rfl⟩, fun i g hi h0 => ?_⟩
  · have hst : stepT P last = (.ended (.done v) w', (stepT P last).2) := Prod.ext (by rw [stepT_fst, hs]) rfl
    rw [runNT_add, hT]
    show runNT P 1 last t1 = _
    simp only [runNT]
    rw [hst]
  · rw [← hlast] at hg
    simp [lone] at hg
  · rw [← hlast] at hi
    have : i < 1 := by simpa [lone] using (Array.getElem?_eq_some_iff.1 hi).1
    omega
end Go.Proofs.YtpajdmhgonmgoaaDoor

namespace Go.Proofs.YtpajdmhgonmgoaaDoor
open Go.RowKit
set_option linter.unusedVariables false
open Go.Conc Go.ConcN Go.RowKit
set_option linter.unusedSimpArgs false
section
variable {P : Program} {S : FuncId → Bool}
theorem zC_tame : ∀ (c : Code), zC P S c = true → tameC S c = true := by
  intro c
  induction c <;> simp_all [zC, tameC]
  exact fun h i hi => zO_tame (h i hi)
theorem MildZ.mild (M : MildZ P S) : Mild P S := ⟨fun f hf => by
  obtain ⟨fn, c, h1, h2, h3, h4⟩ := M.bodies f hf
  exact ⟨fn, c, h1, h2, h3, zC_tame c h4⟩, M.steps, M.ahead⟩
/-- Goroutine 0's own steps, where it is alone. -/
theorem reach_goes {St : Goroutine → World → Prop} {T : Machine → Trace → Prop} {B : Nat} (hn : ∀ g' w', St g' w' → B ≤ w'.heap.size ∧ Reach P g' w' T) : ∀ (n : Nat) (g : Goroutine) (w : World), Goes P true AtRel (fun _ _ es => ∀ e ∈ es, EvL (fun _ => False) B e) St n g w → ∀ tr, PastS B tr → ∃ N m' tr', runNT P N (solo g w) tr = (.next m', tr') ∧ T m' tr' := by
  intro n
  induction n with
  | zero =>
    intro g w h tr hp
    obtain ⟨h1, h2⟩ := hn g w (h w (atRel_refl w))
    exact h2 tr (hp.mono h1)
  | succ n ih =>
    intro g w h tr hp
    rcases h with h | ⟨hs, h⟩
    · obtain ⟨h1, h2⟩ := hn g w (h w (atRel_refl w))
      exact h2 tr (hp.mono h1)
    · obtain ⟨g₁, w₂, es, hgo, h1, h2⟩ := goes_elim (h w (atRel_refl w))
      obtain ⟨N, m', tr', r1, r2⟩ := ih g₁ w₂ h2 _ (hp.own (fn := g.frame.fn) (pos := g.frame.place) h1)
      exact ⟨N + 1, m', tr', by rw [runNT_solo hs hgo]; exact r1, r2⟩
theorem reach_gp {g : Goroutine} {w : World} {T : Machine → Trace → Prop} {n : Nat} (hG : Gp P (EvL (fun _ => False) w.heap.size) (fun h w' => ∃ d, w' = w.at d ∧ Reach P h (w.at d) T) n g (AtRel w)) : Reach P g w T := fun tr hp =>
  reach_goes (B := w.heap.size) (fun g1 w1 ⟨d, e2, h⟩ => by
    rw [e2]; exact ⟨Nat.le_refl _, h⟩) n g w (hG w (atRel_refl w)) tr hp
variable {Shun : Loc → Prop} {T : Machine → Trace → Prop}
/-- Own steps that leave the world. -/
theorem on_gp0 {g : Goroutine} {V : World} {n : Nat} (hG : ∀ B, V.heap.size ≤ B → Gp P (EvL Shun B) (fun h w' => ∃ d, w' = V.at d ∧ On P Shun h (V.at d) T) n g (AtRel V)) : On P Shun g V T :=
  fun B m t hB hb => by
    obtain ⟨N, m1, t1, g1, w1, r1, ⟨d, rfl, hn⟩, hb1⟩ := bes_walk (hG B hB) (atRel_refl V) hb
    obtain ⟨N2, m2, t2, u1, u2⟩ := hn B m1 t1 hB hb1
    exact ⟨N + N2, m2, t2, by rw [runNT_then r1]; exact u1, u2⟩
/-- Its end. -/
theorem on_end {Post : Value → World → Prop} {g : Goroutine} {V : World} {n : Nat} (hG : ∀ B, V.heap.size ≤ B → Gp P (EvL Shun B) (AtEnd P Shun B Post) n g (AtRel V)) : On P Shun g V (LawEnd P Post) := fun B m t hB hb => by
  obtain ⟨N, last, o, wf, t', h1, h2, h3, h4⟩ := bes_ends (hG B hB) (atRel_refl V) hb
  exact ⟨0, m, t, rfl, N, last, o, wf, t', h1, h2, h3, h4⟩
end
end Go.Proofs.YtpajdmhgonmgoaaDoor

namespace Go.Proofs.YtpajdmhgonmgoaaDoor
open Go.RowKit
set_option linter.unusedVariables false
set_option maxRecDepth 100000 in
theorem Fault_places (P : Int) (ea : Option Addr) (n c : Nat) (w : World) (hp : P < 1 ∨ 10 < P) :
    Calls Tryd.prog 5 #[.agg #[.int .i64 P, .slice ea n c]] w fun e w' => e = .returned (.int .i64 1) ∧ Below w.heap.size w w' := by
  obtain ⟨w1, hw1⟩ : ∃ w1, w.alloc (.cells #[.int .i64 P, .slice ea n c] 24) = w1 := ⟨_, rfl⟩
  have HW1 := hide' hw1
  have B1 := hide' (show Below w.heap.size w w1 by rw [← hw1]; exact (Below.refl _ _).alloc (Nat.le_refl _) _)
  have R1 := hide' (show w1.heap[w.heap.size]? = some (.cells #[.int .i64 P, .slice ea n c] 24 (0, 0)) by rw [← hw1]; exact heap_alloc_new _ _)
  have y0 := cell_of_row w1 _ 0 _ _ _ R1.out
  have y1 := cell_of_row w1 _ 1 _ _ _ R1.out
  simp at y0 y1
  clear hw1
  go_enter Tryd.func5, Tryd.ntmps5
  go_upto_region 1 with fail
  rw [HW1.out]
  by_cases q1 : P < 1
  · clear hp
    go_wp2
    go_ret
    exact ⟨rfl, B1.out⟩
  · have q2 : 10 < P := by omega
    clear hp
    go_wp2
    go_ret
    exact ⟨rfl, B1.out⟩
set_option maxRecDepth 100000 in
theorem Fault_full (P : Int) (ea : Option Addr) (n c : Nat) (w : World) (q1 : ¬ P < 1) (q2 : ¬ 10 < P) (n4 : 40 < n) :
    Calls Tryd.prog 5 #[.agg #[.int .i64 P, .slice ea n c]] w fun e w' => e = .returned (.int .i64 4) ∧ Below w.heap.size w w' := by
  obtain ⟨w1, hw1⟩ : ∃ w1, w.alloc (.cells #[.int .i64 P, .slice ea n c] 24) = w1 := ⟨_, rfl⟩
  have HW1 := hide' hw1
  have B1 := hide' (show Below w.heap.size w w1 by rw [← hw1]; exact (Below.refl _ _).alloc (Nat.le_refl _) _)
  have R1 := hide' (show w1.heap[w.heap.size]? = some (.cells #[.int .i64 P, .slice ea n c] 24 (0, 0)) by rw [← hw1]; exact heap_alloc_new _ _)
  have y0 := cell_of_row w1 _ 0 _ _ _ R1.out
  have y1 := cell_of_row w1 _ 1 _ _ _ R1.out
  simp at y0 y1
  have q3 : 40 < (n : Int) := by omega
  clear hw1
  go_enter Tryd.func5, Tryd.ntmps5
  go_upto_region 1 with fail
  rw [HW1.out]
  go_wp2
  go_ret
  exact ⟨rfl, B1.out⟩
set_option maxRecDepth 100000 in
set_option maxHeartbeats 6400000 in
theorem Fault_edge (P : Int) (xs : List EgT) (ea : Option Addr) (n c : Nat) (w : World) (hE : ArgE w xs ea n c) (q1 : ¬ P < 1) (q2 : ¬ 10 < P) (n4 : n ≤ 40) (bad : ∃ j, j < xs.length ∧ badE P (xs.getD j egz)) :
    Calls Tryd.prog 5 #[.agg #[.int .i64 P, .slice ea n c]] w fun e w' => e = .returned (.int .i64 1) ∧ Below w.heap.size w w' := by
  obtain ⟨w1, hw1⟩ : ∃ w1, w.alloc (.cells #[.int .i64 P, .slice ea n c] 24) = w1 := ⟨_, rfl⟩
  have HW1 := hide' hw1
  have B1 := hide' (show Below w.heap.size w w1 by rw [← hw1]; exact (Below.refl _ _).alloc (Nat.le_refl _) _)
  have R1 := hide' (show w1.heap[w.heap.size]? = some (.cells #[.int .i64 P, .slice ea n c] 24 (0, 0)) by rw [← hw1]; exact heap_alloc_new _ _)
  have y0 := cell_of_row w1 _ 0 _ _ _ R1.out
  have y1 := cell_of_row w1 _ 1 _ _ _ R1.out
  simp at y0 y1
  have q3 : ¬ 40 < (n : Int) := by omega
  have HE := hide' (fun (V : World) (h : Below w.heap.size w V) => hE.below h)
  have HL := hide' hE.len
  have BAD := hide' bad
  clear hw1 hE bad
  go_enter Tryd.func5, Tryd.ntmps5
  go_upto_region 1 with fail
  rw [HW1.out]
  go_wp2
  go_loopw [3] (fun iv wr => ∃ i : Nat, iv = .int .i64 (i : Int) ∧ i ≤ n ∧ Hid (Below w1.heap.size w1 wr) ∧ Hid (∀ j, j < i → ¬ badE P (xs.getD j egz))) (fun iv _ => n - (intOf iv).toNat)
  case atStart => exact ⟨0, rfl, by omega, hide' (Below.refl _ _), hide' fun j h => by omega⟩
  case round =>
    obtain ⟨i, rfl, hi, BW, HA⟩ := hrel
    clear y0 y1
    have R2 := (BW.out.block _ (ltS_of_block R1.out)).trans R1.out
    have y0 := cell_of_row wr _ 0 _ _ _ R2
    have y1 := cell_of_row wr _ 1 _ _ _ R2
    simp at y0 y1
    by_cases d : (i : Int) < (n : Int)
    · have hl : i < xs.length := by have := HL.out; omega
      obtain ⟨g, off, rfl, hg, c0, c1, c2⟩ := (HE.out wr (B1.out.trans (BW.out.mono B1.out.size))).cells i hl
      obtain ⟨⟨p, q, t⟩, hx⟩ : ∃ x, xs[i] = x := ⟨_, rfl⟩
      rw [hx] at c0 c1 c2
      simp only at c0 c1 c2
      have EQ := hide' (show xs.getD i egz = ⟨p, q, t⟩ by rw [eg_at hl, hx])
      have BN := hide' (show ∀ o, Below w1.heap.size w1 (wr.alloc o) from fun o => BW.out.alloc BW.out.size o)
      have FN := hide' (show ∀ o, Below w.heap.size w (wr.alloc o) from fun o => B1.out.trans ((BN.out o).mono B1.out.size))
      have lw := ltS_of_block R2
      clear hx R2
      by_cases k0 : p < 0
      · go_wp2
        go_ret
        exact ⟨rfl, FN.out _⟩
      · by_cases k1 : P ≤ p
        · go_wp2
          go_ret
          exact ⟨rfl, FN.out _⟩
        · by_cases k2 : q < 0
          · go_wp2
            go_ret
            exact ⟨rfl, FN.out _⟩
          · by_cases k3 : P ≤ q
            · go_wp2
              go_ret
              exact ⟨rfl, FN.out _⟩
            · by_cases k4 : p = q
              · have e4 : (p == q) = true := by simpa using k4
                go_wp2
                go_ret
                exact ⟨rfl, FN.out _⟩
              · have e4 : (p == q) = false := by simpa using k4
                by_cases k5 : t < 1
                · go_wp2
                  go_ret
                  exact ⟨rfl, FN.out _⟩
                · by_cases k6 : 100 < t
                  · go_wp2
                    go_ret
                    exact ⟨rfl, FN.out _⟩
                  · have NB := hide' (show ∀ j, j < i + 1 → ¬ badE P (xs.getD j egz) from fun j h => by
                      by_cases e : j = i
                      · rw [e, EQ.out]; unfold badE; simp only; omega
                      · exact HA.out j (by omega))
                    go_wp2
                    exact ⟨⟨i + 1, by go_num, by omega, hide' (BN.out _), NB⟩, by simp [intOf]; omega⟩
    · exfalso
      obtain ⟨j, h1, h2⟩ := BAD.out
      exact HA.out j (by have := HL.out; omega) h2
end Go.Proofs.YtpajdmhgonmgoaaDoor

namespace Go.Proofs.YtpajdmhgonmgoaaDoor
open Go.RowKit
set_option linter.unusedVariables false
set_option linter.unusedSimpArgs false
def LaidOut (w : World) (P s : Int) (cs : List Int) (e : Ending) (w' : World) : Prop := ∃ f, LaG P s cs f ∧ e = .returned (.int .i64 (f : Int)) ∧ Below w.heap.size w w'
set_option maxRecDepth 100000 in
set_option maxHeartbeats 6400000 in
theorem laid_any (P : Int) (xs : List EgT) (ea : Option Addr) (n c : Nat) (s : Int) (cs : List Int) (ca : Option Addr) (cn cc : Nat) (w : World) (hC : ArgP w cs ca cn cc) :
    Calls Tryd.prog 15 #[.agg #[.int .i64 P, .slice ea n c], .int .i64 s, .slice ca cn cc] w (LaidOut w P s cs) := by
  obtain ⟨w1, hw1⟩ : ∃ w1, w.alloc (.cells #[.int .i64 P, .slice ea n c] 24) = w1 := ⟨_, rfl⟩
  have HW1 := hide' hw1
  have B1 := hide' (show Below w.heap.size w w1 by rw [← hw1]; exact (Below.refl _ _).alloc (Nat.le_refl _) _)
  have R1 := hide' (show w1.heap[w.heap.size]? = some (.cells #[.int .i64 P, .slice ea n c] 24 (0, 0)) by rw [← hw1]; exact heap_alloc_new _ _)
  have HC := hide' (fun (V : World) (h : Below w.heap.size w V) => hC.below h)
  have HL := hide' hC.len
  have nm := hC.max
  unfold maxLen at nm
  have y0 := cell_of_row w1 _ 0 _ _ _ R1.out
  simp at y0
  clear hw1 hC
  go_enter Tryd.func15, Tryd.ntmps15
  by_cases k : (cn : Int) = P
  · have HK := hide' (show (cs.length : Int) = P by have := HL.out; omega)
    have e1 : ((cn : Int) != P) = false := by simpa using k
    clear k
    go_upto_region 1 with fail
    rw [HW1.out]
    go_wp2
    go_loopw [7] (fun iv wr => ∃ i : Nat, iv = .int .i64 (i : Int) ∧ i ≤ cn ∧ wr = w1 ∧ Hid (∀ j, j < i → ¬ badC s j (cs.getD j 0))) (fun iv _ => cn - (intOf iv).toNat)
    case atStart => exact ⟨0, rfl, by omega, rfl, hide' fun j h => by omega⟩
    case round =>
      obtain ⟨i, rfl, hi, rfl, HA⟩ := hrel
      clear y0
      by_cases d : (i : Int) < (cn : Int)
      · have hl : i < cs.length := by have := HL.out; omega
        obtain ⟨g, off, rfl, hg, c0⟩ := (HC.out wr B1.out).cells i hl
        obtain ⟨x, hx⟩ : ∃ x, cs[i] = x := ⟨_, rfl⟩
        rw [hx] at c0
        have EQ := hide' (show cs.getD i 0 = x by rw [at_getD hl, hx])
        have BAD := hide' (show badC s i x → LaidOut w P s cs (.returned (.int .i64 1)) wr from fun h => ⟨1, Or.inr (Or.inl ⟨HK.out, ⟨i, hl, by rw [EQ.out]; exact h⟩, rfl⟩), rfl, B1.out⟩)
        have NX := hide' (show ¬ badC s i x → ∀ j, j < i + 1 → ¬ badC s j (cs.getD j 0) from fun h j hj => by
          by_cases e : j = i
          · rw [e, EQ.out]; exact h
          · exact HA.out j (by omega))
        clear hx
        by_cases k1 : x < 0
        · have X := hide' (BAD.out (Or.inl k1))
          go_wp2
          go_ret
          exact X.out
        · by_cases k2 : 10000 < x
          · have X := hide' (BAD.out (Or.inr (Or.inl k2)))
            go_wp2
            go_ret
            exact X.out
          · by_cases k3 : (i : Int) = s
            · have e3 : ((i : Int) == s) = true := by simpa using k3
              by_cases k4 : x = 0
              · have X := hide' (NX.out (by unfold badC; omega))
                have e4 : (x != 0) = false := by simpa using k4
                clear k3 k4
                go_wp2
                exact ⟨⟨i + 1, by go_num, by omega, by trivial, X⟩, by simp [intOf]; omega⟩
              · have X := hide' (BAD.out (Or.inr (Or.inr ⟨k3, k4⟩)))
                have e4 : (x != 0) = true := by simpa using k4
                clear k3 k4
                go_wp2
                go_ret
                exact X.out
            · have e3 : ((i : Int) == s) = false := by simpa using k3
              have X := hide' (NX.out (by unfold badC; omega))
              clear k3
              go_wp2
              exact ⟨⟨i + 1, by go_num, by omega, by trivial, X⟩, by simp [intOf]; omega⟩
      · obtain rfl : i = cn := by omega
        go_wp2
        go_ret
        exact ⟨0, Or.inr (Or.inr ⟨HK.out, fun j hj => HA.out j (by have := HL.out; omega), rfl⟩), rfl, B1.out⟩
  · have X := hide' (show ¬ (cs.length : Int) = P by have := HL.out; omega)
    have e1 : ((cn : Int) != P) = true := by simpa using k
    clear k
    go_upto_region 1 with fail
    rw [HW1.out]
    go_wp2
    go_ret
    exact ⟨3, Or.inl ⟨X.out, rfl⟩, rfl, B1.out⟩
end Go.Proofs.YtpajdmhgonmgoaaDoor

namespace Go.Proofs.YtpajdmhgonmgoaaDoor
open Go.RowKit
set_option linter.unusedVariables false
set_option linter.unusedSimpArgs false
/-- What is wrong with a graph, by its number. -/
theorem refFault_any (P : Int) (xs : List EgT) (ea : Option Addr) (n c : Nat) (w : World) (hE : ArgE w xs ea n c) :
    Calls Tryd.prog 5 #[.agg #[.int .i64 P, .slice ea n c]] w (fun e w' => ∃ f : Nat, FaG P xs f ∧ e = .returned (.int .i64 (f : Int)) ∧ Below w.heap.size w w') := by
  by_cases q1 : P < 1 ∨ 10 < P
  · refine (Fault_places P ea n c w q1).mono ?_
    rintro e w' ⟨rfl, b⟩
    exact ⟨1, Or.inl ⟨q1, rfl⟩, rfl, b⟩
  · by_cases q2 : 40 < n
    · refine (Fault_full P ea n c w (by omega) (by omega) q2).mono ?_
      rintro e w' ⟨rfl, b⟩
      exact ⟨4, Or.inr (Or.inl ⟨by omega, by rw [← hE.len]; exact q2, rfl⟩), rfl, b⟩
    · by_cases q3 : ∃ j, j < xs.length ∧ badE P (xs.getD j egz)
      · refine (Fault_edge P xs ea n c w hE (by omega) (by omega) (by omega) q3).mono ?_
        rintro e w' ⟨rfl, b⟩
        exact ⟨1, Or.inr (Or.inr (Or.inl ⟨by omega, by rw [← hE.len]; omega, q3, rfl⟩)), rfl, b⟩
      · obtain ⟨Q, rfl⟩ := Int.eq_ofNat_of_zero_le (show 0 ≤ P by omega)
        have ok : ∀ j, j < xs.length → ¬ badE Q (xs.getD j egz) := fun j hj hb => q3 ⟨j, hj, hb⟩
        refine (Fault_ok Q xs ea n c w hE (by omega) (by omega) (by omega) ok _ rfl).mono ?_
        rintro e w' ⟨rfl, b⟩
        refine ⟨_, ?_, rfl, b⟩
        by_cases q4 : ∀ k, k < Q → rcM xs Q k = true
        · rw [if_pos q4]
          exact Or.inr (Or.inr (Or.inr (Or.inl ⟨by omega, by rw [← hE.len]; omega, ok, by simpa [allR] using q4, rfl⟩)))
        · rw [if_neg q4]
          exact Or.inr (Or.inr (Or.inr (Or.inr ⟨by omega, by rw [← hE.len]; omega, ok, by simpa [allR] using q4, rfl⟩)))
/-- What edenref6.Chips says. -/
def RefChips (w : World) (P : Int) (xs : List EgT) (s : Int) (cs : List Int) (e : Ending) (w' : World) : Prop := ∃ f, ChG P xs s cs f ∧ e = .returned (.int .i64 (f : Int)) ∧ Below w.heap.size w w'
set_option maxRecDepth 100000 in
set_option maxHeartbeats 6400000 in
theorem refChips_any (P : Int) (xs : List EgT) (ea : Option Addr) (n c : Nat) (s : Int) (cs : List Int) (ca : Option Addr) (cn cc : Nat) (w : World) (hE : ArgE w xs ea n c) (hC : ArgP w cs ca cn cc) :
    Calls Tryd.prog 8 #[.agg #[.int .i64 P, .slice ea n c], .int .i64 s, .slice ca cn cc] w (RefChips w P xs s cs) := by
  obtain ⟨w1, hw1⟩ : ∃ w1, w.alloc (.cells #[.int .i64 P, .slice ea n c] 24) = w1 := ⟨_, rfl⟩
  have HW1 := hide' hw1
  have B1 := hide' (show Below w.heap.size w w1 by rw [← hw1]; exact (Below.refl _ _).alloc (Nat.le_refl _) _)
  have R1 := hide' (show w1.heap[w.heap.size]? = some (.cells #[.int .i64 P, .slice ea n c] 24 (0, 0)) by rw [← hw1]; exact heap_alloc_new _ _)
  have CK := hide' (refFault_any P xs ea n c w1 (hE.below B1.out))
  have CL := hide' (fun (V : World) (h : Below w.heap.size w V) => laid_any P xs ea n c s cs ca cn cc V (hC.below h))
  have y0 := cell_of_row w1 _ 0 _ _ _ R1.out
  have y1 := cell_of_row w1 _ 1 _ _ _ R1.out
  simp at y0 y1
  clear hw1 hE hC
  go_enter Tryd.func8, Tryd.ntmps8
  go_upto_region 1 with fail
  rw [HW1.out]
  go_wp2_with fail
  refine CK.out.mono ?_
  rintro e w2 ⟨f, hf, rfl, b2⟩
  have HF := hide' hf
  have B2 := hide' (B1.out.trans (b2.mono B1.out.size))
  have R2 := hide' ((b2.block _ (ltS_of_block R1.out)).trans R1.out)
  clear hf b2 y0 y1
  by_cases h0 : f = 0
  · subst h0
    have y0 := cell_of_row w2 _ 0 _ _ _ R2.out
    have y1 := cell_of_row w2 _ 1 _ _ _ R2.out
    simp at y0 y1
    have CP := hide' (CL.out w2 B2.out)
    by_cases k : 0 ≤ s ∧ s < P
    · have KK := hide' k
      obtain ⟨k1, k2⟩ := k
      go_wp2_with fail
      refine CP.out.mono ?_
      rintro e w3 ⟨g, hg, rfl, b3⟩
      have X := hide' (show RefChips w P xs s cs (.returned (.int .i64 (g : Int))) w3 from ⟨g, Or.inr ⟨Or.inr (Or.inr ⟨HF.out, KK.out, rfl⟩), hg⟩, rfl, B2.out.trans (b3.mono B2.out.size)⟩)
      clear hg b3 y0 y1 k1 k2
      go_wp2
      go_ret
      exact X.out
    · have X := hide' (show RefChips w P xs s cs (.returned (.int .i64 1)) w2 from ⟨1, Or.inl ⟨by decide, Or.inr (Or.inl ⟨HF.out, k, rfl⟩)⟩, rfl, B2.out⟩)
      by_cases k1 : s < 0
      · clear k
        go_wp2
        go_ret
        exact X.out
      · have k2 : P ≤ s := by omega
        clear k
        go_wp2
        go_ret
        exact X.out
  · have X := hide' (show RefChips w P xs s cs (.returned (.int .i64 (f : Int))) w2 from ⟨f, Or.inl ⟨h0, Or.inl ⟨h0, HF.out⟩⟩, rfl, B2.out⟩)
    have e1 : ((f : Int) != 0) = true := by simpa using h0
    clear h0
    go_wp2
    go_ret
    exact X.out
end Go.Proofs.YtpajdmhgonmgoaaDoor

namespace Go.Proofs.YtpajdmhgonmgoaaDoor
open Go.RowKit
set_option linter.unusedVariables false
set_option linter.unusedSimpArgs false
/-- What Crowd answers where it refuses. -/
def CrowdNo (w : World) (P : Int) (xs : List EgT) (s : Int) (cs : List Int) (e : Ending) (w' : World) : Prop :=
  Below w.heap.size w w' ∧ ∃ f g, ChG P xs s cs f ∧ g = (if f = 0 then 1 else f) ∧ e = .returned (.tuple #[.agg #[.slice none 0 0, .slice none 0 0], errOf g])
theorem crowdN_res (w : World) (T : Array Value) (g : Nat) (x y z : Value) (hp : T.getD 8 undef = .pointer (some ⟨g, 0, none⟩)) (h9 : T.getD 9 undef = z) (hg : w.heap[g]? = some (.cells #[x, y] 33 (0, 0))) : (results Tryd.f10 T).run Tryd.prog w = .ok (.tuple #[.agg #[x, y], z]) w := by
  obtain ⟨k1, k2, _, _, k5⟩ := set2 (x := x) (y := y) hg
  have hp' : T[8]?.getD undef = .pointer (some ⟨g, 0, none⟩) := by simpa using hp
  have h9' : T[9]?.getD undef = z := by simpa using h9
  simp [results, Tryd.f10, hp', h9', asAddr, go_sem, loadCells, k1, k5, Addr.add]
set_option maxRecDepth 100000 in
set_option maxHeartbeats 6400000 in
theorem crowdNo_any (P : Int) (xs : List EgT) (ea : Option Addr) (n c : Nat) (s : Int) (cs : List Int) (ca : Option Addr) (cn cc : Nat) (wk : Int) (w : World) (hE : ArgE w xs ea n c) (hC : ArgP w cs ca cn cc) (hno : ChG P xs s cs 0 → wk < 1 ∨ 8 < wk) :
    Calls Tryd.prog 10 #[.agg #[.int .i64 P, .slice ea n c], .int .i64 s, .slice ca cn cc, .int .i64 wk] w (CrowdNo w P xs s cs) := by
  obtain ⟨w0, hw0⟩ : ∃ w0, w.alloc (.cells #[.int .i64 P, .slice ea n c] 24) = w0 := ⟨_, rfl⟩
  obtain ⟨w1, hw1⟩ : ∃ w1, w0.alloc (.cells #[.slice none 0 0, .slice none 0 0] 33) = w1 := ⟨_, rfl⟩
  obtain ⟨rb, hrb⟩ : ∃ rb, w.heap.size + 1 = rb := ⟨_, rfl⟩
  have z0 : w0.heap.size = rb := by rw [← hw0, ← hrb]; simp
  have HW0 := hide' hw0
  have HW1 := hide' hw1
  have B0 : Below w.heap.size w w0 := by rw [← hw0]; exact (Below.refl _ _).alloc (Nat.le_refl _) _
  have B1 := hide' (show Below w.heap.size w w1 by rw [← hw1]; exact B0.alloc B0.size _)
  have R0 : w0.heap[w.heap.size]? = some (.cells #[.int .i64 P, .slice ea n c] 24 (0, 0)) := by rw [← hw0]; exact heap_alloc_new _ _
  have R1 := hide' (show w1.heap[w.heap.size]? = some (.cells #[.int .i64 P, .slice ea n c] 24 (0, 0)) by rw [← hw1]; exact (heap_alloc_old _ _ (ltS_of_block R0)).trans R0)
  have Q1 := hide' (show w1.heap[rb]? = some (.cells #[.slice none 0 0, .slice none 0 0] 33 (0, 0)) by rw [← hw1, ← z0]; exact heap_alloc_new _ _)
  have LR := hide' (show w.heap.size ≤ rb by omega)
  have CK := hide' (checkChips_any P xs ea n c s cs ca cn cc w1 (hE.below B1.out) (hC.below B1.out))
  have HRB := hide' hrb
  have HNO := hide' hno
  have E1 := hide' (show errOf 1 = .iface 48 (.int .i64 1) from errOf_not (by decide))
  clear hw0 hw1 hE hC z0 B0 R0 hrb hno
  have y0 := cell_of_row w1 _ 0 _ _ _ R1.out
  have y1 := cell_of_row w1 _ 1 _ _ _ R1.out
  simp at y0 y1
  go_enter Tryd.func10, Tryd.ntmps10
  go_upto_region 1 with fail
  rw [HRB.out, HW0.out, HW1.out]
  go_wp2_with fail
  refine CK.out.mono ?_
  rintro e w2 ⟨f, hf, rfl, b2⟩
  have HF := hide' hf
  have B2 := hide' (B1.out.trans (b2.mono B1.out.size))
  have Q2 := hide' ((b2.block _ (ltS_of_block Q1.out)).trans Q1.out)
  clear hf b2 y0 y1
  have r2 := hide' (show ((w2.setCell ⟨rb, 0, none⟩ (.slice none 0 0)).setCell ⟨rb, 1, none⟩ (.slice none 0 0)).heap[rb]? = some (.cells #[.slice none 0 0, .slice none 0 0] 33 (0, 0)) from by
    have h1 := heap_setCell_same w2 rb 0 _ _ (.slice none 0 0) Q2.out
    exact heap_setCell_same _ rb 1 _ _ (.slice none 0 0) h1)
  have b3 := hide' (below_setCell (below_setCell B2.out LR.out 0 (.slice none 0 0)) LR.out 1 (.slice none 0 0))
  obtain ⟨k1, k2, k3, k4, _⟩ := set2 (x := .slice none 0 0) (y := .slice none 0 0) Q2.out
  by_cases h0 : f = 0
  · subst h0
    rw [show errOf 0 = .nilIface from rfl]
    have K := HNO.out HF.out
    by_cases q1 : wk < 1
    · clear K
      go_wp2
      refine bodyPost_ret (crowdN_res _ _ rb _ _ (errOf 1) (by simp) (by rw [E1.out]; simp) r2.out) rfl ?_
      exact ⟨b3.out, 0, 1, HF.out, rfl, rfl⟩
    · have q2 : 8 < wk := by omega
      clear K
      go_wp2
      refine bodyPost_ret (crowdN_res _ _ rb _ _ (errOf 1) (by simp) (by rw [E1.out]; simp) r2.out) rfl ?_
      exact ⟨b3.out, 0, 1, HF.out, rfl, rfl⟩
  · have H0 := hide' h0
    have EF := hide' (errOf_not h0)
    rw [EF.out]
    clear h0
    go_wp2
    refine bodyPost_ret (crowdN_res _ _ rb _ _ (errOf f) (by simp) (by rw [EF.out]; simp) r2.out) rfl ?_
    exact ⟨b3.out, f, f, HF.out, by rw [if_neg H0.out], rfl⟩
end Go.Proofs.YtpajdmhgonmgoaaDoor

