/-
  A pile settles to one end: edenlaw5.SandSettles returns true at every graph, sink, chips, order and number of workers, on every schedule, without a data race; and they read as they did.
  Conditions: the card's own (the library's variable that it lists starts as its text lays it, which the card ties; a text or a slice takes at most 2^47 - 4096 bytes, as every row says; the workers that it started have ended or can only leave). The seat's pruned copy of the project stands for it.
-/
import Derived.Test.YtpajdmhgonmgoaaDoorYt45
import Derived.Test.YtpajdmhgonmgoaaDoorYt46
import Derived.SevenTiedAt
namespace Go.Proofs.YtpajdmhgonmgoaaDoor
open Go.ChangeShapes Go.WideShapes Go.ChangeAt Go.RowKit
open Go.Conc Go.ConcN
set_option linter.unusedVariables false

theorem sandSettlesWorld_met (os : Os) (args : Array Value) : laidMetH Tryd.prog Rows.sandSettlesRow.laid ((layWorldP (World.holding Tryd.prog os ⟨#[], #[], []⟩)).forCall (fun _ _ => 0) ⟨#[], args, []⟩).memory :=
  laidMetH_of_parts (laidMet_nil _ _) (by kernel_rfl)

set_option maxRecDepth 100000 in
theorem regs_ss (v0 v1 v2 v3 v4 : Value) : #[v0, v1, v2, v3, v4] ++ Array.replicate (Tryd.f3.ntmps - (#[v0, v1, v2, v3, v4] : Array Value).size) undef = #[v0, v1, v2, v3, v4, undef, undef, undef, undef, undef, undef, undef, undef, undef, undef, undef, undef, undef, undef, undef, undef, undef, undef, undef, undef, undef, undef, undef, undef, undef, undef, undef, undef, undef, undef, undef, undef, undef, undef, undef, undef, undef, undef, undef, undef, undef, undef, undef, undef, undef, undef, undef, undef, undef, undef, undef, undef, undef, undef, undef, undef, undef, undef, undef, undef, undef, undef, undef, undef, undef, undef, undef, undef, undef, undef, undef, undef, undef, undef, undef, undef, undef, undef, undef, undef, undef, undef, undef, undef, undef, undef, undef, undef, undef, undef, undef, undef, undef, undef, undef, undef, undef, undef, undef, undef, undef, undef, undef, undef, undef, undef, undef, undef, undef, undef, undef, undef, undef, undef, undef, undef, undef, undef, undef, undef, undef, undef, undef, undef, undef, undef, undef, undef, undef, undef, undef, undef, undef, undef, undef, undef, undef, undef, undef, undef, undef, undef, undef, undef, undef, undef, undef, undef, undef] := by
  apply Array.ext'
  rw [Array.toList_append, Array.toList_replicate]
  rfl
set_option maxRecDepth 100000 in
theorem enter_ss {P s wk : Int} {en ec cn cc on oc : Nat} {ea ca oa : Option Addr} {w : World} {Post : Value → World → Prop}
    {xs : List EgT} {cl os : List Int} (hE : ArgE w xs ea en ec) (hC : ArgP w cl ca cn cc) (hO : ArgP w os oa on oc) (hg : Handle w)
    (hpost : ∀ V : World, Below w.heap.size w V → Post (.bool true) V) :
    ∃ M last o w' t', runNT Tryd.prog (M + 1) (solo (G (Frame.enter Tryd.prog 3 #[.agg #[.int .i64 P, .slice ea en ec], .int .i64 s, .slice ca cn cc, .slice oa on oc, .int .i64 wk] .normal) []) w) #[] = (.ended o w', t') ∧
      runN Tryd.prog M (solo (G (Frame.enter Tryd.prog 3 #[.agg #[.int .i64 P, .slice ea en ec], .int .i64 s, .slice ca cn cc, .slice oa on oc, .int .i64 wk] .normal) []) w) = .next last ∧ step Tryd.prog last = .ended o w' ∧ Go.Conc.Good Tryd.prog Post last o w' t' :=
  run_entered (c := bodyOf Tryd.f3) Tryd.func3 rfl (congrArg (fun t => ({ tmps := t, defers := [] } : Act)) (regs_ss _ _ _ _ _)) (settles_all hE hC hO hg hpost)

set_option maxRecDepth 100000 in
theorem sandSettles_lifted (os : Os) (started : os.Started) (H : Type) (enc : TypeId × Value → H) :
    ReturnsInLeavingWide {} Tryd.checked os 3 .any (fun w args => (Rows.sandSettlesSpec.pre enc Tryd.prog Tryd.f3 [] false w args ∧ laidMetH Tryd.prog Rows.sandSettlesRow.laid w) ∧ sizedMet enc Tryd.prog Tryd.f3 (OpenSpec.ofChange Rows.sandSettlesSpec) false w args)
      (Rows.sandSettlesSpec.post enc Tryd.prog Tryd.f3 false true false false) := by
  refine returnsInLeavingWide_of_good (C := Tryd.checked) ownP started
    (ChangeSpec.witness_at (enc := enc) (C := Tryd.checked) (os := os) (X := fun w _ => laidMetH Tryd.prog Rows.sandSettlesRow.laid w) false (layWorldP (World.holding Tryd.prog os ⟨#[], #[], []⟩)) #[.agg #[.int .i64 0, .slice none 0 0], .int .i64 0, .slice none 0 0, .slice none 0 0, .int .i64 0] 8 rfl (by kernel_rfl) (by kernel_rfl) (by kernel_rfl) (by kernel_rfl) (by kernel_rfl) (sandSettlesWorld_met os _)) ?_
  intro w tape i _ _ _ hok hpre _
  obtain ⟨_, _, _, fn', hfn', _, _, _, _, hval00⟩ := hok
  obtain rfl : fn' = Tryd.f3 := Option.some.inj (hfn'.symm.trans Tryd.func3)
  obtain ⟨⟨⟨ds, gs, before, hw, _⟩, hL0⟩, _⟩ := hpre
  have hW : DataW.Whole enc Tryd.prog Tryd.f3.params.toList [] false (w.forCall tape i) i.args.toList ds gs before := DataW.Whole.of_heap (w' := w.forCall tape i) (by rfl) hw
  have hL : laidMetH Tryd.prog Rows.sandSettlesRow.laid (w.forCall tape i) := hL0.of_heap (by rfl)
  obtain ⟨W0, hW0⟩ : ∃ W0, w.forCall tape i = W0 := ⟨_, rfl⟩
  have hval0 : ∀ (j : Nat) t v, Tryd.f3.params[j]? = some t → i.args[j]? = some v → Value.okWide Tryd.prog (w.forCall tape i) .any w.heap.size t v := hval00
  rw [hW0] at hW hL hval0 ⊢
  obtain ⟨args, hargs⟩ : ∃ args, i.args = args := ⟨_, rfl⟩
  rw [hargs] at hW hval0 ⊢
  clear hw hL0 hval00 hW0 hargs
  have hval := hval0
  have hW' := hW
  obtain ⟨p, q, hA0, hV0, rfl, hfz, hnd⟩ := hW
  have hA : DataW.TrodAll enc Tryd.prog W0 0 (fun _ => true) true Tryd.f3.params.toList args.toList ds p := hA0
  have hV : DataW.TrodVars enc Tryd.prog W0 (fun _ => true) [] gs q := hV0
  rw [Tryd.params3] at hA hval
  obtain ⟨v0, v1, v2, v3, v4, d0, d1, d2, d3, d4, p0, p1, p2, p3, p4, rfl, rfl, rfl, h0, h1, h2, h3, h4⟩ := trodAll_fiveR hA
  have hlt := DataW.TrodAll.lt hA
  have hlt0 : ∀ x ∈ p0, x.block < W0.heap.size := fun x hx => hlt x (List.mem_append_left _ hx)
  have hlt2 : ∀ x ∈ p2, x.block < W0.heap.size := fun x hx => hlt x (List.mem_append_right _ (List.mem_append_right _ (List.mem_append_left _ hx)))
  have hlt3 : ∀ x ∈ p3, x.block < W0.heap.size := fun x hx => hlt x (List.mem_append_right _ (List.mem_append_right _ (List.mem_append_right _ (List.mem_append_left _ hx))))
  obtain ⟨P, xs, ea, ec, rfl, hE⟩ := open_graph (hval 0 24 v0 rfl rfl) h0
  obtain ⟨s, rfl, rfl, rfl, hs⟩ := open_int Tryd.underlying3 (hval 1 3 v1 rfl rfl) h1
  obtain ⟨cs, ca, cc, rfl, hC, -, -⟩ := open_listR (hval 2 25 v2 rfl rfl) h2
  obtain ⟨os', oa, oc, rfl, hO, hoc, hom⟩ := open_listR (hval 3 25 v3 rfl rfl) h3
  obtain ⟨wk, rfl, rfl, rfl, hwk⟩ := open_int Tryd.underlying3 (hval 4 3 v4 rfl rfl) h4
  have hg : Handle W0 := handle_laid (show laidMet Tryd.prog [] W0 ∧ handlesMet Tryd.prog [("errors.errorType", Rows.laid_errors_errorType)] W0 from hL).2
  obtain ⟨rfl, rfl⟩ : gs = [] ∧ q = [] := by
    cases gs with
    | nil => exact ⟨rfl, hV⟩
    | cons g r => exact absurd hV (by intro h; cases h)
  have e1 : Rows.sandSettlesSpec.fn H ([d0, .lit (.int .i64 s), d2, d3, .lit (.int .i64 wk)] ++ []) = { results := [.lit (.bool true)], args := [d0, .lit (.int .i64 s), d2, d3, .lit (.int .i64 wk)] } := by simp [Rows.sandSettlesSpec]
  refine enter_ss hE hC hO hg fun V hb => ?_
  refine ChangeSpec.post_blind ?_
  refine ⟨_, _, _, [], p0 ++ ([] ++ (p2 ++ (p3 ++ ([] ++ [])))), [], hW', ?_, ?_, ?_, hb.frame _, fun h => by cases h⟩
  · rw [e1]; exact trodAll_mk1 (shut_bool Tryd.underlying4 true)
  · rw [e1]; exact trodAll_cons_mk (Below.trod laidOutP (by kernel_rfl) (of_decide_eq_true (by kernel_rfl)) h0 hb hlt0) (trodAll_cons_mk (shut_int Tryd.underlying3 hs) (trodAll_cons_mk (Below.trod laidOutP (by kernel_rfl) (of_decide_eq_true (by kernel_rfl)) h2 hb hlt2) (trodAll_cons_mk (Below.trod laidOutP (by kernel_rfl) (of_decide_eq_true (by kernel_rfl)) h3 hb hlt3) (trodAll_cons_mk (shut_int Tryd.underlying3 hwk) trodAll_mk0))))
  · rw [e1]; rfl

theorem sandSettles_row : Rows.SandSettlesSaid :=
  OpenClaim.holds_of_wide_leaving 3 Tryd.f3 rfl rfl rfl rfl rfl rfl rfl ⟨rfl, rfl, rfl, rfl, rfl⟩ rfl rfl rfl rfl rfl (by kernel_rfl) Tryd.func3 (by kernel_rfl)
    (of_decide_eq_true (by kernel_rfl)) (by unfold Func.isWrapper; rw [if_neg (of_decide_eq_false (by kernel_rfl))]; exact ⟨rfl, rfl⟩)
    (fun os started H enc _ => sandSettles_lifted os started H enc)

theorem sandSettles_looks (f : FuncId) (fn : Func) (hf : Tryd.prog.funcNamed "eden/edenlaw5.SandSettles" = some f) (hfn : Tryd.prog.funcs[f]? = some fn) :
    true = Tryd.prog.looks [] ∧ ∀ (j : Nat) t, fn.params[j]? = some t → Tryd.prog.wantsStandIn t = false := by
  obtain rfl : f = 3 := Option.some.inj ((show Tryd.prog.funcNamed "eden/edenlaw5.SandSettles" = some 3 by kernel_rfl).symm.trans hf) |>.symm
  obtain rfl : fn = Tryd.f3 := (Option.some.inj (Tryd.func3.symm.trans hfn)).symm
  exact ⟨by kernel_rfl, fun j t ht => by
    rw [Tryd.params3] at ht
    have h9 : t = 24 ∨ t = 3 ∨ t = 25 := by
      rcases j with _ | _ | _ | _ | _ | j
      · left; simpa using ht.symm
      · right; left; simpa using ht.symm
      · right; right; simpa using ht.symm
      · right; right; simpa using ht.symm
      · right; left; simpa using ht.symm
      · simp at ht
    rcases h9 with rfl | rfl | rfl
    · exact (show Tryd.prog.wantsStandIn 24 = false by kernel_rfl)
    · exact (show Tryd.prog.wantsStandIn 3 = false by kernel_rfl)
    · exact (show Tryd.prog.wantsStandIn 25 = false by kernel_rfl)⟩

theorem sandSettles_holds : Rows.SandSettlesCardSaid :=
  ⟨Claim7.tied_new_at .later [.handle] true (Claim7.new_of_sixth sandSettles_row Rows.sandSettlesCard.stood.harness true rfl ⟨rfl, rfl⟩ (by kernel_rfl) rfl sandSettles_looks) (by kernel_rfl),
    (fun _ h => by cases h), sandSettles_row_tie, (fun h => by cases h), (by kernel_rfl)⟩
#print axioms sandSettles_holds
end Go.Proofs.YtpajdmhgonmgoaaDoor

