/-
  What the last text of this claim leans on, part 16: LawA, ProofA.
-/
import Derived.Test.YtjngjnkecnnmeaaDoorJp14
import Derived.Test.YtjngjnkecnnmeaaDoorJp15
import Derived.Test.YtjngjnkecnnmeaaDoorRows
import Derived.Test.YtjngjnkecnnmeaaDoorCards
import Derived.Test.YtjngjnkecnnmeaaDoorTie
import Derived.ProofKit
import Derived.OpenShut
import Derived.ChangeSame
import Derived.ChangeVars
import Derived.JoinedOf
import Derived.RowKit
import Derived.RowKitTokens
import Derived.LaidLaws
import Derived.LaidHandle
import Derived.Stop.Joined
import Derived.SevenTiedAt
namespace Go.Proofs.YtjngjnkecnnmeaaDoor
open Go.RowKit
set_option linter.unusedVariables false

theorem Tab.below {w w' : World} {v : Value} {xs : List Int} (h : Tab w v xs) (hb : Below w.heap.size w w') : Tab w' v xs := by
  rcases h with h | ⟨g, cap, hv, hg, hc⟩
  · exact Or.inl h
  · exact Or.inr ⟨g, cap, hv, Nat.lt_of_lt_of_le hg hb.size, fun k hk => (World.cell?_of_block (w := w) (a := ⟨g, k, none⟩) (hb.block g hg)).trans (hc k hk)⟩

theorem table_len (s : ByteArray) (o : Out) (h : parseS s = .inl o) : o.table.length ≤ maxLen := by
  have H : ∀ p, kindS s = .inl (o, p) → o.table.length ≤ 1024 := by
    intro p hp
    unfold kindS at hp
    split at hp
    · cases hp
    split at hp
    · unfold lifeS at hp
      split at hp
      · cases hp
      split at hp
      · cases hp
      · injection hp with hp; injection hp with h1 h2; rw [← h1]; simp
    split at hp
    · unfold numberedS at hp
      split at hp
      · cases hp
      · injection hp with hp; injection hp with h1 h2; rw [← h1]; simp
    split at hp
    · rcases tabled_ways s with ⟨a, q⟩ | ⟨a, c, q⟩ | ⟨a, c, d, q⟩ | ⟨a, c, d, e, q⟩ | ⟨a, c, d, e, f, q⟩ | ⟨a, c, d, e, f, q⟩
      · rw [q] at hp; cases hp
      · rw [q] at hp; cases hp
      · rw [q] at hp; cases hp
      · rw [q] at hp; cases hp
      · rw [q] at hp; cases hp
      · rw [q] at hp
        unfold tabEnd at hp
        split at hp
        · cases hp
        · injection hp with hp; injection hp with h1 h2
          rw [← h1]
          have n1 := num_le s 2 2 4 c
          have n2 := num_le s _ 0 2 e
          have := (powS_small _ _ n1.2 n1.1 n2.1).2
          simpa using this
    split at hp
    · unfold antS at hp
      split at hp
      · cases hp
      split at hp
      · cases hp
      · injection hp with hp; injection hp with h1 h2; rw [← h1]; simp
    · cases hp
  unfold parseS at h
  split at h
  · cases h
  · rename_i o' p' hk
    split at h
    · injection h with h1
      subst h1
      have := H _ hk
      unfold maxLen; omega
    · cases h

def noRule : Out := ⟨0, 0, 0, 0, 0, [], ⟨#[]⟩⟩
theorem noRule_val : noRule.val (.slice none 0 0) = .agg zeroCells := rfl

set_option maxHeartbeats 1600000 in
theorem law_parses_ok (s : ByteArray) (w : World) (hs : s.size ≤ maxLen) (hg : Handle w) (o : Out) (hx : parseS s = .inl o) :
    Calls Tryd.prog 3 #[.string s] w fun e w' => e = .returned (.bool true) ∧ Below w.heap.size w w' := by
  have HX := hide' hx
  have HL := hide' (table_len s o hx)
  clear hx
  go_enter Tryd.func3, Tryd.ntmps3
  go_wp2_with fail
  refine (parse_ok s _ hs o HX.out).mono ?_
  rintro e w1 ⟨v1, rfl, t1, f1, b1⟩
  obtain ⟨a1, m1, c1, rfl⟩ := t1.slice
  have T1 := hide' t1
  have B1 := hide' b1
  clear t1 f1 b1
  unfold Out.val
  go_wp2_with fail
  refine (ref_any s _ hs).mono ?_
  rw [HX.out]
  rintro e w2 ⟨v2, rfl, t2, b2⟩
  obtain ⟨a2, m2, c2, rfl⟩ := t2.slice
  have T2 := hide' t2
  have B2 := hide' b2
  have x0 := b2.cell (p := ⟨w1.heap.size, 0, none⟩) (by simp)
  have x1 := b2.cell (p := ⟨w1.heap.size, 1, none⟩) (by simp)
  have x2 := b2.cell (p := ⟨w1.heap.size, 2, none⟩) (by simp)
  have x3 := b2.cell (p := ⟨w1.heap.size, 3, none⟩) (by simp)
  have x4 := b2.cell (p := ⟨w1.heap.size, 4, none⟩) (by simp)
  have x5 := b2.cell (p := ⟨w1.heap.size, 5, none⟩) (by simp)
  have x6 := b2.cell (p := ⟨w1.heap.size, 6, none⟩) (by simp)
  simp at x0 x1 x2 x3 x4 x5 x6
  have hz : w1.heap.size < w2.heap.size := by have := b2.size; simp at this; omega
  have TA := hide' (show Tab (w2.alloc (.cells #[.int .i64 o.kind, .int .i64 o.born, .int .i64 o.stay, .int .i64 o.states, .int .i64 o.radius, .slice a2 m2 c2, .string o.turns] 24)) (.slice a1 m1 c1) o.table from ((T1.out.alloc' _).below b2).alloc' _)
  have TB := hide' (show Tab (w2.alloc (.cells #[.int .i64 o.kind, .int .i64 o.born, .int .i64 o.stay, .int .i64 o.states, .int .i64 o.radius, .slice a2 m2 c2, .string o.turns] 24)) (.slice a2 m2 c2) o.table from t2.alloc' _)
  clear t2 b2
  unfold Out.val
  go_wp2_with fail
  refine (Same_same o (.slice a1 m1 c1) (.slice a2 m2 c2) _ TA.out TB.out HL.out).mono ?_
  rintro e w3 ⟨rfl, b3⟩
  have B3 := hide' b3
  clear b3
  go_wp2_with fail
  refine (error_nil 0 _).mono ?_
  rintro e w4 ⟨rfl, rfl⟩
  go_wp2
  go_ret
  refine ⟨rfl, ?_⟩
  have q1 := B1.out
  have q2 := B2.out
  have q3 := B3.out
  have s1 := q1.size
  have s2 := q2.size
  simp at s2
  exact ((q1.alloc (by omega) _).trans (q2.mono (by simp; omega))).alloc (by omega) _ |>.trans (q3.mono (by simp; omega))

set_option maxHeartbeats 1600000 in
theorem law_parses_no (s : ByteArray) (w : World) (hs : s.size ≤ maxLen) (hg : Handle w) (a : Nat) (hx : parseS s = .inr a) :
    Calls Tryd.prog 3 #[.string s] w fun e w' => e = .returned (.bool true) ∧ Below w.heap.size w w' := by
  have HX := hide' hx
  have HG := hide' hg
  clear hx hg
  go_enter Tryd.func3, Tryd.ntmps3
  go_wp2_with fail
  refine (parse_no s _ hs a HX.out).mono ?_
  rintro e w1 ⟨rfl, b1⟩
  have B1 := hide' b1
  clear b1
  unfold zeroCells
  go_wp2_with fail
  refine (ref_any s _ hs).mono ?_
  rw [HX.out]
  rintro e w2 ⟨rfl, b2⟩
  have B2 := hide' b2
  have x0 := b2.cell (p := ⟨w1.heap.size, 0, none⟩) (by simp)
  have x1 := b2.cell (p := ⟨w1.heap.size, 1, none⟩) (by simp)
  have x2 := b2.cell (p := ⟨w1.heap.size, 2, none⟩) (by simp)
  have x3 := b2.cell (p := ⟨w1.heap.size, 3, none⟩) (by simp)
  have x4 := b2.cell (p := ⟨w1.heap.size, 4, none⟩) (by simp)
  have x5 := b2.cell (p := ⟨w1.heap.size, 5, none⟩) (by simp)
  have x6 := b2.cell (p := ⟨w1.heap.size, 6, none⟩) (by simp)
  simp at x0 x1 x2 x3 x4 x5 x6
  have hz : w1.heap.size < w2.heap.size := by have := b2.size; simp at this; omega
  have TA := hide' (show Tab (w2.alloc (.cells zeroCells 24)) (.slice none 0 0) noRule.table from Or.inl ⟨rfl, rfl⟩)
  clear b2
  unfold zeroCells
  go_wp2_with fail
  refine (Same_same noRule (.slice none 0 0) (.slice none 0 0) _ TA.out TA.out (by unfold noRule maxLen; simp)).mono ?_
  rintro e w3 ⟨rfl, b3⟩
  have B3 := hide' b3
  clear b3
  have q1 := B1.out
  have q2 := B2.out
  have q3 := B3.out
  have s1 := q1.size
  have s2 := q2.size
  simp at s2
  have Q := hide' (show Below w.heap.size w w3 from ((q1.alloc (by omega) _).trans (q2.mono (by simp; omega))).alloc (by omega) _ |>.trans (q3.mono (by simp; omega)))
  have GG := hide' (HG.out.below Q.out)
  clear q1 q2 q3 s1 s2
  go_wp2_with fail
  refine (error_errno 2 2 _ GG.out).mono ?_
  rintro e w4 ⟨rfl, b4⟩
  go_wp2
  go_ret
  refine ⟨rfl, Q.out.trans (b4.mono ?_)⟩
  exact Q.out.size

theorem law_parses (s : ByteArray) (w : World) (hs : s.size ≤ maxLen) (hg : Handle w) :
    Calls Tryd.prog 3 #[.string s] w fun e w' => e = .returned (.bool true) ∧ Below w.heap.size w w' := by
  cases hx : parseS s with
  | inl o => exact law_parses_ok s w hs hg o hx
  | inr a => exact law_parses_no s w hs hg a hx
end Go.Proofs.YtjngjnkecnnmeaaDoor

namespace Go.Proofs.YtjngjnkecnnmeaaDoor
open Go.ChangeShapes Go.WideShapes Go.ChangeAt Go.RowKit
open Go.ChangeMaps (setBlock shut_map_nil open_string shut_string keptBut_setBlock frozen?_setBlock heap_setBlock_same)
set_option linter.unusedVariables false

theorem own : ownKnob Tryd.prog.godebug = none := by kernel_rfl
theorem errorTypeAt : Tryd.prog.globalNamed "errors.errorType" = some 0 := by kernel_rfl
theorem rtypeAt : (Tryd.prog.cutTypes.find? (·.1 == "internal/reflectlite.rtype")).map (·.2) = some 178 := by kernel_rfl
theorem oneRow : ((List.range 231).filter fun t => Tryd.prog.rowNamed t [101, 114, 114, 111, 114]) = [26] := by kernel_rfl
theorem typesSize : Tryd.prog.types.size = 231 := by kernel_rfl

/-- What the condition on the listed variable gives a walk: its one cell. -/
theorem handle_of_laid {W : World} (h : handlesMet Tryd.prog [("errors.errorType", Rows.laid_errors_errorType)] W) : Handle W := by
  obtain ⟨name, u, ty, e1, e2, e3, e4, e5⟩ := h _ (List.mem_singleton.2 rfl)
  have en : name = [101, 114, 114, 111, 114] := (Option.some.inj e1).symm
  subst en
  obtain rfl := Option.some.inj (rtypeAt.symm.trans e2)
  have hm : ty ∈ (List.range 231).filter fun t => Tryd.prog.rowNamed t [101, 114, 114, 111, 114] := List.mem_filter.2 ⟨List.mem_range.2 (by rw [← typesSize]; exact e3), e4⟩
  rw [oneRow] at hm
  obtain rfl := List.mem_singleton.1 hm
  have hh : typeHandle Tryd.prog 26 = .pointer (some ⟨4, 26, none⟩) := by kernel_rfl
  rw [hh] at e5
  simpa [Handle] using World.var?_cell errorTypeAt e5 0

/-- The variable's cell laid. -/
def layBlock (o : Obj) : Obj := match o with
  | .cells _ t frozen => .cells #[.iface 178 (.agg #[.pointer (some ⟨4, 26, none⟩)])] t frozen
  | o => o
def layWorld (w : World) : World := { w with heap := w.heap.modify 0 layBlock }
theorem laidWorld_met (os : Os) (args : Array Value) : laidMetH Tryd.prog Rows.rulesParsesRow.laid ((layWorld (World.holding Tryd.prog os ⟨#[], #[], []⟩)).forCall (fun _ _ => 0) ⟨#[], args, []⟩).memory :=
  laidMetH_of_parts (laidMet_nil _ _) (by kernel_rfl)

set_option maxRecDepth 100000 in
theorem parses_lifted (os : Os) (started : os.Started) (H : Type) (enc : TypeId × Value → H) :
    ReturnsInHanded {} Tryd.checked os 3 .any (fun w args => (Rows.rulesParsesSpec.pre enc Tryd.prog Tryd.f3 [] false w args ∧ laidMetH Tryd.prog Rows.rulesParsesRow.laid w) ∧ sizedMet enc Tryd.prog Tryd.f3 (OpenSpec.ofChange Rows.rulesParsesSpec) false w args)
      (Rows.rulesParsesSpec.post enc Tryd.prog Tryd.f3 false true false false) := by
  refine returnsInHanded_of_change_and (C := Tryd.checked) (X := fun w _ => laidMetH Tryd.prog Rows.rulesParsesRow.laid w) (fun _ _ _ hh h => h.of_heap hh) own started (by kernel_rfl) Tryd.func3
    (ChangeSpec.witness_at (enc := enc) (C := Tryd.checked) (os := os) (X := fun w _ => laidMetH Tryd.prog Rows.rulesParsesRow.laid w) false (layWorld (World.holding Tryd.prog os ⟨#[], #[], []⟩)) #[.string ⟨#[]⟩] 8 rfl (by kernel_rfl) (by kernel_rfl) (by kernel_rfl) (by kernel_rfl) (by kernel_rfl) (laidWorld_met os _)) ?_
  intro W base args ds gs before hval0 hW _ _ hL _
  have hval : ∀ (j : Nat) t v, Tryd.f3.params[j]? = some t → args[j]? = some v → Value.okWide Tryd.prog W .any base t v := hval0
  have hW' := hW
  obtain ⟨p, q, hA0, hV0, rfl, hfz, hnd⟩ := hW
  have hA : DataW.TrodAll enc Tryd.prog W 0 (fun _ => true) true Tryd.f3.params.toList args.toList ds p := hA0
  have hV : DataW.TrodVars enc Tryd.prog W (fun _ => true) [] gs q := hV0
  rw [Tryd.params3] at hA hval
  obtain ⟨v0, d0, rfl, rfl, h0⟩ := trodAll_one hA
  obtain ⟨s, rfl, rfl, rfl, hs⟩ := open_string Tryd.underlying9 (hval 0 9 v0 rfl rfl) h0
  have hg : Handle W := handle_of_laid (show laidMet Tryd.prog [] W ∧ handlesMet Tryd.prog [("errors.errorType", Rows.laid_errors_errorType)] W from hL).2
  obtain ⟨rfl, rfl⟩ : gs = [] ∧ q = [] := by
    cases gs with
    | nil => exact ⟨rfl, hV⟩
    | cons g r => exact absurd hV (by intro h; cases h)
  have e1 : Rows.rulesParsesSpec.fn H ([.lit (.string s.data.toList)] ++ []) = { results := [.lit (.bool true)], args := [.lit (.string s.data.toList)] } := by simp [Rows.rulesParsesSpec]
  refine (law_parses s W hs hg).mono fun e W' ⟨he, hb⟩ => ?_
  subst he
  refine ⟨_, rfl, _, _, _, [], [], [], hW', ?_, ?_, ?_, hb.frame _, fun h => by cases h⟩
  · rw [e1]; exact trodAll_mk1 (shut_bool Tryd.underlying4 true)
  · rw [e1]; exact trodAll_mk1 (shut_string Tryd.underlying9 hs)
  · rw [e1]; rfl

theorem parses_row : Rows.RulesParsesSaid :=
  OpenClaim.holds_of_wide 3 Tryd.f3 rfl rfl rfl rfl rfl rfl rfl ⟨rfl, rfl, rfl, rfl, rfl⟩ rfl rfl rfl rfl rfl (by kernel_rfl) Tryd.func3 (by kernel_rfl)
    (of_decide_eq_true (by kernel_rfl)) (by unfold Func.isWrapper; rw [if_neg (of_decide_eq_false (by kernel_rfl))]; exact ⟨rfl, rfl⟩)
    (fun os started H enc _ => parses_lifted os started H enc)

theorem rulesParses_holds : Rows.RulesParsesCardSaid :=
  Claim7.holds_tied_plain_at .later [] [.handle] true Rows.rulesParsesCard.stood.harness true
    parses_row (fun _ h => by cases h) (by kernel_rfl) (fun _ h => by cases h) rulesParses_row_tie rfl ⟨rfl, rfl⟩ (by kernel_rfl) rfl
    (fun f fn hf hfn => by
      obtain rfl : f = 3 := Option.some.inj ((show Tryd.prog.funcNamed "eden/edenlaw1.RulesParses" = some 3 by kernel_rfl).symm.trans hf) |>.symm
      obtain rfl : fn = Tryd.f3 := (Option.some.inj (Tryd.func3.symm.trans hfn)).symm
      exact ⟨by kernel_rfl, fun j t ht => by
        rw [Tryd.params3] at ht
        have h9 : t = 9 := by
          rcases j with _ | j
          · simpa using ht.symm
          · simp at ht
        subst h9
        exact (show Tryd.prog.wantsStandIn 9 = false by kernel_rfl)⟩)
    (by kernel_rfl)
#print axioms rulesParses_holds
end Go.Proofs.YtjngjnkecnnmeaaDoor

