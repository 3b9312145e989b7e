/-
  What the last text of this claim leans on, part 28: Kd5, Kd7, Kd8.
-/
import Derived.Test.YtpajdmhgonmgoaaDoorYt27
import Derived.Test.YtpajdmhgonmgoaaDoorYt11
import Derived.Test.YtpajdmhgonmgoaaDoorYt15
import Derived.Conc.AtomicLaws2
namespace Go.Proofs.YtpajdmhgonmgoaaDoor
open Go.RowKit
set_option linter.unusedVariables false
open Go.Conc Go.ConcN Go.RowKit Go.Conc.Lib Go.ConcR.Gen
open Go.ConcR (KK wgBlock WgAt stA smA rd wr Payload DC0)
set_option linter.unusedSimpArgs false
theorem evL_rd {Shun : Loc → Prop} {B : Nat} {a : Addr} (h : a.block < B) : EvL Shun B (rd a) := by
  refine ⟨fun x hx hs => ?_, by simp [rd], by simp [rd], h⟩
  simp only [rd, MemAct.ofEvent, MemAct.touch?, Option.some.injEq] at hx
  subst hx
  simp [rd]
set_option maxRecDepth 100000 in
set_option maxHeartbeats 1600000 in
/-- An atomic load. -/
theorem gload_x {Shun : Loc → Prop} {B : Nat} {S : Goroutine → World → Prop} {fb : Frame} {a : Act} {k : List Item} {cs : List Frame} {ops : Array Oper} {i : Nat} {rest : List Nat} {o : Oper} {x : Operand} {ats : Array TypeId} {ad : Addr} {v : Int} {w0 : World}
    (ho : ops[i]? = some o) (hw : Region.wanted o (yielded ops a.tmps) = true) (hk : fb.kind ≠ .early) (hop : o.op = .call { callee := .value (.func 42), args := #[x], argTypes := ats }) (hx : a.eval x = .pointer (some ad)) (hsp : ad.spot = none) (hv : w0.cell? ad = some (.int .i64 v)) (hB : ad.block < B) {M : Nat}
    (hn : Gp Tryd.prog (EvL Shun B) S M (G (fb.at (a.put o.dst (.int .i64 v)) (.inRegion ops rest :: k)) cs) (AtRel w0)) : Gp Tryd.prog (EvL Shun B) S (M + 20) (G (fb.at a (.inRegion ops (i :: rest) :: k)) cs) (AtRel w0) := by
  have hc := atRel_c
  have ha0 := addr_add0 ad hsp
  refine gp_call (hc _) ho hw hk hop Tryd.func42 rfl rfl ?_
  simp only [List.map_toArray, List.map_cons, List.map_nil, hx, Tryd.f42]
  walk_nrm
  refine gp_seq (hc _) ?_
  refine gp_region (hc _) ?_
  try simp only [List.size_toArray, List.length_cons, List.length_nil, Nat.reduceAdd, Nat.zero_add, List.range, List.range.loop]
  refine gp_opk (hc _) rfl rfl (by k_ne) (fun w hF K' hK => ?_)
  go_simp
  with_reducible refine hK _ (fun e' he => ?_) ?_
  · (clear hK; simp [go_sem, *] at he)
  clear hK K' hF
  clear w
  try walk_nrm
  refine gp_done (hc _) ?_
  refine gp_seq (hc _) ?_
  refine gp_region (hc _) ?_
  try simp only [List.size_toArray, List.length_cons, List.length_nil, Nat.reduceAdd, Nat.zero_add, List.range, List.range.loop]
  refine gp_opk (hc _) rfl rfl (by k_ne) (fun w hF K' hK => ?_)
  go_simp
  with_reducible refine hK _ (fun e' he => ?_) ?_
  · (clear hK; simp [go_sem, *] at he)
  clear hK K' hF
  clear w
  try walk_nrm
  refine gp_opk (hc _) rfl rfl (by k_ne) (fun w hF K' hK => ?_)
  go_simp
  with_reducible refine hK _ (fun e' he => ?_) ?_
  · (clear hK; simp [go_sem, *] at he)
  clear hK K' hF
  clear w
  try walk_nrm
  refine gp_opk (hc _) rfl rfl (by k_ne) (fun w hF K' hK => ?_)
  go_simp
  with_reducible refine hK _ (fun e' he => ?_) ?_
  · (clear hK; simp [go_sem, *] at he)
  clear hK K' hF
  clear w
  try walk_nrm
  refine gp_step (hc _) (F' := AtRel w0) rfl (fun w hF => ⟨w, #[rd ad], stepG_load_atomic rfl rfl (by k_ne) rfl Tryd.func69 rfl rfl rfl .i64 rfl (by simp [Act.eval, ha0]) (by obtain ⟨d, rfl⟩ := hF; exact hv), fun e he => by rw [Array.mem_singleton] at he; subst he; exact evL_rd hB, hF⟩) ?_
  walk_nrm
  refine gp_opk (hc _) rfl rfl (by k_ne) (fun w hF K' hK => ?_)
  go_simp
  with_reducible refine hK _ (fun e' he => ?_) ?_
  · (clear hK; simp [go_sem, *] at he)
  clear hK K' hF
  clear w
  try walk_nrm
  refine gp_done (hc _) ?_
  refine gp_ret (hc _) ?_
  refine gp_leave1 (hc _) rfl rfl Tryd.func42 rfl ?_
  try walk_nrm
  rw [ho]
  exact Gp.mono hn (by omega)
theorem array38 (T : Array Value) (h : T.size = 38) : ∃ v0 v1 v2 v3 v4 v5 v6 v7 v8 v9 v10 v11 v12 v13 v14 v15 v16 v17 v18 v19 v20 v21 v22 v23 v24 v25 v26 v27 v28 v29 v30 v31 v32 v33 v34 v35 v36 v37 : Value, T = #[v0, v1, v2, v3, v4, v5, v6, v7, v8, v9, v10, v11, v12, v13, v14, v15, v16, v17, v18, v19, v20, v21, v22, v23, v24, v25, v26, v27, v28, v29, v30, v31, v32, v33, v34, v35, v36, v37] := by
  obtain ⟨l⟩ := T
  simp only [List.size_toArray] at h
  rcases l with _ | ⟨v0, l⟩
  · simp at h
  rcases l with _ | ⟨v1, l⟩
  · simp at h
  rcases l with _ | ⟨v2, l⟩
  · simp at h
  rcases l with _ | ⟨v3, l⟩
  · simp at h
  rcases l with _ | ⟨v4, l⟩
  · simp at h
  rcases l with _ | ⟨v5, l⟩
  · simp at h
  rcases l with _ | ⟨v6, l⟩
  · simp at h
  rcases l with _ | ⟨v7, l⟩
  · simp at h
  rcases l with _ | ⟨v8, l⟩
  · simp at h
  rcases l with _ | ⟨v9, l⟩
  · simp at h
  rcases l with _ | ⟨v10, l⟩
  · simp at h
  rcases l with _ | ⟨v11, l⟩
  · simp at h
  rcases l with _ | ⟨v12, l⟩
  · simp at h
  rcases l with _ | ⟨v13, l⟩
  · simp at h
  rcases l with _ | ⟨v14, l⟩
  · simp at h
  rcases l with _ | ⟨v15, l⟩
  · simp at h
  rcases l with _ | ⟨v16, l⟩
  · simp at h
  rcases l with _ | ⟨v17, l⟩
  · simp at h
  rcases l with _ | ⟨v18, l⟩
  · simp at h
  rcases l with _ | ⟨v19, l⟩
  · simp at h
  rcases l with _ | ⟨v20, l⟩
  · simp at h
  rcases l with _ | ⟨v21, l⟩
  · simp at h
  rcases l with _ | ⟨v22, l⟩
  · simp at h
  rcases l with _ | ⟨v23, l⟩
  · simp at h
  rcases l with _ | ⟨v24, l⟩
  · simp at h
  rcases l with _ | ⟨v25, l⟩
  · simp at h
  rcases l with _ | ⟨v26, l⟩
  · simp at h
  rcases l with _ | ⟨v27, l⟩
  · simp at h
  rcases l with _ | ⟨v28, l⟩
  · simp at h
  rcases l with _ | ⟨v29, l⟩
  · simp at h
  rcases l with _ | ⟨v30, l⟩
  · simp at h
  rcases l with _ | ⟨v31, l⟩
  · simp at h
  rcases l with _ | ⟨v32, l⟩
  · simp at h
  rcases l with _ | ⟨v33, l⟩
  · simp at h
  rcases l with _ | ⟨v34, l⟩
  · simp at h
  rcases l with _ | ⟨v35, l⟩
  · simp at h
  rcases l with _ | ⟨v36, l⟩
  · simp at h
  rcases l with _ | ⟨v37, l⟩
  · simp at h
  rcases l with _ | ⟨v38, l⟩
  · exact ⟨v0, v1, v2, v3, v4, v5, v6, v7, v8, v9, v10, v11, v12, v13, v14, v15, v16, v17, v18, v19, v20, v21, v22, v23, v24, v25, v26, v27, v28, v29, v30, v31, v32, v33, v34, v35, v36, v37, rfl⟩
  · simp at h
set_option maxRecDepth 100000 in
set_option maxHeartbeats 1600000 in
/-- A round that has waited tells whether any toppled. -/
theorem end_x {Shun : Loc → Prop} {B N : Nat} {fr : Frame} (hf : IsRdE N fr) {v : Int} {w0 : World} (hv : w0.cell? ⟨N + 3, 0, none⟩ = some (.int .i64 v)) (hB : N + 3 < B) {b₀ : Frame} {a₀ : Act} {ops₀ : Array Oper} {i₀ : Nat} {rest₀ : List Nat} {k₀ : List Item} {cs : List Frame} :
    Gp Tryd.prog (EvL Shun B) (fun g w => AtRel w0 w ∧ g = G (b₀.at (a₀.put ((ops₀[i₀]?).bind (·.dst)) (.bool (decide (0 < v)))) (.inRegion ops₀ rest₀ :: k₀)) cs) 60 (G fr (b₀.at a₀ (.inRegion ops₀ (i₀ :: rest₀) :: k₀) :: cs)) (AtRel w0) := by
  have hc := atRel_c
  obtain ⟨T, hT, rfl⟩ := hf
  obtain ⟨h1, h2⟩ := hT
  obtain ⟨v0, v1, v2, v3, v4, v5, v6, v7, v8, v9, v10, v11, v12, v13, v14, v15, v16, v17, v18, v19, v20, v21, v22, v23, v24, v25, v26, v27, v28, v29, v30, v31, v32, v33, v34, v35, v36, v37, rfl⟩ := array38 T h1
  simp only [List.getElem?_toArray, List.getElem?_cons_succ, List.getElem?_cons_zero, Option.some.injEq] at h2
  subst h2
  clear h1
  simp only [cO, cL, cR, bodyOf, Tryd.f23, Option.getD_some]
  refine gp_seq (hc _) ?_
  refine gp_region (hc _) ?_
  try simp only [List.size_toArray, List.length_cons, List.length_nil, Nat.reduceAdd, Nat.zero_add, List.range, List.range.loop]
  refine Gp.mono (gload_x (v := v) (ad := ⟨N + 3, 0, none⟩) (M := 20) rfl rfl (by k_ne) rfl (by simp [Act.eval]) rfl hv hB ?_) (by omega)
  walk_nrm
  refine gp_opk (hc _) rfl rfl (by k_ne) (fun w hF K' hK => ?_)
  go_simp
  with_reducible refine hK _ (fun e' he => ?_) ?_
  · (clear hK; simp [go_sem, *] at he)
  clear hK K' hF
  clear w
  try walk_nrm
  refine gp_opk (hc _) rfl rfl (by k_ne) (fun w hF K' hK => ?_)
  go_simp
  with_reducible refine hK _ (fun e' he => ?_) ?_
  · (clear hK; simp [go_sem, *] at he)
  clear hK K' hF
  clear w
  try walk_nrm
  refine gp_done (hc _) ?_
  refine gp_ret (hc _) ?_
  refine gp_leave1 (hc _) rfl rfl Tryd.func23 rfl ?_
  try walk_nrm
  exact Gp.stop (hc _) (fun w hF => ⟨hF, rfl⟩)
end Go.Proofs.YtpajdmhgonmgoaaDoor

namespace Go.Proofs.YtpajdmhgonmgoaaDoor
open Go.RowKit
set_option linter.unusedVariables false
open Go.Conc Go.RowKit
set_option linter.unusedSimpArgs false
def onL (L : Nat → Bool) (i : Nat) : Nat → Bool := fun j => if j = i then true else L j
set_option maxHeartbeats 1600000 in
theorem gp_draw {P : Program} {E : Event → Prop} {S : Goroutine → World → Prop} {b : Frame} {k : List Item} {cs : List Frame} {id : Nat} (hm : P.follows .mixedOrders = true) (ops : Array Oper) (n : Nat) (deps : List (Nat × Nat)) (Inv : (Nat → Bool) → Act → World → Prop) (c m : Nat) {a0 : Act}
    (hn : ops.size = n)
    (E1 : ((List.range n).all fun k => ((ops[k]?).map fun o => o.after.all fun e => !Region.binds .any e || decide (e.on < k)).getD false) = true)
    (E2 : (deps.all fun (x : Nat × Nat) => ((ops[x.1]?).map fun o => o.after.any fun e => Region.binds .any e && e.on == x.2).getD false) = true)
    (hat : ∀ L a, AtC (Inv L a))
    (hstep : ∀ i o L a, i < n → ops[i]? = some o → L i = false → (∀ p q, (p, q) ∈ deps → L p = true → L q = true) → (∀ j, (i, j) ∈ deps → L j = true) → ∀ rest M, (∀ a', Gp P E S M (G (b.at a' (.inRegion ops rest :: k)) cs) (Inv (onL L i) a')) → Gp P E S (M + c) (G (b.at a (.inRegion ops (i :: rest) :: k)) cs) (Inv L a))
    (hend : ∀ L a, (∀ i, i < n → L i = true) → Gp P E S m (G (b.at a k) cs) (Inv L a)) :
    Gp P E S (m + 1 + c * n + 1) (G (b.at a0 (.code (.region id ops true) :: k)) cs) (Inv (fun _ => false) a0) := by
  have ends : ∀ (l : Array Bool) (a : Act) (M : Nat), (∀ k, k < n → l.getD k false = true) → m + 1 ≤ M → Gp P E S M (G (b.at a (.inRegion ops [] :: k)) cs) (Inv (fun j => l.getD j false) a) :=
    fun l a M hall hM => Gp.mono (gp_done (hat _ _) (hend _ a hall)) hM
  have main1 : ∀ (fuel : Nat) (l : Array Bool) (a : Act), l.toList.count false ≤ fuel → l.size = n → (∀ i j, (i, j) ∈ deps → l.getD i false = true → l.getD j false = true) → ∀ t, Gp P E S (m + 1 + c * fuel) (G (b.at a (.inRegion ops (Region.linearise.go .any ops fuel t l []) :: k)) cs) (Inv (fun j => l.getD j false) a) := by
    intro fuel
    induction fuel with
    | zero =>
      intro l a hc lsz cl t
      have hall : ∀ k, k < n → l.getD k false = true := fun k hk => by
        have kl : k < l.size := by rw [lsz]; exact hk
        cases hv : l[k] with
        | true => simp [Array.getD_eq_getD_getElem?, kl, hv]
        | false =>
          have : 0 < l.toList.count false := List.count_pos_iff.2 (Array.mem_toList_iff.2 (by rw [← hv]; exact Array.getElem_mem kl))
          omega
      exact ends l a _ hall (by omega)
    | succ fuel ih =>
      intro l a hc lsz cl t
      simp only [Region.linearise.go]
      change Gp P E S (m + 1 + c * (fuel + 1)) (G (b.at a (.inRegion ops (match (Region.ready .any ops l)[t % (Region.ready .any ops l).length]? with
        | some i => Region.linearise.go .any ops fuel (t / (Region.ready .any ops l).length) (l.setIfInBounds i true) [i]
        | none => [].reverse) :: k)) cs) _
      cases hi : (Region.ready .any ops l)[t % (Region.ready .any ops l).length]? with
      | none =>
        have hnil : Region.ready .any ops l = [] := by
          cases hr : Region.ready .any ops l with
          | nil => rfl
          | cons x xs =>
            rw [hr] at hi
            have hlt : t % (x :: xs).length < (x :: xs).length := Nat.mod_lt _ (by simp)
            rw [List.getElem?_eq_getElem hlt] at hi
            cases hi
        have hall : ∀ k, k < n → l.getD k false = true := fun k hk => by
          have h1 := ready_noneE hnil (by rw [lsz, hn]) (fun k hk => (List.all_eq_true.1 E1) k (List.mem_range.2 (by omega))) k (by omega)
          have kl : k < l.size := by rw [lsz]; exact hk
          simpa [Array.getD_eq_getD_getElem?, kl] using h1
        exact ends l a _ hall (by omega)
      | some i =>
        have hr := List.mem_of_getElem? hi
        simp only []
        rw [linearise_go_acc, List.reverse_singleton, List.singleton_append]
        obtain ⟨hlt, o, ho, _⟩ := mem_ready.1 hr
        have hin : i < n := by
          rcases Nat.lt_or_ge i n with h | h
          · exact h
          · rw [Array.getElem?_eq_none (by omega)] at ho; cases ho
        have il : i < l.size := by rw [lsz]; exact hin
        have lf : l.getD i false = false := by
          have h2 : l[i]? = some l[i] := by simp [il]
          simp only [Array.getD_eq_getD_getElem?, h2, Option.getD_some] at hlt ⊢
          exact hlt
        have cl' := clV_step il hr cl E2
        have need : ∀ j, (i, j) ∈ deps → l.getD j false = true := fun j mm => ready_needs hr ((List.all_eq_true.1 E2) (i, j) mm)
        have ls' : (l.setIfInBounds i true).size = n := by simp [lsz]
        have gs := fun j => getD_set l i j il
        have eL : (fun j => (l.setIfInBounds i true).getD j false) = onL (fun j => l.getD j false) i := by
          funext j
          rw [gs j]
          unfold onL
          rfl
        have cnt : (l.setIfInBounds i true).toList.count false ≤ fuel := by
          have : (l.setIfInBounds i true).toList.count false + 1 = l.toList.count false := by
            rw [Array.toList_setIfInBounds]
            apply count_set_lt
            cases hq : l[i]? with
            | none => rw [Array.getElem?_eq_getElem il] at hq; cases hq
            | some bb =>
              simp [Array.getD_eq_getD_getElem?, hq] at lf
              subst lf
              simpa using hq
          omega
        have e2 : m + 1 + c * (fuel + 1) = (m + 1 + c * fuel) + c := by rw [Nat.mul_add]; omega
        rw [e2]
        refine hstep i o (fun j => l.getD j false) a hin ho lf cl need _ _ fun a' => ?_
        have := ih (l.setIfInBounds i true) a' cnt ls' cl' (t / (Region.ready .any ops l).length)
        rw [eL] at this
        exact this
  refine fun w hw => Goes.step rfl fun w₁ h₁ => ?_
  obtain ⟨d, rfl⟩ := h₁
  rw [stepG_region_draw]
  refine ⟨fun e he => by simp at he, ?_⟩
  have e3 : Region.schedule (P.follows .mixedOrders) ops ((w.at d).tape (w.at d).drawn (.order b.fn id)) = Region.linearise.go .any ops ops.size ((w.at d).tape (w.at d).drawn (.order b.fn id)) (Array.replicate ops.size false) [] := by
    rw [hm]; rfl
  rw [e3, hn]
  have h4 := main1 ops.size (Array.replicate ops.size false) a0 (by simp) (by simp [hn]) (fun i j _ h => by
    exfalso
    rw [Array.getD_eq_getD_getElem?] at h
    cases hq : (Array.replicate ops.size false)[i]? with
    | none => rw [hq] at h; cases h
    | some bb =>
      rw [hq] at h
      have := (Array.getElem?_eq_some_iff.1 hq)
      obtain ⟨h1, h2⟩ := this
      simp at h2
      subst h2
      cases h) ((w.at d).tape (w.at d).drawn (.order b.fn id))
  have e5 : (fun j => (Array.replicate ops.size false).getD j false) = fun _ => false := by
    funext j
    rw [Array.getD_eq_getD_getElem?]
    cases hq : (Array.replicate ops.size false)[j]? with
    | none => rfl
    | some bb =>
      obtain ⟨h1, h2⟩ := Array.getElem?_eq_some_iff.1 hq
      simp at h2
      subst h2
      rfl
  rw [e5, hn] at h4
  exact h4 _ (hat _ _ _ _ (hat _ _ _ _ hw))
end Go.Proofs.YtpajdmhgonmgoaaDoor

namespace Go.Proofs.YtpajdmhgonmgoaaDoor
open Go.RowKit
set_option linter.unusedVariables false
open Go.Conc Go.RowKit
set_option linter.unusedSimpArgs false
structure JS {σ : Type} (dl : List (Option Nat)) (V : Nat → σ → Value) (a0 : Act) (L : Nat → Bool) (a : Act) (s : σ) : Prop where
  sz : a.tmps.size = a0.tmps.size
  df : a.defers = a0.defers
  keep : ∀ t, some t ∉ dl → a.tmps[t]? = a0.tmps[t]?
  vs : ∀ i t : Nat, L i = true → dl[i]? = some (some t) → a.tmps[t]? = some (V i s)
set_option maxHeartbeats 1600000 in
theorem gp_drawS {σ : Type} {P : Program} {E : Event → Prop} {S : Goroutine → World → Prop} {b : Frame} {k : List Item} {cs : List Frame} {id : Nat} (hm : P.follows .mixedOrders = true) (ops : Array Oper) (n : Nat) (dl : List (Option Nat)) (deps : List (Nat × Nat)) (J : (Nat → Bool) → σ → World → Prop) (V : Nat → σ → Value) (c m : Nat) {a0 : Act}
    (hn : ops.size = n) (hl : dl.length = n) (nd : ∀ (i j t : Nat), dl[i]? = some (some t) → dl[j]? = some (some t) → j = i) (hz : ∀ t, some t ∈ dl → t < a0.tmps.size)
    (hd : ops.toList.map (·.dst) = dl)
    (E1 : ((List.range n).all fun k => ((ops[k]?).map fun o => o.after.all fun e => !Region.binds .any e || decide (e.on < k)).getD false) = true)
    (E2 : (deps.all fun (x : Nat × Nat) => ((ops[x.1]?).map fun o => o.after.any fun e => Region.binds .any e && e.on == x.2).getD false) = true)
    (hat : ∀ L s, AtC (J L s))
    (hop : ∀ i o L s (a : Act), i < n → ops[i]? = some o → L i = false → (∀ p q, (p, q) ∈ deps → L p = true → L q = true) → (∀ j, (i, j) ∈ deps → L j = true) → (∀ t, some t ∉ dl → a.tmps[t]? = a0.tmps[t]?) → (∀ j t : Nat, (i, j) ∈ deps → dl[j]? = some (some t) → a.tmps[t]? = some (V j s)) → ∀ rest M, (∀ s', (∀ j, j < n → L j = true → V j s' = V j s) → Gp P E S M (G (b.at (a.put o.dst (V i s')) (.inRegion ops rest :: k)) cs) (J (onL L i) s')) → Gp P E S (M + c) (G (b.at a (.inRegion ops (i :: rest) :: k)) cs) (J L s))
    (hend : ∀ s L, (∀ i, i < n → L i = true) → Gp P E S m (G (b.at (putsO a0 ((List.range n).map fun i => (dl.getD i none, V i s))) k) cs) (J L s)) (s0 : σ) :
    Gp P E S (m + 1 + c * n + 1) (G (b.at a0 (.code (.region id ops true) :: k)) cs) (J (fun _ => false) s0) := by
  have ds : ∀ (i : Nat) (o : Oper), ops[i]? = some o → dl[i]? = some o.dst := fun i o h => by
    rw [← hd]
    simp only [List.getElem?_map, Array.getElem?_toList, h, Option.map_some]
  have hN := gp_draw (E := E) (S := S) (b := b) (k := k) (cs := cs) (id := id) hm ops n deps (fun L a w => ∃ s, J L s w ∧ JS dl V a0 L a s) c m (a0 := a0) hn E1 E2
    (fun L a w d ⟨s, h1, h2⟩ => ⟨s, hat L s w d h1, h2⟩)
    (fun i o L a hi ho lf cl need rest M h => fun w ⟨s, h1, h2⟩ => by
      have di := ds i o ho
      have dm : o.dst ∈ dl := List.mem_of_getElem? di
      refine hop i o L s a hi ho lf cl need h2.keep (fun j t hj ht => h2.vs j t (need j hj) ht) rest M (fun s' hs => ?_) w h1
      refine Gp.weak (h (a.put o.dst (V i s'))) fun w' hw' => ⟨s', hw', by rw [put_sizeE]; exact h2.sz, by rw [put_defersE]; exact h2.df, fun t ht => ?_, fun j t hl' hj => ?_⟩
      · rw [put_farO _ _ _ _ (fun e => ht (by rw [← e]; exact dm))]; exact h2.keep t ht
      · by_cases e : j = i
        · subst e
          rw [di] at hj
          injection hj with hj
          rw [hj, put_getE _ _ _ _ (by rw [h2.sz]; exact hz t (by rw [← hj]; exact dm))]
          simp
        · rw [put_farO _ _ _ _ (fun q => e (nd i j t (by rw [di, q]) hj))]
          unfold onL at hl'
          rw [if_neg e] at hl'
          rw [h2.vs j t hl' hj, hs j (by have := (List.getElem?_eq_some_iff.1 hj).1; omega) hl'])
    (fun L a hall => fun w ⟨s, h1, h2⟩ => by
      have e := act_putsO (a := a) (a0 := a0) (dl := dl) (vals := fun i => V i s) h2.sz h2.df hz nd h2.keep (fun i t hi => h2.vs i t (hall i (by have := (List.getElem?_eq_some_iff.1 hi).1; omega)) hi)
      rw [hl] at e
      rw [e]
      exact hend s L hall w h1)
  exact Gp.weak hN fun w hw => ⟨s0, hw, rfl, rfl, fun _ _ => rfl, fun _ _ h => by cases h⟩
end Go.Proofs.YtpajdmhgonmgoaaDoor

