/-
  What the last text of this claim leans on, part 11: Rv0, Rv1, Hw1, Kb3, Kb4, Kb5.
-/
import Derived.Test.YtpajdmhgonmgoaaDoorYt10
import Derived.Test.YtpajdmhgonmgoaaDoorProg
import Derived.Conc.DeferLaws
import Derived.Conc.WgWords
import Derived.Conc.AtomicLaws2
namespace Go.Proofs.YtpajdmhgonmgoaaDoor
open Go.RowKit
set_option linter.unusedVariables false

theorem count_set_lt : ∀ (l : List Bool) (i : Nat), l[i]? = some false → (l.set i true).count false + 1 = l.count false
  | [], i, h => by simp at h
  | x :: l, 0, h => by simp at h; subst h; simp
  | x :: l, i + 1, h => by
    have := count_set_lt l i (by simpa using h)
    simp only [List.set_cons_succ, List.count_cons]
    omega
theorem wpAny_inv {P : Program} {ops : Array Oper} {Q : Exit → Act → World → Prop} {md : Region.Mode} (J : Array Bool → Act → World → Prop)
    (hstep : ∀ listed a w, J listed a w → ∀ i ∈ Region.ready md ops listed, wpOp P ops Q i (J (listed.setIfInBounds i true)) a w)
    (hend : ∀ listed a w, J listed a w → Region.ready md ops listed = [] → Q .normal a w) :
    ∀ (fuel : Nat) (listed : Array Bool) (a : Act) (w : World), listed.toList.count false ≤ fuel → J listed a w → wpAny P md ops Q fuel listed a w := by
  have dec : ∀ (listed : Array Bool) (i : Nat), i ∈ Region.ready md ops listed → (listed.setIfInBounds i true).toList.count false + 1 = listed.toList.count false := fun listed i hi => by
    have h := (mem_ready.1 hi).1
    rw [Array.toList_setIfInBounds]
    apply count_set_lt
    cases hq : listed[i]? with
    | none => simp [Array.getD_eq_getD_getElem?, hq] at h
    | some b => simp [Array.getD_eq_getD_getElem?, hq] at h; subst h; simpa using hq
  intro fuel
  induction fuel with
  | zero =>
    intro listed a w hl hJ
    have hr : Region.ready md ops listed = [] := by
      cases hr : Region.ready md ops listed with
      | nil => rfl
      | cons i rs => have := dec listed i (by rw [hr]; simp); omega
    exact ⟨hr, hend _ _ _ hJ hr⟩
  | succ fuel ih =>
    intro listed a w hl hJ
    refine ⟨hend _ _ _ hJ, fun i hi => ?_⟩
    exact wpOp_mono (fun a' w' h => ih _ a' w' (by have := dec listed i hi; omega) h) (hstep _ _ _ hJ i hi)
/-- An operation that bears no guard. -/
theorem wpOp_of {P : Program} {ops : Array Oper} {Q : Exit → Act → World → Prop} {i : Nat} {o : Oper} {K : Act → World → Prop} {a : Act} {w : World} (ho : ops[i]? = some o) (hg : o.guard = none) (h : o.wp P a w K Q) : wpOp P ops Q i K a w := by
  unfold wpOp
  rw [ho]
  dsimp only
  rw [if_pos (by unfold Region.wanted; rw [hg])]
  exact Or.inl h
theorem ready_needs {ops : Array Oper} {listed : Array Bool} {i j : Nat} (hi : i ∈ Region.ready .any ops listed) (h : ((ops[i]?).map fun o => o.after.any fun e => Region.binds .any e && e.on == j).getD false = true) : listed.getD j false = true := by
  obtain ⟨_, o, ho, he⟩ := mem_ready.1 hi
  rw [ho] at h
  simp only [Option.map_some, Option.getD_some, Array.any_eq_true] at h
  obtain ⟨n, hn, h⟩ := h
  rw [Bool.and_eq_true, beq_iff_eq] at h
  rw [← h.2]
  exact he _ (Array.getElem_mem hn) h.1
end Go.Proofs.YtpajdmhgonmgoaaDoor

namespace Go.Proofs.YtpajdmhgonmgoaaDoor
open Go.RowKit
set_option linter.unusedVariables false
theorem put_getE (a : Act) (t k : Nat) (v : Value) (ht : t < a.tmps.size) : (a.put (some t) v).tmps[k]? = if k = t then some v else a.tmps[k]? := by
  unfold Act.put
  dsimp only
  rw [Array.getElem?_setIfInBounds]
  by_cases h : t = k
  · subst h; rw [if_pos rfl, if_pos ht, if_pos rfl]
  · rw [if_neg h, if_neg (fun e => h e.symm)]
theorem eval_ofE {a : Act} {t : Nat} {v : Value} (h : a.tmps[t]? = some v) : a.eval (.tmp t) = v := by simp [Act.eval, h]
theorem put_sizeE (a : Act) (t : Option Nat) (v : Value) : (a.put t v).tmps.size = a.tmps.size := by cases t <;> simp [Act.put]
theorem put_defersE (a : Act) (t : Option Nat) (v : Value) : (a.put t v).defers = a.defers := by cases t <;> rfl
theorem getD_set (l : Array Bool) (i j : Nat) (hi : i < l.size) : (l.setIfInBounds i true).getD j false = if j = i then true else l.getD j false := by
  simp only [Array.getD_eq_getD_getElem?, Array.getElem?_setIfInBounds]
  by_cases h : i = j
  · subst h; simp [hi]
  · rw [if_neg h, if_neg (fun e => h e.symm)]
theorem ready_noneE {ops : Array Oper} {listed : Array Bool} (hr : Region.ready .any ops listed = []) (hs : listed.size = ops.size) (h : ∀ k, k < ops.size → ((ops[k]?).map fun o => o.after.all fun e => !Region.binds .any e || decide (e.on < k)).getD false = true) : ∀ k, k < ops.size → listed.getD k true = true := by
  intro k
  induction k using Nat.strongRecOn with
  | ind k ih =>
    intro hk
    cases hl : listed.getD k true with
    | true => rfl
    | false =>
      exfalso
      have : k ∈ Region.ready .any ops listed := by
        refine mem_ready.2 ⟨hl, ops[k], by simp [hk], fun e he hbd => ?_⟩
        have h1 := h k hk
        rw [show ops[k]? = some ops[k] by simp [hk]] at h1
        simp only [Option.map_some, Option.getD_some, Array.all_eq_true] at h1
        obtain ⟨n, hn, rfl⟩ := Array.getElem_of_mem he
        have h2 : (ops[k].after[n]).on < k := by
          have := h1 n hn
          rw [hbd] at this
          simpa using this
        have h3 := ih _ h2 (by omega)
        have h4 : (ops[k].after[n]).on < listed.size := by omega
        simpa [Array.getD_eq_getD_getElem?, h4] using h3
      rw [hr] at this
      cases this
theorem clV_step {deps : List (Nat × Nat)} {l : Array Bool} {ops : Array Oper} {i : Nat} (hi : i < l.size) (hr : i ∈ Region.ready .any ops l) (cl : ∀ i j, (i, j) ∈ deps → l.getD i false = true → l.getD j false = true)
    (E2 : (deps.all fun (x : Nat × Nat) => ((ops[x.1]?).map fun o => o.after.any fun e => Region.binds .any e && e.on == x.2).getD false) = true) : ∀ p q, (p, q) ∈ deps → (l.setIfInBounds i true).getD p false = true → (l.setIfInBounds i true).getD q false = true := by
  intro p q m h
  rw [getD_set _ _ _ hi] at h ⊢
  by_cases e : q = i
  · rw [if_pos e]
  · rw [if_neg e]
    by_cases f : p = i
    · subst f
      exact ready_needs hr ((List.all_eq_true.1 E2) (p, q) m)
    · rw [if_neg f] at h
      exact cl p q m h
end Go.Proofs.YtpajdmhgonmgoaaDoor

namespace Go.Proofs.YtpajdmhgonmgoaaDoor
open Go.RowKit
set_option linter.unusedVariables false
/-- Values put into slots or nowhere, one behind another. -/
def putsO (a : Act) : List (Option Nat × Value) → Act
  | [] => a
  | p :: r => putsO (a.put p.1 p.2) r
theorem putsO_defers : ∀ (l : List (Option Nat × Value)) (a : Act), (putsO a l).defers = a.defers
  | [], _ => rfl
  | p :: r, a => by rw [putsO, putsO_defers r, put_defersE]
theorem put_farO (a : Act) (o : Option Nat) (v : Value) (t : Nat) (h : o ≠ some t) : (a.put o v).tmps[t]? = a.tmps[t]? := by
  cases o with
  | none => rfl
  | some k =>
    unfold Act.put
    dsimp only
    rw [Array.getElem?_setIfInBounds, if_neg (fun e => h (by rw [e]))]
theorem putsO_far : ∀ (l : List (Option Nat × Value)) (a : Act) (t : Nat), (∀ p ∈ l, p.1 ≠ some t) → (putsO a l).tmps[t]? = a.tmps[t]?
  | [], _, _, _ => rfl
  | p :: r, a, t, hn => by
    rw [putsO, putsO_far r _ t (fun q hq => hn q (List.mem_cons_of_mem _ hq)), put_farO _ _ _ _ (hn p (List.mem_cons_self ..))]
theorem putsO_at : ∀ (l : List (Option Nat × Value)) (a : Act) (i t : Nat) (v : Value), t < a.tmps.size → l[i]? = some (some t, v) → (∀ j p, l[j]? = some p → p.1 = some t → j = i) → (putsO a l).tmps[t]? = some v
  | [], _, _, _, _, _, h, _ => by simp at h
  | q :: r, a, 0, t, v, hs, h, hu => by
    simp at h
    subst h
    rw [putsO, putsO_far r _ _ (fun p hp e => by
      obtain ⟨j, hj, rfl⟩ := List.getElem_of_mem hp
      have := hu (j + 1) _ (by rw [List.getElem?_cons_succ, List.getElem?_eq_getElem hj]) e
      omega)]
    show (a.put (some t) v).tmps[t]? = some v
    rw [put_getE _ _ _ _ hs, if_pos rfl]
  | q :: r, a, i + 1, t, v, hs, h, hu => by
    rw [putsO]
    refine putsO_at r _ i t v (by rw [put_sizeE]; exact hs) (by simpa using h) (fun j p hj e => ?_)
    have := hu (j + 1) p (by simpa using hj) e
    omega
theorem act_putsO {a a0 : Act} {dl : List (Option Nat)} {vals : Nat → Value} (hs : a.tmps.size = a0.tmps.size) (hd : a.defers = a0.defers) (hz : ∀ t, some t ∈ dl → t < a0.tmps.size)
    (nd : ∀ (i j t : Nat), dl[i]? = some (some t) → dl[j]? = some (some t) → j = i) (hk : ∀ t : Nat, some t ∉ dl → a.tmps[t]? = a0.tmps[t]?) (hv : ∀ i t : Nat, dl[i]? = some (some t) → a.tmps[t]? = some (vals i)) :
    a = putsO a0 ((List.range dl.length).map fun i => (dl.getD i none, vals i)) := by
  obtain ⟨l, hl⟩ : ∃ l, ((List.range dl.length).map fun i => (dl.getD i none, vals i)) = l := ⟨_, rfl⟩
  have lg : ∀ i, l[i]? = (dl[i]?).map fun o => (o, vals i) := fun i => by
    rw [← hl, List.getElem?_map]
    by_cases h : i < dl.length
    · rw [List.getElem?_range h, List.getElem?_eq_getElem h]
      simp [List.getD, h]
    · rw [List.getElem?_eq_none (by simp; omega), List.getElem?_eq_none (by omega)]
      rfl
  rw [hl]
  have e : a.tmps = (putsO a0 l).tmps := Array.ext_getElem? fun t => by
    by_cases c : some t ∈ dl
    · obtain ⟨i, hi, hit⟩ := List.getElem_of_mem c
      have g : dl[i]? = some (some t) := by rw [List.getElem?_eq_getElem hi, hit]
      rw [hv i t g]
      refine (putsO_at l a0 i t _ (hz t c) (by rw [lg, g]; rfl) (fun j p hj he => ?_)).symm
      rw [lg] at hj
      cases q : dl[j]? with
      | none => rw [q] at hj; cases hj
      | some o =>
        rw [q] at hj
        simp at hj
        subst hj
        simp at he
        subst he
        exact nd i j t g q
    · rw [hk t c, putsO_far l a0 t (fun p hp e => c (by
        obtain ⟨j, hj, rfl⟩ := List.getElem_of_mem hp
        have h2 := lg j
        rw [List.getElem?_eq_getElem hj] at h2
        cases q : dl[j]? with
        | none => rw [q] at h2; cases h2
        | some o =>
          rw [q] at h2
          simp at h2
          rw [h2] at e
          simp at e
          subst e
          exact List.mem_of_getElem? q))]
  have f := putsO_defers l a0
  cases a
  cases hp : putsO a0 l
  rw [hp] at e f
  simp at e f hd
  subst e
  rw [hd, f]
end Go.Proofs.YtpajdmhgonmgoaaDoor

namespace Go.Proofs.YtpajdmhgonmgoaaDoor
open Go.RowKit
set_option linter.unusedVariables false
open Go.Conc Go.RowKit
set_option linter.unusedSimpArgs false
structure JX {σ : Type} (n : Nat) (dl : List (Option Nat)) (deps : List (Nat × Nat)) (x0 : Nat) (s0 : σ) (Ok : σ → Prop) (V : Nat → σ → Value) (a0 : Act) (l : Array Bool) (a : Act) (s : σ) : Prop where
  lsz : l.size = n
  sz : a.tmps.size = a0.tmps.size
  df : a.defers = a0.defers
  keep : ∀ t, some t ∉ dl → a.tmps[t]? = a0.tmps[t]?
  cl : ∀ i j, (i, j) ∈ deps → l.getD i false = true → l.getD j false = true
  ph : (l.getD x0 false = false ∧ s = s0) ∨ (l.getD x0 false = true ∧ Ok s)
  vs : ∀ i t : Nat, l.getD i false = true → dl[i]? = some (some t) → a.tmps[t]? = some (V i s)
set_option maxHeartbeats 1600000 in
/-- A REGION THAT DRAWS ITS ORDER and in which one operation passes a stop: whatever order. -/
theorem gw_draw {σ : Type} {P : Program} {main : Bool} {F : World → Prop} {E : Event → Prop} (S : σ → Goroutine → World → Prop) {b : Frame} {a0 : Act} {k : List Item} {cs : List Frame} {id : Nat} (hm : P.follows .mixedOrders = true) (ops : Array Oper) (n : Nat) (dl : List (Option Nat)) (deps : List (Nat × Nat)) (x0 : Nat) (s0 : σ) (Ok : σ → Prop) (V : Nat → σ → Value) (c : Nat)
    (hn : ops.size = n) (hl : dl.length = n) (nd : ∀ (i j t : Nat), dl[i]? = some (some t) → dl[j]? = some (some t) → j = i) (hz : ∀ t, some t ∈ dl → t < a0.tmps.size)
    (hd : ops.toList.map (·.dst) = dl)
    (E1 : ((List.range n).all fun k => ((ops[k]?).map fun o => o.after.all fun e => !Region.binds .any e || decide (e.on < k)).getD false) = true)
    (E2 : (deps.all fun (x : Nat × Nat) => ((ops[x.1]?).map fun o => o.after.any fun e => Region.binds .any e && e.on == x.2).getD false) = true)
    (hx : x0 < n)
    (hlate : ∀ L : Nat → Bool, (∀ p q, (p, q) ∈ deps → L p = true → L q = true) → L x0 = false → ∀ i s, i < n → L i = true → V i s = V i s0)
    (hstep : ∀ i o, i < n → i ≠ x0 → ops[i]? = some o → ∀ s (a : Act), (s = s0 ∨ Ok s) → (∀ t, some t ∉ dl → a.tmps[t]? = a0.tmps[t]?) → (∀ j t : Nat, (i, j) ∈ deps → dl[j]? = some (some t) → a.tmps[t]? = some (V j s)) → ∀ rest M, Gw P main F E (S s) M (G (b.at (a.put o.dst (V i s)) (.inRegion ops rest :: k)) cs) → Gw P main F E (S s) (M + c) (G (b.at a (.inRegion ops (i :: rest) :: k)) cs))
    (hcross : ∀ o, ops[x0]? = some o → ∀ a : Act, (∀ t, some t ∉ dl → a.tmps[t]? = a0.tmps[t]?) → (∀ j t : Nat, (x0, j) ∈ deps → dl[j]? = some (some t) → a.tmps[t]? = some (V j s0)) → ∀ rest, (∀ s, Ok s → ∃ M, Gw P main F E (S s) M (G (b.at (a.put o.dst (V x0 s)) (.inRegion ops rest :: k)) cs)) → Gw P main F E (S s0) c (G (b.at a (.inRegion ops (x0 :: rest) :: k)) cs))
    (hend : ∀ s, Ok s → ∃ m, Gw P main F E (S s) m (G (b.at (putsO a0 ((List.range n).map fun i => (dl.getD i none, V i s))) k) cs)) :
    ∃ N, Gw P main F E (S s0) N (G (b.at a0 (.code (.region id ops true) :: k)) cs) := by
  have ds : ∀ (i : Nat) (o : Oper), ops[i]? = some o → dl[i]? = some o.dst := fun i o h => by
    rw [← hd]
    simp only [List.getElem?_map, Array.getElem?_toList, h, Option.map_some]
  obtain ⟨m, hme⟩ : ∃ m : σ → Nat, ∀ s, Ok s → Gw P main F E (S s) (m s) (G (b.at (putsO a0 ((List.range n).map fun i => (dl.getD i none, V i s))) k) cs) := by
    have h1 : ∀ s, ∃ m, Ok s → Gw P main F E (S s) m (G (b.at (putsO a0 ((List.range n).map fun i => (dl.getD i none, V i s))) k) cs) := fun s => by
      by_cases h : Ok s
      · obtain ⟨m, hm⟩ := hend s h
        exact ⟨m, fun _ => hm⟩
      · exact ⟨0, fun h2 => (h h2).elim⟩
    exact ⟨fun s => (h1 s).choose, fun s => (h1 s).choose_spec⟩
  have ends : ∀ (l : Array Bool) (a : Act) (s : σ) (M : Nat), JX n dl deps x0 s0 Ok V a0 l a s → (∀ k, k < n → l.getD k false = true) → m s + 1 ≤ M → Gw P main F E (S s) M (G (b.at a (.inRegion ops [] :: k)) cs) := by
    intro l a s M J hall hM
    have ok : Ok s := by
      rcases J.ph with ⟨h, _⟩ | ⟨_, h⟩
      · rw [hall x0 hx] at h; cases h
      · exact h
    have e := act_putsO (a := a) (a0 := a0) (dl := dl) (vals := fun i => V i s) J.sz J.df hz nd J.keep (fun i t hi => J.vs i t (hall i (by have := (List.getElem?_eq_some_iff.1 hi).1; omega)) hi)
    rw [hl] at e
    refine Gw.mono (gw_done ?_) hM
    rw [e]
    exact hme s ok
  have main1 : ∀ (fuel : Nat) (l : Array Bool) (a : Act) (s : σ), l.toList.count false ≤ fuel → JX n dl deps x0 s0 Ok V a0 l a s → ∀ t, Gw P main F E (S s) (m s + 1 + c * fuel) (G (b.at a (.inRegion ops (Region.linearise.go .any ops fuel t l []) :: k)) cs) := by
    intro fuel
    induction fuel with
    | zero =>
      intro l a s hc J t
      have hall : ∀ k, k < n → l.getD k false = true := fun k hk => by
        have kl : k < l.size := by rw [J.lsz]; exact hk
        cases hv : l[k] with
        | true => simp [Array.getD_eq_getD_getElem?, kl, hv]
        | false =>
          have : 0 < l.toList.count false := List.count_pos_iff.2 (Array.mem_toList_iff.2 (by rw [← hv]; exact Array.getElem_mem kl))
          omega
      exact ends l a s _ J hall (by omega)
    | succ fuel ih =>
      intro l a s hc J t
      simp only [Region.linearise.go]
      change Gw P main F E (S s) (m s + 1 + c * (fuel + 1)) (G (b.at a (.inRegion ops (match (Region.ready .any ops l)[t % (Region.ready .any ops l).length]? with
        | some i => Region.linearise.go .any ops fuel (t / (Region.ready .any ops l).length) (l.setIfInBounds i true) [i]
        | none => [].reverse) :: k)) cs)
      cases hi : (Region.ready .any ops l)[t % (Region.ready .any ops l).length]? with
      | none =>
        have hnil : Region.ready .any ops l = [] := by
          cases hr : Region.ready .any ops l with
          | nil => rfl
          | cons x xs =>
            rw [hr] at hi
            have hlt : t % (x :: xs).length < (x :: xs).length := Nat.mod_lt _ (by simp)
            rw [List.getElem?_eq_getElem hlt] at hi
            cases hi
        have hall : ∀ k, k < n → l.getD k false = true := fun k hk => by
          have h1 := ready_noneE hnil (by rw [J.lsz, hn]) (fun k hk => (List.all_eq_true.1 E1) k (List.mem_range.2 (by omega))) k (by omega)
          have kl : k < l.size := by rw [J.lsz]; exact hk
          simpa [Array.getD_eq_getD_getElem?, kl] using h1
        exact ends l a s _ J hall (by omega)
      | some i =>
        have hr := List.mem_of_getElem? hi
        simp only []
        rw [linearise_go_acc, List.reverse_singleton, List.singleton_append]
        obtain ⟨hlt, o, ho, _⟩ := mem_ready.1 hr
        have hin : i < n := by
          rcases Nat.lt_or_ge i n with h | h
          · exact h
          · rw [Array.getElem?_eq_none (by omega)] at ho; cases ho
        have il : i < l.size := by rw [J.lsz]; exact hin
        have lf : l.getD i false = false := by
          have h2 : l[i]? = some l[i] := by simp [il]
          simp only [Array.getD_eq_getD_getElem?, h2, Option.getD_some] at hlt ⊢
          exact hlt
        have cl := clV_step il hr J.cl E2
        have need : ∀ j, (i, j) ∈ deps → l.getD j false = true := fun j mm => ready_needs hr ((List.all_eq_true.1 E2) (i, j) mm)
        have ls' : (l.setIfInBounds i true).size = n := by simp [J.lsz]
        have gs := fun j => getD_set l i j il
        have di := ds i o ho
        have dm : o.dst ∈ dl := List.mem_of_getElem? di
        have cnt : (l.setIfInBounds i true).toList.count false ≤ fuel := by
          have : (l.setIfInBounds i true).toList.count false + 1 = l.toList.count false := by
            rw [Array.toList_setIfInBounds]
            apply count_set_lt
            cases hq : l[i]? with
            | none => rw [Array.getElem?_eq_getElem il] at hq; cases hq
            | some bb =>
              simp [Array.getD_eq_getD_getElem?, hq] at lf
              subst lf
              simpa using hq
          omega
        have keepN : ∀ (v : Value) t, some t ∉ dl → (a.put o.dst v).tmps[t]? = a0.tmps[t]? := fun v t ht => by
          rw [put_farO _ _ _ _ (fun e => ht (by rw [← e]; exact dm))]; exact J.keep t ht
        have depsV : ∀ j t : Nat, (i, j) ∈ deps → dl[j]? = some (some t) → a.tmps[t]? = some (V j s) := fun j t hj ht => J.vs j t (need j hj) ht
        have vsN : ∀ s', (∀ j, j < n → l.getD j false = true → V j s' = V j s) → ∀ j t : Nat, (l.setIfInBounds i true).getD j false = true → dl[j]? = some (some t) → (a.put o.dst (V i s')).tmps[t]? = some (V j s') := fun s' hs j t hl' hj => by
          by_cases e : j = i
          · subst e
            rw [di] at hj
            injection hj with hj
            rw [hj, put_getE _ _ _ _ (by rw [J.sz]; exact hz t (by rw [← hj]; exact dm))]
            simp
          · rw [put_farO _ _ _ _ (fun q => e (nd i j t (by rw [di, q]) hj))]
            rw [gs, if_neg e] at hl'
            rw [J.vs j t hl' hj, hs j (by have := (List.getElem?_eq_some_iff.1 hj).1; omega) hl']
        by_cases hix : i = x0
        · subst hix
          have hs0 : s = s0 := by
            rcases J.ph with ⟨_, h⟩ | ⟨h, _⟩
            · exact h
            · rw [lf] at h; cases h
          subst hs0
          refine Gw.mono (hcross o ho a J.keep depsV _ fun s' ok' => ?_) (by rw [Nat.mul_succ]; omega)
          refine ⟨_, ih _ _ s' cnt ⟨ls', by rw [put_sizeE]; exact J.sz, by rw [put_defersE]; exact J.df, keepN _, cl, Or.inr ⟨by rw [gs, if_pos rfl], ok'⟩, vsN s' fun j hj hlj => ?_⟩ _⟩
          exact hlate (fun j => l.getD j false) J.cl lf j s' hj hlj
        · have hs : s = s0 ∨ Ok s := by
            rcases J.ph with ⟨_, h⟩ | ⟨_, h⟩
            · exact Or.inl h
            · exact Or.inr h
          have := hstep i o hin hix ho s a hs J.keep depsV _ (m s + 1 + c * fuel) (ih _ _ s cnt ⟨ls', by rw [put_sizeE]; exact J.sz, by rw [put_defersE]; exact J.df, keepN _, cl, by rw [gs, if_neg (Ne.symm hix)]; exact J.ph, vsN s fun j hj hlj => rfl⟩ (t / (Region.ready .any ops l).length))
          exact Gw.mono this (by rw [Nat.mul_succ]; omega)
  have f : ∀ i, (Array.replicate ops.size false).getD i false = false := fun i => by simp [Array.getD_eq_getD_getElem?, Array.getElem?_replicate]; split <;> rfl
  refine ⟨m s0 + 1 + c * ops.size + 1, fun w => Goes.step rfl fun w₁ h₁ => ?_⟩
  rw [stepG_region_draw]
  refine ⟨⟨⟨w₁.drawn + 1, rfl⟩, fun e he => by simp at he⟩, ?_⟩
  simp only [Region.schedule, hm, Bool.true_or, if_true]
  exact main1 ops.size _ a0 s0 (by simp [List.count_replicate]) ⟨by simp [hn], rfl, rfl, fun _ _ => rfl, fun i j _ h => (by rw [f] at h; cases h), Or.inl ⟨f x0, rfl⟩, fun i _ h => (by rw [f] at h; cases h)⟩ _ _
end Go.Proofs.YtpajdmhgonmgoaaDoor

namespace Go.Proofs.YtpajdmhgonmgoaaDoor
open Go.RowKit
set_option linter.unusedVariables false
open Go.Conc Go.ConcN Go.RowKit
open Go.ConcR (KK wgBlock WgAt stA smA rd wr Payload DC0)
set_option linter.unusedSimpArgs false
def cL : Code → Code
  | .seq a _ => a
  | .block _ c => c
  | .loop c => c
  | .cond _ a _ => a
  | c => c
def cR : Code → Code
  | .seq _ b => b
  | .cond _ _ b => b
  | c => c
def cO : Code → Array Oper
  | .region _ ops _ => ops
  | _ => #[]
def bodyOf (f : Func) : Code := f.body.getD .skip
/-- The ground of a crowd, cell by cell. -/
def gdF (n s : Nat) (b : Nat → Nat → Int) (j : Nat) : Int :=
  if j = 0 then (n : Int) else if j = 1 then (s : Int) else if j < 12 then smS n (b (j - 2)) else gvS n s b ((j - 12) / 10) ((j - 12) % 10)
def knS (C N n s : Nat) (b : Nat → Nat → Int) (a : Addr) (v : Value) : Prop :=
  (∃ j, j < 112 ∧ a = ⟨C, j, none⟩ ∧ v = .int .i64 (gdF n s b j)) ∨ (a = ⟨N, 0, none⟩ ∧ v = .pointer (some ⟨C, 0, none⟩)) ∨ (a = ⟨N + 2, 0, none⟩ ∧ v = .chan (some (N + 1)))
def atS (C N : Nat) (a : Addr) : Prop := (∃ q, q < 10 ∧ a = cpL C q) ∨ (∃ q, q < 10 ∧ a = tpL C q) ∨ a = tgL (N + 3)
def rdS (C N : Nat) (a : Addr) : Prop := (∃ j, j < 112 ∧ a = ⟨C, j, none⟩) ∨ a = ⟨N, 0, none⟩ ∨ a = ⟨N + 2, 0, none⟩
def itS (n s : Nat) : List Nat := (List.range n).filter fun p => decide (p ≠ s)
/-- Where a worker of a round stands, about to receive. -/
def loopS (N : Nat) (g : Goroutine) : Prop :=
  ∃ x4 x6 x7 x8 x9 x10 x11 x12 : Value, g = G ((baseD 37).at ⟨#[.pointer (some ⟨N + 4, 0, none⟩), .pointer (some ⟨N + 2, 0, none⟩), .pointer (some ⟨N + 3, 0, none⟩), .pointer (some ⟨N, 0, none⟩), x4, .chan (some (N + 1)), x6, x7, x8, x9, x10, x11, x12], [dcall 38 #[.pointer (some ⟨N + 4, 0, none⟩)]]⟩
      [.inRegion (cO (cL (cL (cL (cR (cR (bodyOf Tryd.f37))))))) [0, 1], .code (cR (cL (cL (cR (cR (bodyOf Tryd.f37)))))), .inLoop (cL (cL (cR (cR (bodyOf Tryd.f37))))), .inBlock 0]) [{ (default : Frame) with fn := Tryd.prog.funcs.size, defers := [], mode := .panicking [goexitEntry] }]
/-- What a round of a crowd is, at the site. -/
structure SiteS (t : Site) (C N n s : Nat) (b : Nat → Nat → Int) (c0 u0 : Nat → Int) (K : Int) (nw L : Nat) (Shun : Loc → Prop) : Prop where
  eP : t.P = Tryd.prog
  ety : t.ty = 93
  eWg : t.Wg = N + 4
  ech : t.ch = N + 1
  ecB : t.cB = C
  ecs : t.csz = 132
  eca : t.cap = 10
  ez : t.z = .int .i64 0
  en : t.n = nw
  eL : t.L = L
  eci : t.ci = 0
  ecv : t.cv = vI n
  ekn : t.KnownC = knS C N n s b
  eat : t.IsAt = atS C N
  erd : t.RdC = rdS C N
  esh : t.Sh = fun l => Shun l ∨ (∃ a, l = .cell a ∧ (atS C N a ∨ a.block = N + 4)) ∨ l = .obj (N + 1)
  ecp : t.cpA = cpL C
  epl : t.plan = plS C (N + 3) n s b
  egv : t.GoodV = fun p v => p < n ∧ p ≠ s ∧ 0 ≤ v ∧ v ≤ 100000
  elo : t.Loop = loopS N
  eit : t.items = itS n s
  eGI : t.GI = GIs C (N + 3) n s b c0 u0 (itS n s) K
  eB : t.B = N + 5
  eke : ∀ w d, t.Keep w → t.Keep (w.at d)
section
variable [Payload] {C N n s : Nat} {b : Nat → Nat → Int} {c0 u0 : Nat → Int} {K : Int} {nw L : Nat} {Shun : Loc → Prop} {t : Site} {w : World}
theorem fix_box (e : SiteS t C N n s b c0 u0 K nw L Shun) (h : t.Fix w) : w.cell? ⟨N, 0, none⟩ = some (.pointer (some ⟨C, 0, none⟩)) := h.known _ _ (by rw [e.ekn]; exact Or.inr (Or.inl ⟨rfl, rfl⟩))
theorem fix_var (e : SiteS t C N n s b c0 u0 K nw L Shun) (h : t.Fix w) : w.cell? ⟨N + 2, 0, none⟩ = some (.chan (some (N + 1))) := h.known _ _ (by rw [e.ekn]; exact Or.inr (Or.inr ⟨rfl, rfl⟩))
theorem fix_gd (e : SiteS t C N n s b c0 u0 K nw L Shun) (h : t.Fix w) {j : Nat} (hj : j < 112) : w.cell? ⟨C, j, none⟩ = some (.int .i64 (gdF n s b j)) := h.known _ _ (by rw [e.ekn]; exact Or.inl ⟨j, hj, rfl, rfl⟩)
end
/-- A worker's quiet step lists plain reads of what stands fast. -/
def EvR (C N : Nat) (e : Event) : Prop := ∃ a, e = ⟨.cell a, false, false⟩ ∧ rdS C N a
end Go.Proofs.YtpajdmhgonmgoaaDoor

namespace Go.Proofs.YtpajdmhgonmgoaaDoor
open Go.RowKit
set_option linter.unusedVariables false
open Go.Conc Go.ConcN Go.RowKit Go.Conc.Lib Go.ConcR.Gen
open Go.ConcR (KK wgBlock WgAt stA smA rd wr Payload DC0)
set_option linter.unusedSimpArgs false
section
variable [Payload] {C N n s : Nat} {b : Nat → Nat → Int} {c0 u0 : Nat → Int} {K : Int} {nw L : Nat} {Shun : Loc → Prop} {t : Site} {w : World}
theorem gw_dq (e : SiteS t C N n s b c0 u0 K nw L Shun) {S : Goroutine → World → Prop} {m : Nat} {g : Goroutine} (h : Gw Tryd.prog false t.Fix (EvR C N) S m g) (w : World) : Goes t.P false t.R0 t.Dq S m g w := by
  have h1 := h w
  have h2 := e.eP
  have h3 := e.erd
  unfold Site.R0 Site.Dq
  rw [h2, h3]
  exact h1
end
theorem evix1 {a : Addr} {k : IntKind} {i : Int} {w : World} {es : Array Event} (h1 : 0 ≤ i) (h2 : i < 10) : (Instr.indexAt 55 (.pointer (some a)) (.int k i)).events Tryd.prog w es = es := events_indexAt_array _ _ _ _ _ _ Tryd.underlying55 ⟨h1, h2⟩
theorem evix2 {a : Addr} {k : IntKind} {i : Int} {w : World} {es : Array Event} (h1 : 0 ≤ i) (h2 : i < 10) : (Instr.indexAt 82 (.pointer (some a)) (.int k i)).events Tryd.prog w es = es := events_indexAt_array _ _ _ _ _ _ Tryd.underlying82 ⟨h1, h2⟩
theorem evix3 {a : Addr} {k : IntKind} {i : Int} {w : World} {es : Array Event} (h1 : 0 ≤ i) (h2 : i < 10) : (Instr.indexAt 56 (.pointer (some a)) (.int k i)).events Tryd.prog w es = es := events_indexAt_array _ _ _ _ _ _ Tryd.underlying56 ⟨h1, h2⟩
theorem wrap_fit {x : Int} (h : Fits x) : IntKind.wrap .i64 x = x := by
  unfold Fits at h
  simp [IntKind.wrap, IntKind.signed, IntKind.bits]
  split <;> omega
theorem addr_add0 (x : Addr) (h : x.spot = none) : x.add 0 = x := by
  obtain ⟨b, o, s⟩ := x
  dsimp only at h
  subst h
  rfl
set_option maxRecDepth 100000 in
set_option maxHeartbeats 1600000 in
theorem load_x [Payload] {C N n s : Nat} {b : Nat → Nat → Int} {c0 u0 : Nat → Int} {K : Int} {nw L : Nat} {Shun : Loc → Prop} {t : Site} (e : SiteS t C N n s b c0 u0 K nw L Shun) {fb : Frame} {a : Act} {k : List Item} {cs : List Frame} {ops : Array Oper} {i : Nat} {rest : List Nat} {o : Oper} {x : Operand} {ats : Array TypeId} {p : Nat}
    (ho : ops[i]? = some o) (hw : Region.wanted o (yielded ops a.tmps) = true) (hk : fb.kind ≠ .early) (hop : o.op = .call { callee := .value (.func 42), args := #[x], argTypes := ats }) (hx : a.eval x = .pointer (some (cpL C p)))
    (hn : ∀ v, (p < n ∧ p ≠ s ∧ 0 ≤ v ∧ v ≤ 100000) → ∃ M, Gw Tryd.prog false t.Fix (EvR C N) (t.AtAdds (t.plan p v)) M (G (fb.at (a.put o.dst (.int .i64 v)) (.inRegion ops rest :: k)) cs)) :
    Gw Tryd.prog false t.Fix (EvR C N) (t.AtLoad p) 20 (G (fb.at a (.inRegion ops (i :: rest) :: k)) cs) := by
  refine gw_call ho hw hk hop Tryd.func42 rfl rfl ?_
  simp only [List.map_toArray, List.map_cons, List.map_nil, hx, Tryd.f42]
  walk_nrm
  refine gw_seq ?_
  refine gw_region ?_
  try simp only [List.size_toArray, List.length_cons, List.length_nil, Nat.reduceAdd, Nat.zero_add, List.range, List.range.loop]
  refine gw_opk rfl rfl (by k_ne) (fun w hF K' hK => ?_)
  go_simp
  refine hK _ (fun e he => ?_) ?_
  · (clear hK; simp [go_sem, *, evix1, evix2, evix3] at he)
  clear hK K' hF
  clear w
  try walk_nrm
  refine gw_done ?_
  refine gw_seq ?_
  refine gw_region ?_
  try simp only [List.size_toArray, List.length_cons, List.length_nil, Nat.reduceAdd, Nat.zero_add, List.range, List.range.loop]
  refine gw_opk rfl rfl (by k_ne) (fun w hF K' hK => ?_)
  go_simp
  refine hK _ (fun e he => ?_) ?_
  · (clear hK; simp [go_sem, *, evix1, evix2, evix3] at he)
  clear hK K' hF
  clear w
  try walk_nrm
  refine gw_opk rfl rfl (by k_ne) (fun w hF K' hK => ?_)
  go_simp
  refine hK _ (fun e he => ?_) ?_
  · (clear hK; simp [go_sem, *, evix1, evix2, evix3] at he)
  clear hK K' hF
  clear w
  try walk_nrm
  refine gw_opk rfl rfl (by k_ne) (fun w hF K' hK => ?_)
  go_simp
  refine hK _ (fun e he => ?_) ?_
  · (clear hK; simp [go_sem, *, evix1, evix2, evix3] at he)
  clear hK K' hF
  clear w
  try walk_nrm
  refine Gw.stop (fun w hF => ?_)
  refine ⟨rfl, fun v hv hg => ?_⟩
  rw [e.ecp] at hv
  rw [e.egv] at hg
  obtain ⟨M, hM⟩ := hn v hg
  refine ⟨_, (by rw [e.eP, e.ecp]; exact stepG_load_atomic rfl rfl (by k_ne) rfl Tryd.func69 rfl rfl rfl .i64 rfl rfl hv), M + 10, gw_dq e ?_ w⟩
  walk_nrm
  refine gw_opk rfl rfl (by k_ne) (fun w hF K' hK => ?_)
  go_simp
  refine hK _ (fun e he => ?_) ?_
  · (clear hK; simp [go_sem, *, evix1, evix2, evix3] at he)
  clear hK K' hF
  clear w
  try walk_nrm
  refine gw_done ?_
  refine gw_ret ?_
  refine gw_leave1 rfl rfl Tryd.func42 rfl ?_
  try walk_nrm
  rw [ho]
  exact Gw.mono hM (by omega)
set_option maxRecDepth 100000 in
set_option maxHeartbeats 1600000 in
theorem add_x [Payload] {C N n s : Nat} {b : Nat → Nat → Int} {c0 u0 : Nat → Int} {K : Int} {nw L : Nat} {Shun : Loc → Prop} {t : Site} (e : SiteS t C N n s b c0 u0 K nw L Shun) {fb : Frame} {a : Act} {k : List Item} {cs : List Frame} {ops : Array Oper} {i : Nat} {rest : List Nat} {o : Oper} {x y : Operand} {ats : Array TypeId} {ad : Addr} {d : Int} {ls : List (Addr × Int)} (hat : atS C N ad)
    (ho : ops[i]? = some o) (hw : Region.wanted o (yielded ops a.tmps) = true) (hk : fb.kind ≠ .early) (hop : o.op = .call { callee := .value (.func 39), args := #[x, y], argTypes := ats }) (hx : a.eval x = .pointer (some ad)) (hy : a.eval y = .int .i64 d)
    (hn : ∀ v, ∃ M, Gw Tryd.prog false t.Fix (EvR C N) (t.AtAdds ls) M (G (fb.at (a.put o.dst (.int .i64 v)) (.inRegion ops rest :: k)) cs)) :
    Gw Tryd.prog false t.Fix (EvR C N) (t.AtAdds ((ad, d) :: ls)) 20 (G (fb.at a (.inRegion ops (i :: rest) :: k)) cs) := by
  refine gw_call ho hw hk hop Tryd.func39 rfl rfl ?_
  simp only [List.map_toArray, List.map_cons, List.map_nil, hx, hy, Tryd.f39]
  walk_nrm
  have hsp : ad.spot = none := by
    rcases hat with ⟨q, _, rfl⟩ | ⟨q, _, rfl⟩ | rfl <;> rfl
  have ha0 := addr_add0 ad hsp
  refine gw_seq ?_
  refine gw_region ?_
  try simp only [List.size_toArray, List.length_cons, List.length_nil, Nat.reduceAdd, Nat.zero_add, List.range, List.range.loop]
  refine gw_opk rfl rfl (by k_ne) (fun w hF K' hK => ?_)
  go_simp
  refine hK _ (fun e he => ?_) ?_
  · (clear hK; simp [go_sem, *, evix1, evix2, evix3] at he)
  clear hK K' hF
  clear w
  try walk_nrm
  refine gw_done ?_
  refine gw_seq ?_
  refine gw_region ?_
  try simp only [List.size_toArray, List.length_cons, List.length_nil, Nat.reduceAdd, Nat.zero_add, List.range, List.range.loop]
  refine gw_opk rfl rfl (by k_ne) (fun w hF K' hK => ?_)
  go_simp
  refine hK _ (fun e he => ?_) ?_
  · (clear hK; simp [go_sem, *, evix1, evix2, evix3] at he)
  clear hK K' hF
  clear w
  try walk_nrm
  refine gw_opk rfl rfl (by k_ne) (fun w hF K' hK => ?_)
  go_simp
  refine hK _ (fun e he => ?_) ?_
  · (clear hK; simp [go_sem, *, evix1, evix2, evix3] at he)
  clear hK K' hF
  clear w
  try walk_nrm
  refine gw_opk rfl rfl (by k_ne) (fun w hF K' hK => ?_)
  go_simp
  refine hK _ (fun e he => ?_) ?_
  · (clear hK; simp [go_sem, *, evix1, evix2, evix3] at he)
  clear hK K' hF
  clear w
  try walk_nrm
  refine gw_opk rfl rfl (by k_ne) (fun w hF K' hK => ?_)
  go_simp
  refine hK _ (fun e he => ?_) ?_
  · (clear hK; simp [go_sem, *, evix1, evix2, evix3] at he)
  clear hK K' hF
  clear w
  try walk_nrm
  refine Gw.stop (fun w hF => ?_)
  refine ⟨rfl, fun v hv hf => ?_⟩
  have hz : w.frozen? ad = false := by
    obtain ⟨_, _, h⟩ := hF.ats ad (by rw [e.eat]; exact hat)
    exact h
  have hwr : IntKind.wrap .i64 (v + d) = v + d := wrap_fit hf
  obtain ⟨M, hM⟩ := hn (v + d)
  have st := stepG_add_atomic (P := Tryd.prog) (main := false) (w := w) (b := base 39) (a := ⟨#[.pointer (some ad), .int .i64 d, undef, undef, .int .i64 0, .pointer (some ad), .pointer (some ad), .pointer (some ad), .int .i64 d, undef], []⟩) (ops := cO (cL (cR (bodyOf Tryd.f39)))) (i := 4) (rest := [5]) (kk := [.code .ret]) (cs := fb.at a (.inRegion ops (i :: rest) :: k) :: cs) rfl rfl (by k_ne) rfl Tryd.func63 rfl rfl rfl .i64 rfl (x := .tmp 7) (y := .tmp 8) rfl rfl hv hz
  rw [hwr] at st
  refine ⟨_, (by rw [e.eP]; exact st), M + 10, gw_dq e ?_ _⟩
  simp only [cO, cL, cR, bodyOf, Tryd.f39, Option.getD_some]
  walk_nrm
  refine gw_opk rfl rfl (by k_ne) (fun w hF K' hK => ?_)
  go_simp
  refine hK _ (fun e he => ?_) ?_
  · (clear hK; simp [go_sem, *, evix1, evix2, evix3] at he)
  clear hK K' hF
  clear w
  try walk_nrm
  refine gw_done ?_
  refine gw_ret ?_
  refine gw_leave1 rfl rfl Tryd.func39 rfl ?_
  try walk_nrm
  rw [ho]
  exact Gw.mono hM (by omega)
end Go.Proofs.YtpajdmhgonmgoaaDoor

