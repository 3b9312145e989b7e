/-
  What the last text of this claim leans on, part 5: Rv1.
-/
import Derived.Test.YtpppmollmiomlaaDoorZu4
namespace Go.Proofs.YtpppmollmiomlaaDoor
open Go.RowKit
set_option linter.unusedVariables false
/-- Values put one behind another. -/
def putsFrom (a : Act) (b : Nat) : List Value → Act
  | [] => a
  | v :: r => putsFrom (a.put (some b) v) (b + 1) r
theorem put_getE (a : Act) (t k : Nat) (v : Value) (ht : t < a.tmps.size) : (a.put (some t) v).tmps[k]? = if k = t then some v else a.tmps[k]? := by
  unfold Act.put
  dsimp only
  rw [Array.getElem?_setIfInBounds]
  by_cases h : t = k
  · subst h; rw [if_pos rfl, if_pos ht, if_pos rfl]
  · rw [if_neg h, if_neg (fun e => h e.symm)]
theorem eval_ofE {a : Act} {t : Nat} {v : Value} (h : a.tmps[t]? = some v) : a.eval (.tmp t) = v := by simp [Act.eval, h]
theorem put_sizeE (a : Act) (t : Option Nat) (v : Value) : (a.put t v).tmps.size = a.tmps.size := by cases t <;> simp [Act.put]
theorem put_defersE (a : Act) (t : Option Nat) (v : Value) : (a.put t v).defers = a.defers := by cases t <;> rfl
theorem puts_defers (l : List Value) : ∀ (a : Act) (b : Nat), (putsFrom a b l).defers = a.defers := by
  induction l with
  | nil => intro a b; rfl
  | cons v r ih => intro a b; rw [putsFrom, ih, put_defersE]
theorem puts_get (l : List Value) : ∀ (a : Act) (b t : Nat), b + l.length ≤ a.tmps.size → (putsFrom a b l).tmps[t]? = if b ≤ t ∧ t < b + l.length then l[t - b]? else a.tmps[t]? := by
  induction l with
  | nil => intro a b t _; rw [if_neg (by simp)]; rfl
  | cons v r ih =>
    intro a b t h
    simp only [List.length_cons] at h
    rw [putsFrom, ih _ _ _ (by rw [put_sizeE]; omega), put_getE _ _ _ _ (by omega)]
    simp only [List.length_cons]
    by_cases e : t = b
    · subst e
      rw [if_neg (by omega), if_pos rfl, if_pos (by omega)]
      simp
    · rw [if_neg e]
      by_cases c : b ≤ t ∧ t < b + (r.length + 1)
      · rw [if_pos (by omega), if_pos c, show t - b = (t - (b + 1)) + 1 by omega, List.getElem?_cons_succ]
      · rw [if_neg (by omega), if_neg c]
theorem act_puts {a a0 : Act} {b : Nat} {l : List Value} (hs : a.tmps.size = a0.tmps.size) (hd : a.defers = a0.defers) (hb : b + l.length ≤ a0.tmps.size) (hk : ∀ t, t < b ∨ b + l.length ≤ t → a.tmps[t]? = a0.tmps[t]?) (hv : ∀ i, i < l.length → a.tmps[b + i]? = l[i]?) : a = putsFrom a0 b l := by
  have e : a.tmps = (putsFrom a0 b l).tmps := Array.ext_getElem? fun t => by
    rw [puts_get l a0 b t hb]
    by_cases c : b ≤ t ∧ t < b + l.length
    · rw [if_pos c]
      have := hv (t - b) (by omega)
      rw [show b + (t - b) = t by omega] at this
      exact this
    · rw [if_neg c]
      exact hk t (by omega)
  have f := puts_defers l a0 b
  cases a
  cases hp : putsFrom a0 b l
  rw [hp] at e f
  simp at e f hd
  subst e
  rw [hd, f]
theorem getD_set (l : Array Bool) (i j : Nat) (hi : i < l.size) : (l.setIfInBounds i true).getD j false = if j = i then true else l.getD j false := by
  simp only [Array.getD_eq_getD_getElem?, Array.getElem?_setIfInBounds]
  by_cases h : i = j
  · subst h; simp [hi]
  · rw [if_neg h, if_neg (fun e => h e.symm)]
theorem ready_noneE {ops : Array Oper} {listed : Array Bool} (hr : Region.ready .any ops listed = []) (hs : listed.size = ops.size) (h : ∀ k, k < ops.size → ((ops[k]?).map fun o => o.after.all fun e => !Region.binds .any e || decide (e.on < k)).getD false = true) : ∀ k, k < ops.size → listed.getD k true = true := by
  intro k
  induction k using Nat.strongRecOn with
  | ind k ih =>
    intro hk
    cases hl : listed.getD k true with
    | true => rfl
    | false =>
      exfalso
      have : k ∈ Region.ready .any ops listed := by
        refine mem_ready.2 ⟨hl, ops[k], by simp [hk], fun e he hbd => ?_⟩
        have h1 := h k hk
        rw [show ops[k]? = some ops[k] by simp [hk]] at h1
        simp only [Option.map_some, Option.getD_some, Array.all_eq_true] at h1
        obtain ⟨n, hn, rfl⟩ := Array.getElem_of_mem he
        have h2 : (ops[k].after[n]).on < k := by
          have := h1 n hn
          rw [hbd] at this
          simpa using this
        have h3 := ih _ h2 (by omega)
        have h4 : (ops[k].after[n]).on < listed.size := by omega
        simpa [Array.getD_eq_getD_getElem?, h4] using h3
      rw [hr] at this
      cases this
/-- What stands while a region is walked in whatever order. -/
structure RVs (a0 a : Act) (b n : Nat) (deps : List (Nat × Nat)) (R : (Nat → Bool) → (Nat → Value) → World → Prop) (ad : Addr) (sv : (Nat → Value) → Value) (w : World) (l : Array Bool) : Prop where
  lsz : l.size = n + 1
  sz : a.tmps.size = a0.tmps.size
  df : a.defers = a0.defers
  keep : ∀ t, t < b ∨ b + n ≤ t → a.tmps[t]? = a0.tmps[t]?
  cl : ∀ i j, (i, j) ∈ deps → l.getD i false = true → l.getD j false = true
  st : ∃ vals w', R (fun i => l.getD i false) vals w' ∧ (∀ i, i < n → l.getD i false = true → a.tmps[b + i]? = some (vals i)) ∧ w = if l.getD n false then w'.setCell ad (sv vals) else w'
theorem clV_step {deps : List (Nat × Nat)} {l : Array Bool} {ops : Array Oper} {i : Nat} (hi : i < l.size) (hr : i ∈ Region.ready .any ops l) (cl : ∀ i j, (i, j) ∈ deps → l.getD i false = true → l.getD j false = true)
    (E2 : (deps.all fun (x : Nat × Nat) => ((ops[x.1]?).map fun o => o.after.any fun e => Region.binds .any e && e.on == x.2).getD false) = true) : ∀ p q, (p, q) ∈ deps → (l.setIfInBounds i true).getD p false = true → (l.setIfInBounds i true).getD q false = true := by
  intro p q m h
  rw [getD_set _ _ _ hi] at h ⊢
  by_cases e : q = i
  · rw [if_pos e]
  · rw [if_neg e]
    by_cases f : p = i
    · subst f
      exact ready_needs hr ((List.all_eq_true.1 E2) (p, q) m)
    · rw [if_neg f] at h
      exact cl p q m h
set_option maxHeartbeats 3200000 in
theorem regionV {P : Program} {id : Nat} {Q : Exit → Act → World → Prop} {a0 : Act} {w0 : World} (hm : P.follows .mixedOrders = true) (ops : Array Oper) (n b : Nat) (deps : List (Nat × Nat)) (R : (Nat → Bool) → (Nat → Value) → World → Prop) (ad : Addr) (sv : (Nat → Value) → Value)
    (hn : ops.size = n + 1) (hz : b + n ≤ a0.tmps.size)
    (hg : (ops.toList.all fun o => o.guard.isNone) = true)
    (hd : ops.toList.map (·.dst) = (List.range n).map (fun i => some (b + i)) ++ [none])
    (E1 : ((List.range (n + 1)).all fun k => ((ops[k]?).map fun o => o.after.all fun e => !Region.binds .any e || decide (e.on < k)).getD false) = true)
    (E2 : (deps.all fun (x : Nat × Nat) => ((ops[x.1]?).map fun o => o.after.any fun e => Region.binds .any e && e.on == x.2).getD false) = true)
    (hall : ∀ L : Nat → Bool, (∀ i j, (i, j) ∈ deps → L i = true → L j = true) → (∀ j, (n, j) ∈ deps → L j = true) → ∀ i, i < n → L i = true)
    (hcong : ∀ L L' vals w, (∀ i, i < n → L i = L' i) → R L vals w → R L' vals w)
    (h0 : R (fun _ => false) (fun _ => undef) w0.drew)
    (hstep : ∀ (L : Nat → Bool) vals w (a : Act) i o (K : Act → World → Prop), i < n → ops[i]? = some o → R L vals w → (∀ p q, (p, q) ∈ deps → L p = true → L q = true) → L i = false → (∀ j, (i, j) ∈ deps → L j = true) → (∀ t, t < b → a.tmps[t]? = a0.tmps[t]?) → (∀ j, j < n → L j = true → a.tmps[b + j]? = some (vals j)) → (∀ v w', R (fun j => if j = i then true else L j) (fun j => if j = i then v else vals j) w' → K (a.put o.dst v) w') → o.wp P a w K Q)
    (hlast : ∀ (L : Nat → Bool) vals w (a : Act) o (K : Act → World → Prop), ops[n]? = some o → R L vals w → (∀ i, i < n → L i = true) → (∀ t, t < b → a.tmps[t]? = a0.tmps[t]?) → (∀ j, j < n → a.tmps[b + j]? = some (vals j)) → K (a.put o.dst undef) (w.setCell ad (sv vals)) → o.wp P a w K Q)
    (hQ : ∀ (L : Nat → Bool) vals w, R L vals w → (∀ i, i < n → L i = true) → Q .normal (putsFrom a0 b ((List.range n).map vals)) (w.setCell ad (sv vals))) :
    (Code.region id ops true).wp P Q a0 w0 := by
  have gd : ∀ (i : Nat) (o : Oper), ops[i]? = some o → o.guard = none := fun i o h => by
    have := List.all_eq_true.1 hg o (Array.mem_toList_iff.2 (Array.mem_of_getElem? h))
    simpa using this
  have ds : ∀ (i : Nat) (o : Oper), i < n → ops[i]? = some o → o.dst = some (b + i) := fun i o hi h => by
    have e := congrArg (fun l => l[i]?) hd
    simp only [List.getElem?_map, Array.getElem?_toList, h, Option.map_some] at e
    rw [List.getElem?_append_left (by simp; exact hi)] at e
    simpa [hi] using e
  have dn : ∀ (o : Oper), ops[n]? = some o → o.dst = none := fun o h => by
    have e := congrArg (fun l => l[n]?) hd
    simp only [List.getElem?_map, Array.getElem?_toList, h, Option.map_some] at e
    rw [List.getElem?_append_right (by simp)] at e
    simpa using e
  refine wp_region_any hm (wpAny_inv (fun l a w => RVs a0 a b n deps R ad sv w l) ?_ ?_ _ _ _ _ (by simp) ?_)
  · intro l a w S i hr
    obtain ⟨hl, o, ho, _⟩ := mem_ready.1 hr
    have hi : i < n + 1 := by
      rcases Nat.lt_or_ge i (n + 1) with h | h
      · exact h
      · rw [Array.getElem?_eq_none (by omega)] at ho; cases ho
    have il : i < l.size := by rw [S.lsz]; exact hi
    have lf : l.getD i false = false := by
      have h2 : l[i]? = some l[i] := by simp [il]
      simp only [Array.getD_eq_getD_getElem?, h2, Option.getD_some] at hl ⊢
      exact hl
    have cl := clV_step il hr S.cl E2
    have need : ∀ j, (i, j) ∈ deps → l.getD j false = true := fun j m => ready_needs hr ((List.all_eq_true.1 E2) (i, j) m)
    have ls' : (l.setIfInBounds i true).size = n + 1 := by simp [S.lsz]
    have gs := fun j => getD_set l i j il
    obtain ⟨vals, w', hR, hv, hw⟩ := S.st
    refine wpOp_of ho (gd i o ho) ?_
    by_cases h1 : i < n
    · have ln : l.getD n false = false := by
        cases q : l.getD n false with
        | false => rfl
        | true =>
          have := hall (fun i => l.getD i false) S.cl (fun j m => S.cl n j m q) i h1
          rw [lf] at this; cases this
      have hw' : w = w' := by rw [hw, ln]; rfl
      subst hw'
      refine hstep (fun i => l.getD i false) vals w a i o _ h1 ho hR S.cl lf need (fun t ht => S.keep t (Or.inl ht)) hv ?_
      intro v w2 hR2
      rw [ds i o h1 ho]
      have sz : b + i < a.tmps.size := by rw [S.sz]; omega
      refine ⟨ls', by rw [put_sizeE]; exact S.sz, by rw [put_defersE]; exact S.df, fun t ht => ?_, cl, (fun j => if j = i then v else vals j), w2, ?_, fun j hj hl => ?_, ?_⟩
      · rw [put_getE _ _ _ _ sz, if_neg (by omega)]; exact S.keep t ht
      · refine hcong _ _ _ _ (fun j _ => ?_) hR2
        rw [gs]
      · rw [put_getE _ _ _ _ sz]
        by_cases e : j = i
        · subst e; simp
        · rw [if_neg (by omega)]
          simp only [if_neg e]
          rw [gs, if_neg e] at hl
          exact hv j hj hl
      · rw [gs n, if_neg (show ¬ (n = i) by omega), ln]; rfl
    · obtain rfl : i = n := by omega
      have hw' : w = w' := by rw [hw, lf]; rfl
      subst hw'
      have al := hall (fun i => l.getD i false) S.cl need
      refine hlast (fun i => l.getD i false) vals w a o _ ho hR al (fun t ht => S.keep t (Or.inl ht)) (fun j hj => hv j hj (al j hj)) ?_
      rw [dn o ho]
      refine ⟨ls', S.sz, S.df, S.keep, cl, vals, w, ?_, fun j hj _ => hv j hj (al j hj), ?_⟩
      · refine hcong _ _ _ _ (fun j hj => ?_) hR
        rw [gs, if_neg (by omega)]
      · rw [gs, if_pos rfl]; rfl
  · intro l a w S hr
    have h : ∀ k, k < n + 1 → l.getD k false = true := fun k hk => by
      have h1 := ready_noneE hr (by rw [S.lsz, hn]) (fun k hk => (List.all_eq_true.1 E1) k (List.mem_range.2 (by omega))) k (by omega)
      have kl : k < l.size := by rw [S.lsz]; exact hk
      simpa [Array.getD_eq_getD_getElem?, kl] using h1
    obtain ⟨vals, w', hR, hv, hw⟩ := S.st
    rw [h n (by omega)] at hw
    have e3 : w = w'.setCell ad (sv vals) := hw
    rw [e3, act_puts (a0 := a0) (b := b) (l := (List.range n).map vals) S.sz S.df (by simp; omega) (fun t ht => S.keep t (by simp at ht; omega)) (fun i hi => ?_)]
    · exact hQ (fun i => l.getD i false) vals w' hR (fun i hi => h i (by omega))
    · simp only [List.length_map, List.length_range] at hi
      rw [hv i hi (h i (by omega))]
      simp [hi]
  · have f : ∀ i, (Array.replicate ops.size false).getD i false = false := fun i => by simp [Array.getD_eq_getD_getElem?, Array.getElem?_replicate]; split <;> rfl
    refine ⟨by simp [hn], rfl, rfl, fun _ _ => rfl, fun i j _ h => (by rw [f] at h; cases h), fun _ => undef, w0.drew, ?_, fun i _ h => (by rw [f] at h; cases h), ?_⟩
    · exact hcong _ _ _ _ (fun i _ => (f i).symm) h0
    · rw [f]; rfl
end Go.Proofs.YtpppmollmiomlaaDoor

