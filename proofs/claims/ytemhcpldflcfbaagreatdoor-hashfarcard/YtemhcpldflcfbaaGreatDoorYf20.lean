/-
  What the last text of this claim leans on, part 20: Rv1, Hd4.
-/
import Derived.Test.YtemhcpldflcfbaaGreatDoorYf5
import Derived.Test.YtemhcpldflcfbaaGreatDoorYf19
namespace Go.Proofs.YtemhcpldflcfbaaGreatDoor
open Go.RowKit
set_option linter.unusedVariables false
def putsFrom (a : Act) (b : Nat) : List Value → Act
 | [] => a
 | v :: r => putsFrom (a.put (some b) v) (b + 1) r
theorem put_getE (a : Act) (t k : Nat) (v : Value) (ht : t < a.tmps.size) : (a.put (some t) v).tmps[k]? = if k = t then some v else a.tmps[k]? := by
 unfold Act.put
 dsimp only
 rw [Array.getElem?_setIfInBounds]
 by_cases h : t = k
 ·subst h; rw [if_pos rfl, if_pos ht, if_pos rfl]
 ·rw [if_neg h, if_neg (fun e => h e.symm)]
theorem eval_ofE {a : Act} {t : Nat} {v : Value} (h : a.tmps[t]? = some v) : a.eval (.tmp t) = v := by simp [Act.eval, h]
theorem put_sizeE (a : Act) (t : Option Nat) (v : Value) : (a.put t v).tmps.size = a.tmps.size := by cases t <;> simp [Act.put]
theorem put_defersE (a : Act) (t : Option Nat) (v : Value) : (a.put t v).defers = a.defers := by cases t <;> rfl
theorem puts_defers (l : List Value) : ∀ (a : Act) (b : Nat), (putsFrom a b l).defers = a.defers := by
 induction l with
 | nil => intro a b; rfl
 | cons v r ih => intro a b; rw [putsFrom, ih, put_defersE]
theorem puts_get (l : List Value) : ∀ (a : Act) (b t : Nat), b + l.length ≤ a.tmps.size → (putsFrom a b l).tmps[t]? = if b ≤ t ∧ t < b + l.length then l[t - b]? else a.tmps[t]? := by
 induction l with
 | nil => intro a b t _; rw [if_neg (by simp)]; rfl
 | cons v r ih =>
  intro a b t h
  simp only [List.length_cons] at h
  rw [putsFrom, ih _ _ _ (by rw [put_sizeE]; omega), put_getE _ _ _ _ (by omega)]
  simp only [List.length_cons]
  by_cases e : t = b
  ·subst e
   rw [if_neg (by omega), if_pos rfl, if_pos (by omega)]
   simp
  ·rw [if_neg e]
   by_cases c : b ≤ t ∧ t < b + (r.length + 1)
   ·rw [if_pos (by omega), if_pos c, show t - b = (t - (b + 1)) + 1 by omega, List.getElem?_cons_succ]
   ·rw [if_neg (by omega), if_neg c]
theorem act_puts {a a0 : Act} {b : Nat} {l : List Value} (hs : a.tmps.size = a0.tmps.size) (hd : a.defers = a0.defers) (hb : b + l.length ≤ a0.tmps.size) (hk : ∀ t, t < b ∨ b + l.length ≤ t → a.tmps[t]? = a0.tmps[t]?) (hv : ∀ i, i < l.length → a.tmps[b + i]? = l[i]?) : a = putsFrom a0 b l := by
 have e : a.tmps = (putsFrom a0 b l).tmps := Array.ext_getElem? fun t => by
  rw [puts_get l a0 b t hb]
  by_cases c : b ≤ t ∧ t < b + l.length
  ·rw [if_pos c]
   have := hv (t - b) (by omega)
   rw [show b + (t - b) = t by omega] at this
   exact this
  ·rw [if_neg c]
   exact hk t (by omega)
 have f := puts_defers l a0 b
 cases a
 cases hp : putsFrom a0 b l
 rw [hp] at e f
 simp at e f hd
 subst e
 rw [hd, f]
theorem getD_set (l : Array Bool) (i j : Nat) (hi : i < l.size) : (l.setIfInBounds i true).getD j false = if j = i then true else l.getD j false := by
 simp only [Array.getD_eq_getD_getElem?, Array.getElem?_setIfInBounds]
 by_cases h : i = j
 ·subst h; simp [hi]
 ·rw [if_neg h, if_neg (fun e => h e.symm)]
theorem ready_noneE {ops : Array Oper} {listed : Array Bool} (hr : Region.ready .any ops listed = []) (hs : listed.size = ops.size) (h : ∀ k, k < ops.size → ((ops[k]?).map fun o => o.after.all fun e => !Region.binds .any e || decide (e.on < k)).getD false = true) : ∀ k, k < ops.size → listed.getD k true = true := by
 intro k
 induction k using Nat.strongRecOn with
 | ind k ih =>
  intro hk
  cases hl : listed.getD k true with
  | true => rfl
  | false =>
   exfalso
   have : k ∈ Region.ready .any ops listed := by
    refine mem_ready.2 ⟨hl, ops[k], by simp [hk], fun e he hbd => ?_⟩
    have h1 := h k hk
    rw [show ops[k]? = some ops[k] by simp [hk]] at h1
    simp only [Option.map_some, Option.getD_some, Array.all_eq_true] at h1
    obtain ⟨n, hn, rfl⟩ := Array.getElem_of_mem he
    have h2 : (ops[k].after[n]).on < k := by
     have := h1 n hn
     rw [hbd] at this
     simpa using this
    have h3 := ih _ h2 (by omega)
    have h4 : (ops[k].after[n]).on < listed.size := by omega
    simpa [Array.getD_eq_getD_getElem?, h4] using h3
   rw [hr] at this
   cases this
structure RVs (a0 a : Act) (b n : Nat) (deps : List (Nat × Nat)) (R : (Nat → Bool) → (Nat → Value) → World → Prop) (ad : Addr) (sv : (Nat → Value) → Value) (w : World) (l : Array Bool) : Prop where
 lsz : l.size = n + 1
 sz : a.tmps.size = a0.tmps.size
 df : a.defers = a0.defers
 keep : ∀ t, t < b ∨ b + n ≤ t → a.tmps[t]? = a0.tmps[t]?
 cl : ∀ i j, (i, j) ∈ deps → l.getD i false = true → l.getD j false = true
 st : ∃ vals w', R (fun i => l.getD i false) vals w' ∧ (∀ i, i < n → l.getD i false = true → a.tmps[b + i]? = some (vals i)) ∧ w = if l.getD n false then w'.setCell ad (sv vals) else w'
theorem clV_step {deps : List (Nat × Nat)} {l : Array Bool} {ops : Array Oper} {i : Nat} (hi : i < l.size) (hr : i ∈ Region.ready .any ops l) (cl : ∀ i j, (i, j) ∈ deps → l.getD i false = true → l.getD j false = true)
  (E2 : (deps.all fun (x : Nat × Nat) => ((ops[x.1]?).map fun o => o.after.any fun e => Region.binds .any e && e.on == x.2).getD false) = true) : ∀ p q, (p, q) ∈ deps → (l.setIfInBounds i true).getD p false = true → (l.setIfInBounds i true).getD q false = true := by
 intro p q m h
 rw [getD_set _ _ _ hi] at h ⊢
 by_cases e : q = i
 ·rw [if_pos e]
 ·rw [if_neg e]
  by_cases f : p = i
  ·subst f
   exact ready_needs hr ((List.all_eq_true.1 E2) (p, q) m)
  ·rw [if_neg f] at h
   exact cl p q m h
set_option maxHeartbeats 3200000 in
theorem regionV {P : Program} {id : Nat} {Q : Exit → Act → World → Prop} {a0 : Act} {w0 : World} (hm : P.follows .mixedOrders = true) (ops : Array Oper) (n b : Nat) (deps : List (Nat × Nat)) (R : (Nat → Bool) → (Nat → Value) → World → Prop) (ad : Addr) (sv : (Nat → Value) → Value)
  (hn : ops.size = n + 1) (hz : b + n ≤ a0.tmps.size)
  (hg : (ops.toList.all fun o => o.guard.isNone) = true)
  (hd : ops.toList.map (·.dst) = (List.range n).map (fun i => some (b + i)) ++ [none])
  (E1 : ((List.range (n + 1)).all fun k => ((ops[k]?).map fun o => o.after.all fun e => !Region.binds .any e || decide (e.on < k)).getD false) = true)
  (E2 : (deps.all fun (x : Nat × Nat) => ((ops[x.1]?).map fun o => o.after.any fun e => Region.binds .any e && e.on == x.2).getD false) = true)
  (hall : ∀ L : Nat → Bool, (∀ i j, (i, j) ∈ deps → L i = true → L j = true) → (∀ j, (n, j) ∈ deps → L j = true) → ∀ i, i < n → L i = true)
  (hcong : ∀ L L' vals w, (∀ i, i < n → L i = L' i) → R L vals w → R L' vals w)
  (h0 : R (fun _ => false) (fun _ => undef) w0.drew)
  (hstep : ∀ (L : Nat → Bool) vals w (a : Act) i o (K : Act → World → Prop), i < n → ops[i]? = some o → R L vals w → (∀ p q, (p, q) ∈ deps → L p = true → L q = true) → L i = false → (∀ j, (i, j) ∈ deps → L j = true) → (∀ t, t < b → a.tmps[t]? = a0.tmps[t]?) → (∀ j, j < n → L j = true → a.tmps[b + j]? = some (vals j)) → (∀ v w', R (fun j => if j = i then true else L j) (fun j => if j = i then v else vals j) w' → K (a.put o.dst v) w') → o.wp P a w K Q)
  (hlast : ∀ (L : Nat → Bool) vals w (a : Act) o (K : Act → World → Prop), ops[n]? = some o → R L vals w → (∀ i, i < n → L i = true) → (∀ t, t < b → a.tmps[t]? = a0.tmps[t]?) → (∀ j, j < n → a.tmps[b + j]? = some (vals j)) → K (a.put o.dst undef) (w.setCell ad (sv vals)) → o.wp P a w K Q)
  (hQ : ∀ (L : Nat → Bool) vals w, R L vals w → (∀ i, i < n → L i = true) → Q .normal (putsFrom a0 b ((List.range n).map vals)) (w.setCell ad (sv vals))) :
  (Code.region id ops true).wp P Q a0 w0 := by
 have gd : ∀ (i : Nat) (o : Oper), ops[i]? = some o → o.guard = none := fun i o h => by
  have := List.all_eq_true.1 hg o (Array.mem_toList_iff.2 (Array.mem_of_getElem? h))
  simpa using this
 have ds : ∀ (i : Nat) (o : Oper), i < n → ops[i]? = some o → o.dst = some (b + i) := fun i o hi h => by
  have e := congrArg (fun l => l[i]?) hd
  simp only [List.getElem?_map, Array.getElem?_toList, h, Option.map_some] at e
  rw [List.getElem?_append_left (by simp; exact hi)] at e
  simpa [hi] using e
 have dn : ∀ (o : Oper), ops[n]? = some o → o.dst = none := fun o h => by
  have e := congrArg (fun l => l[n]?) hd
  simp only [List.getElem?_map, Array.getElem?_toList, h, Option.map_some] at e
  rw [List.getElem?_append_right (by simp)] at e
  simpa using e
 refine wp_region_any hm (wpAny_inv (fun l a w => RVs a0 a b n deps R ad sv w l) ?_ ?_ _ _ _ _ (by simp) ?_)
 ·intro l a w S i hr
  obtain ⟨hl, o, ho, _⟩ := mem_ready.1 hr
  have hi : i < n + 1 := by
   rcases Nat.lt_or_ge i (n + 1) with h | h
   ·exact h
   ·rw [Array.getElem?_eq_none (by omega)] at ho; cases ho
  have il : i < l.size := by rw [S.lsz]; exact hi
  have lf : l.getD i false = false := by
   have h2 : l[i]? = some l[i] := by simp [il]
   simp only [Array.getD_eq_getD_getElem?, h2, Option.getD_some] at hl ⊢
   exact hl
  have cl := clV_step il hr S.cl E2
  have need : ∀ j, (i, j) ∈ deps → l.getD j false = true := fun j m => ready_needs hr ((List.all_eq_true.1 E2) (i, j) m)
  have ls' : (l.setIfInBounds i true).size = n + 1 := by simp [S.lsz]
  have gs := fun j => getD_set l i j il
  obtain ⟨vals, w', hR, hv, hw⟩ := S.st
  refine wpOp_of ho (gd i o ho) ?_
  by_cases h1 : i < n
  ·have ln : l.getD n false = false := by
    cases q : l.getD n false with
    | false => rfl
    | true =>
     have := hall (fun i => l.getD i false) S.cl (fun j m => S.cl n j m q) i h1
     rw [lf] at this; cases this
   have hw' : w = w' := by rw [hw, ln]; rfl
   subst hw'
   refine hstep (fun i => l.getD i false) vals w a i o _ h1 ho hR S.cl lf need (fun t ht => S.keep t (Or.inl ht)) hv ?_
   intro v w2 hR2
   rw [ds i o h1 ho]
   have sz : b + i < a.tmps.size := by rw [S.sz]; omega
   refine ⟨ls', by rw [put_sizeE]; exact S.sz, by rw [put_defersE]; exact S.df, fun t ht => ?_, cl, (fun j => if j = i then v else vals j), w2, ?_, fun j hj hl => ?_, ?_⟩
   ·rw [put_getE _ _ _ _ sz, if_neg (by omega)]; exact S.keep t ht
   ·refine hcong _ _ _ _ (fun j _ => ?_) hR2
    rw [gs]
   ·rw [put_getE _ _ _ _ sz]
    by_cases e : j = i
    ·subst e; simp
    ·rw [if_neg (by omega)]
     simp only [if_neg e]
     rw [gs, if_neg e] at hl
     exact hv j hj hl
   ·rw [gs n, if_neg (show ¬ (n = i) by omega), ln]; rfl
  ·obtain rfl : i = n := by omega
   have hw' : w = w' := by rw [hw, lf]; rfl
   subst hw'
   have al := hall (fun i => l.getD i false) S.cl need
   refine hlast (fun i => l.getD i false) vals w a o _ ho hR al (fun t ht => S.keep t (Or.inl ht)) (fun j hj => hv j hj (al j hj)) ?_
   rw [dn o ho]
   refine ⟨ls', S.sz, S.df, S.keep, cl, vals, w, ?_, fun j hj _ => hv j hj (al j hj), ?_⟩
   ·refine hcong _ _ _ _ (fun j hj => ?_) hR
    rw [gs, if_neg (by omega)]
   ·rw [gs, if_pos rfl]; rfl
 ·intro l a w S hr
  have h : ∀ k, k < n + 1 → l.getD k false = true := fun k hk => by
   have h1 := ready_noneE hr (by rw [S.lsz, hn]) (fun k hk => (List.all_eq_true.1 E1) k (List.mem_range.2 (by omega))) k (by omega)
   have kl : k < l.size := by rw [S.lsz]; exact hk
   simpa [Array.getD_eq_getD_getElem?, kl] using h1
  obtain ⟨vals, w', hR, hv, hw⟩ := S.st
  rw [h n (by omega)] at hw
  have e3 : w = w'.setCell ad (sv vals) := hw
  rw [e3, act_puts (a0 := a0) (b := b) (l := (List.range n).map vals) S.sz S.df (by simp; omega) (fun t ht => S.keep t (by simp at ht; omega)) (fun i hi => ?_)]
  ·exact hQ (fun i => l.getD i false) vals w' hR (fun i hi => h i (by omega))
  ·simp only [List.length_map, List.length_range] at hi
   rw [hv i hi (h i (by omega))]
   simp [hi]
 ·have f : ∀ i, (Array.replicate ops.size false).getD i false = false := fun i => by simp [Array.getD_eq_getD_getElem?, Array.getElem?_replicate]; split <;> rfl
  refine ⟨by simp [hn], rfl, rfl, fun _ _ => rfl, fun i j _ h => (by rw [f] at h; cases h), fun _ => undef, w0.drew, ?_, fun i _ h => (by rw [f] at h; cases h), ?_⟩
  ·exact hcong _ _ _ _ (fun i _ => (f i).symm) h0
  ·rw [f]; rfl
def cidx (i : Nat) : Nat := if i = 0 then 5 else if i = 1 then 10 else if i = 2 then 15 else if i = 3 then 20 else 22
def bidx (i : Nat) : Nat := if i = 0 then 4 else if i = 1 then 9 else if i = 2 then 14 else if i = 3 then 19 else 21
def AAp (p0 p1 p2 p3 : Nat) (ts : Nat → Nat) (i j : Nat) : Nat := if i = 0 then (if j = 3 then p0 else 0) else if i = 1 then (if j = 2 then p1 else 0) else if i = 2 then (if j = 1 then p2 else 0) else if i = 3 then (if j = 0 then p3 else 0) else ts j
def ChnQ (p0 p1 p2 p3 : Nat) (qs0 : List Sq) (ts : Nat → Nat) : Nat → List Sq → Prop
 | 0, qs => qs = qs0
 | k + 1, qs => ∃ qs', ChnQ p0 p1 p2 p3 qs0 ts k qs' ∧ JoinQ qs' (AAp p0 p1 p2 p3 ts k 0) (AAp p0 p1 p2 p3 ts k 1) (AAp p0 p1 p2 p3 ts k 2) (AAp p0 p1 p2 p3 ts k 3) qs (ts k)
theorem AAp_ext {p0 p1 p2 p3 : Nat} {ts ts' : Nat → Nat} {i : Nat} (h : i < 4 ∨ ∀ j, j < 4 → ts j = ts' j) (j : Nat) (hj : j < 4) : AAp p0 p1 p2 p3 ts i j = AAp p0 p1 p2 p3 ts' i j := by
 unfold AAp
 rcases h with h | h
 ·have : i = 0 ∨ i = 1 ∨ i = 2 ∨ i = 3 := by omega
  rcases this with rfl | rfl | rfl | rfl <;> simp
 ·rw [h j hj]
theorem ChnQ.ext {p0 p1 p2 p3 : Nat} {qs0 : List Sq} {ts ts' : Nat → Nat} : ∀ {k : Nat} {qs : List Sq}, k ≤ 5 → (∀ j, j < k → ts j = ts' j) → ChnQ p0 p1 p2 p3 qs0 ts k qs → ChnQ p0 p1 p2 p3 qs0 ts' k qs
 | 0, _, _, _, h => h
 | k + 1, qs, hk, he, ⟨qs', h1, h2⟩ => by
  have e := fun j hj => AAp_ext (p0 := p0) (p1 := p1) (p2 := p2) (p3 := p3) (ts := ts) (ts' := ts') (i := k) (by
   by_cases c : k < 4
   ·exact Or.inl c
   ·exact Or.inr fun j hj => he j (by omega)) j hj
  refine ⟨qs', ChnQ.ext (by omega) (fun j hj => he j (by omega)) h1, ?_⟩
  rw [← e 0 (by omega), ← e 1 (by omega), ← e 2 (by omega), ← e 3 (by omega), ← he k (by omega)]
  exact h2
theorem ChnQ.len {p0 p1 p2 p3 : Nat} {qs0 : List Sq} {ts : Nat → Nat} : ∀ {k : Nat} {qs : List Sq}, ChnQ p0 p1 p2 p3 qs0 ts k qs → ∃ ms, qs = qs0 ++ ms ∧ ms.length ≤ k
 | 0, _, h => ⟨[], by rw [show _ = qs0 from h]; simp, by simp⟩
 | k + 1, qs, ⟨qs', h1, h2⟩ => by
  obtain ⟨ms, e1, l1⟩ := h1.len
  obtain ⟨m2, e2, l2⟩ := h2.app
  exact ⟨ms ++ m2, by rw [e2, e1, List.append_assoc], by rw [List.length_append]; omega⟩
theorem JoinQ.lt {qs qs' : List Sq} {a b c d t : Nat} (hS : StQ qs) (h : JoinQ qs a b c d qs' t) : t < qs'.length := by
 rcases h with ⟨_, _, _, _, rfl, rfl⟩ | ⟨_, rfl, l, rfl⟩ | ⟨_, _, h, rfl, _⟩
 ·exact hS.1
 ·simp
 ·exact h
theorem ChnQ.lts {p0 p1 p2 p3 : Nat} {qs0 : List Sq} {ts : Nat → Nat} (hS : StQ qs0) : ∀ {k : Nat} {qs : List Sq}, ChnQ p0 p1 p2 p3 qs0 ts k qs → ∀ j, j < k → ts j < qs.length
 | 0, _, _, j, hj => absurd hj (by omega)
 | k + 1, qs, ⟨qs', h1, h2⟩, j, hj => by
  have s' : StQ qs' := by obtain ⟨ms, e, _⟩ := h1.len; rw [e]; exact hS.app ms
  by_cases e : j = k
  ·subst e; exact h2.lt s'
  ·have := ChnQ.lts hS h1 j (by omega)
   obtain ⟨m2, e2, _⟩ := h2.app
   rw [e2, List.length_append]; omega
def PdR (mp : Option (Nat × Nat)) (pvl : List (Option Value)) (p0 p1 p2 p3 : Nat) (qs0 : List Sq) (sb B g : Nat) (w3 : World) (L : Nat → Bool) (vals : Nat → Value) (w : World) : Prop :=
 (∀ i v, pvl[i]? = some (some v) → L i = true → vals i = v) ∧ ∃ (k : Nat) (ts : Nat → Nat) (qs' : List Sq) (g' cap' : Nat), k ≤ 5 ∧ (∀ i, i < 5 → (L (cidx i) = true ↔ i < k)) ∧ (∀ i, i < k → vals (cidx i) = .int .i32 (ts i : Int)) ∧ ChnQ p0 p1 p2 p3 qs0 ts k qs' ∧ StkA w sb B g' cap' qs' mp ∧ KpS sb g g' w3 w mp ∧ (L 21 = true → 4 ≤ k) ∧
  ∀ i, i < 5 → L (bidx i) = true → ∃ x, vals (bidx i) = .slice (some ⟨x, 0, none⟩) 4 4 ∧ (k ≤ i → w.heap[x]? = some (.cells #[.int .i32 (AAp p0 p1 p2 p3 ts i 0 : Int), .int .i32 (AAp p0 p1 p2 p3 ts i 1 : Int), .int .i32 (AAp p0 p1 p2 p3 ts i 2 : Int), .int .i32 (AAp p0 p1 p2 p3 ts i 3 : Int)] 21 (0, 0)))
theorem cb_ne {i j : Nat} (hi : i < 5) (hj : j < 5) : cidx i ≠ bidx j := by
 have a : i = 0 ∨ i = 1 ∨ i = 2 ∨ i = 3 ∨ i = 4 := by omega
 have b : j = 0 ∨ j = 1 ∨ j = 2 ∨ j = 3 ∨ j = 4 := by omega
 rcases a with rfl | rfl | rfl | rfl | rfl <;> rcases b with rfl | rfl | rfl | rfl | rfl <;> decide
theorem cidx_inj {i j : Nat} (hi : i < 5) (hj : j < 5) (h : cidx i = cidx j) : i = j := by
 have a : i = 0 ∨ i = 1 ∨ i = 2 ∨ i = 3 ∨ i = 4 := by omega
 have b : j = 0 ∨ j = 1 ∨ j = 2 ∨ j = 3 ∨ j = 4 := by omega
 rcases a with rfl | rfl | rfl | rfl | rfl <;> rcases b with rfl | rfl | rfl | rfl | rfl <;> first | rfl | (revert h; decide)
theorem bidx_inj {i j : Nat} (hi : i < 5) (hj : j < 5) (h : bidx i = bidx j) : i = j := by
 have a : i = 0 ∨ i = 1 ∨ i = 2 ∨ i = 3 ∨ i = 4 := by omega
 have b : j = 0 ∨ j = 1 ∨ j = 2 ∨ j = 3 ∨ j = 4 := by omega
 rcases a with rfl | rfl | rfl | rfl | rfl <;> rcases b with rfl | rfl | rfl | rfl | rfl <;> first | rfl | (revert h; decide)
theorem PdR.cong {mp : Option (Nat × Nat)} {pvl : List (Option Value)} {p0 p1 p2 p3 : Nat} {qs0 : List Sq} {sb B g : Nat} {w3 : World} {L : Nat → Bool} {vals : Nat → Value} {w : World} {L' : Nat → Bool} (h : PdR mp pvl p0 p1 p2 p3 qs0 sb B g w3 L vals w) (hl : pvl.length = 24) (e : ∀ i, i < 24 → L i = L' i) : PdR mp pvl p0 p1 p2 p3 qs0 sb B g w3 L' vals w := by
 have ec : ∀ i, i < 5 → cidx i < 24 := fun i hi => by
  have a : i = 0 ∨ i = 1 ∨ i = 2 ∨ i = 3 ∨ i = 4 := by omega
  rcases a with rfl | rfl | rfl | rfl | rfl <;> decide
 have eb : ∀ i, i < 5 → bidx i < 24 := fun i hi => by
  have a : i = 0 ∨ i = 1 ∨ i = 2 ∨ i = 3 ∨ i = 4 := by omega
  rcases a with rfl | rfl | rfl | rfl | rfl <;> decide
 obtain ⟨h1, k, ts, qs', g', cap', h2, h3, h4, h5, h6, h7, h8, h9⟩ := h
 refine ⟨fun i v hv hL => h1 i v hv (by rw [e i (by have := (List.getElem?_eq_some_iff.1 hv).1; omega)]; exact hL), k, ts, qs', g', cap', h2, fun i hi => by rw [← e _ (ec i hi)]; exact h3 i hi, h4, h5, h6, h7, fun q => h8 (by rw [e 21 (by omega)]; exact q), fun i hi q => h9 i hi (by rw [e _ (eb i hi)]; exact q)⟩
theorem PdR.pure {mp : Option (Nat × Nat)} {pvl : List (Option Value)} {p0 p1 p2 p3 : Nat} {qs0 : List Sq} {sb B g : Nat} {w3 : World} {L : Nat → Bool} {vals : Nat → Value} {w : World} {i : Nat} {v : Value} (h : PdR mp pvl p0 p1 p2 p3 qs0 sb B g w3 L vals w) (hv : pvl[i]? = some (some v)) (hc : ∀ j, j < 5 → i ≠ cidx j) (hb : ∀ j, j < 5 → i ≠ bidx j) : PdR mp pvl p0 p1 p2 p3 qs0 sb B g w3 (fun j => if j = i then true else L j) (fun j => if j = i then v else vals j) w := by
 obtain ⟨h1, k, ts, qs', g', cap', h2, h3, h4, h5, h6, h7, h8, h9⟩ := h
 refine ⟨fun j u hu hL => ?_, k, ts, qs', g', cap', h2, fun j hj => ?_, fun j hj => ?_, h5, h6, h7, fun q => ?_, fun j hj q => ?_⟩
 ·by_cases e : j = i
  ·subst e; rw [hv] at hu; injection hu with hu; injection hu with hu; simp [hu]
  ·simp only [if_neg e] at hL ⊢; exact h1 j u hu hL
 ·simp only [if_neg (Ne.symm (hc j hj))]; exact h3 j hj
 ·simp only [if_neg (Ne.symm (hc j (by omega)))]; exact h4 j hj
 ·have : (21 : Nat) ≠ i := fun e => hb 4 (by omega) (by rw [← e]; rfl)
  simp only [if_neg this] at q; exact h8 q
 ·simp only [if_neg (Ne.symm (hb j hj))] at q ⊢; exact h9 j hj q
theorem PdR.build {mp : Option (Nat × Nat)} {pvl : List (Option Value)} {p0 p1 p2 p3 : Nat} {qs0 : List Sq} {sb B g : Nat} {w3 : World} {L : Nat → Bool} {vals : Nat → Value} {w : World} {i : Nat} (h : PdR mp pvl p0 p1 p2 p3 qs0 sb B g w3 L vals w) (hi : i < 5) (hp : pvl[bidx i]? = some none) (ts' : Nat → Nat) (hts : i = 4 → (∀ j, j < 4 → L (cidx j) = true ∧ vals (cidx j) = .int .i32 (ts' j : Int))) : PdR mp pvl p0 p1 p2 p3 qs0 sb B g w3 (fun j => if j = bidx i then true else L j) (fun j => if j = bidx i then .slice (some ⟨w.heap.size, 0, none⟩) 4 4 else vals j) (w.alloc (.cells #[.int .i32 (AAp p0 p1 p2 p3 ts' i 0 : Int), .int .i32 (AAp p0 p1 p2 p3 ts' i 1 : Int), .int .i32 (AAp p0 p1 p2 p3 ts' i 2 : Int), .int .i32 (AAp p0 p1 p2 p3 ts' i 3 : Int)] 21)) := by
 obtain ⟨h1, k, ts, qs', g', cap', h2, h3, h4, h5, h6, h7, h8, h9⟩ := h
 have ea : ∀ j, j < 4 → AAp p0 p1 p2 p3 ts' i j = AAp p0 p1 p2 p3 ts i j := AAp_ext (by
  by_cases c : i = 4
  ·refine Or.inr fun j hj => ?_
   have a := (hts c j hj)
   have b := h4 j ((h3 j (by omega)).1 a.1)
   rw [b] at a
   have := a.2
   injection this with _ this
   omega
  ·exact Or.inl (by omega))
 refine ⟨fun j u hu hL => ?_, k, ts, qs', g', cap', h2, fun j hj => ?_, fun j hj => ?_, h5, h6.alloc _, h7.trans (KpS.of_below ((Below.refl _ _).alloc (Nat.le_refl _) _)), fun q => ?_, fun j hj q => ?_⟩
 ·by_cases e : j = bidx i
  ·subst e; rw [hp] at hu; cases hu
  ·simp only [if_neg e] at hL ⊢; exact h1 j u hu hL
 ·simp only [if_neg (cb_ne hj hi)]; exact h3 j hj
 ·simp only [if_neg (cb_ne (show j < 5 by omega) hi)]; exact h4 j hj
 ·by_cases c : i = 4
  ·have := (h3 3 (by omega)).1 (hts c 3 (by omega)).1
   omega
  ·have : (21 : Nat) ≠ bidx i := fun e => c (bidx_inj hi (show 4 < 5 by omega) (by rw [← e]; rfl))
   simp only [if_neg this] at q; exact h8 q
 ·by_cases e : j = i
  ·subst e
   refine ⟨w.heap.size, by simp, fun _ => ?_⟩
   rw [heap_alloc_new, ea 0 (by omega), ea 1 (by omega), ea 2 (by omega), ea 3 (by omega)]
  ·have ne : bidx j ≠ bidx i := fun c => e (bidx_inj hj hi c)
   simp only [if_neg ne] at q ⊢
   obtain ⟨x, a, b⟩ := h9 j hj q
   exact ⟨x, a, fun c => (heap_alloc_old _ _ (lt_of_block (b c))).trans (b c)⟩
theorem PdR.call {mp : Option (Nat × Nat)} {pvl : List (Option Value)} {p0 p1 p2 p3 : Nat} {qs0 : List Sq} {sb B g : Nat} {w3 : World} {L : Nat → Bool} {vals : Nat → Value} {w : World} {i : Nat} {v4 : Value} {t' : Nat} {W : World} {g2 cap2 : Nat} {qs2 : List Sq} {k : Nat} {ts : Nat → Nat} {qs' : List Sq} {g' cap' : Nat} (hi : i < 5) (hp : pvl[cidx i]? = some none)
  (h1 : ∀ i v, pvl[i]? = some (some v) → L i = true → vals i = v) (h3 : ∀ i, i < 5 → (L (cidx i) = true ↔ i < k)) (h4 : ∀ i, i < k → vals (cidx i) = .int .i32 (ts i : Int)) (h5 : ChnQ p0 p1 p2 p3 qs0 ts k qs') (h6 : StkA w sb B g' cap' qs' mp) (h7 : KpS sb g g' w3 w mp) (h8 : L 21 = true → 4 ≤ k)
  (h9 : ∀ i, i < 5 → L (bidx i) = true → ∃ x, vals (bidx i) = .slice (some ⟨x, 0, none⟩) 4 4 ∧ (k ≤ i → w.heap[x]? = some (.cells #[.int .i32 (AAp p0 p1 p2 p3 ts i 0 : Int), .int .i32 (AAp p0 p1 p2 p3 ts i 1 : Int), .int .i32 (AAp p0 p1 p2 p3 ts i 2 : Int), .int .i32 (AAp p0 p1 p2 p3 ts i 3 : Int)] 21 (0, 0))))
  (hk : k = i) (hs : StkA W sb B g2 cap2 qs2 mp) (hj : JoinQ qs' (AAp p0 p1 p2 p3 ts i 0) (AAp p0 p1 p2 p3 ts i 1) (AAp p0 p1 p2 p3 ts i 2) (AAp p0 p1 p2 p3 ts i 3) qs2 t') (hkp : KpS sb g' g2 w W mp) (hb4 : ∀ j, j < 5 → i < j → L (bidx j) = true → j < 4) :
  PdR mp pvl p0 p1 p2 p3 qs0 sb B g w3 (fun j => if j = cidx i then true else L j) (fun j => if j = cidx i then .int .i32 (t' : Int) else vals j) W := by
 subst hk
 obtain ⟨ts2, hts2⟩ : ∃ f : Nat → Nat, f = fun j => if j = k then t' else ts j := ⟨_, rfl⟩
 have e1 : ∀ j, j < k → ts j = ts2 j := fun j hj => by rw [hts2]; simp only [if_neg (show j ≠ k by omega)]
 have e2 : ts2 k = t' := by rw [hts2]; simp
 have ea : ∀ j, j < 4 → AAp p0 p1 p2 p3 ts k j = AAp p0 p1 p2 p3 ts2 k j := AAp_ext (by
  by_cases c : k < 4
  ·exact Or.inl c
  ·exact Or.inr fun j hj => e1 j (by omega))
 refine ⟨fun j u hu hL => ?_, k + 1, ts2, qs2, g2, cap2, by omega, fun j hj => ?_, fun j hj => ?_, ⟨qs', h5.ext (by omega) e1, ?_⟩, hs, h7.trans hkp, fun q => ?_, fun j hj q => ?_⟩
 ·by_cases e : j = cidx k
  ·subst e; rw [hp] at hu; cases hu
  ·simp only [if_neg e] at hL ⊢; exact h1 j u hu hL
 ·by_cases e : j = k
  ·subst e; simp
  ·have ne : cidx j ≠ cidx k := fun c => e (cidx_inj hj hi c)
   simp only [if_neg ne]
   rw [h3 j hj]; omega
 ·by_cases e : j = k
  ·subst e; simp [e2]
  ·have ne : cidx j ≠ cidx k := fun c => e (cidx_inj (by omega) hi c)
   simp only [if_neg ne]
   rw [h4 j (by omega), e1 j (by omega)]
 ·rw [← ea 0 (by omega), ← ea 1 (by omega), ← ea 2 (by omega), ← ea 3 (by omega), e2]; exact hj
 ·have : (21 : Nat) ≠ cidx k := fun e => cb_ne hi (show 4 < 5 by omega) (by rw [← e]; rfl)
  simp only [if_neg this] at q
  have := h8 q
  omega
 ·simp only [if_neg (Ne.symm (cb_ne hi hj))] at q ⊢
  obtain ⟨x, a, b⟩ := h9 j hj q
  refine ⟨x, a, fun c => ?_⟩
  have bx := b (by omega)
  have ne := h6.ne_four bx (by decide) (by decide)
  have j4 : j < 4 := hb4 j hj (by omega) q
  have eb := fun i hi => AAp_ext (p0 := p0) (p1 := p1) (p2 := p2) (p3 := p3) (ts := ts) (ts' := ts2) (i := j) (Or.inl j4) i hi
  rw [hkp.keepM x (lt_of_block bx) ne.1 ne.2 (h6.nomap bx), bx, eb 0 (by omega), eb 1 (by omega), eb 2 (by omega), eb 3 (by omega)]
end Go.Proofs.YtemhcpldflcfbaaGreatDoor
