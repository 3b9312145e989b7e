/-
  What the last text of this claim leans on, part 48: Hw1, Hw2.
-/
import Derived.Test.YtemhcpldflcfbaaGreatDoorYf20
import Derived.Test.YtemhcpldflcfbaaGreatDoorYf6
namespace Go.Proofs.YtemhcpldflcfbaaGreatDoor
open Go.RowKit
set_option linter.unusedVariables false
def putsO (a : Act) : List (Option Nat × Value) → Act
 | [] => a
 | p :: r => putsO (a.put p.1 p.2) r
theorem putsO_defers : ∀ (l : List (Option Nat × Value)) (a : Act), (putsO a l).defers = a.defers
 | [], _ => rfl
 | p :: r, a => by rw [putsO, putsO_defers r, put_defersE]
theorem put_farO (a : Act) (o : Option Nat) (v : Value) (t : Nat) (h : o ≠ some t) : (a.put o v).tmps[t]? = a.tmps[t]? := by
 cases o with
 | none => rfl
 | some k =>
  unfold Act.put
  dsimp only
  rw [Array.getElem?_setIfInBounds, if_neg (fun e => h (by rw [e]))]
theorem putsO_far : ∀ (l : List (Option Nat × Value)) (a : Act) (t : Nat), (∀ p ∈ l, p.1 ≠ some t) → (putsO a l).tmps[t]? = a.tmps[t]?
 | [], _, _, _ => rfl
 | p :: r, a, t, hn => by
  rw [putsO, putsO_far r _ t (fun q hq => hn q (List.mem_cons_of_mem _ hq)), put_farO _ _ _ _ (hn p (List.mem_cons_self ..))]
theorem putsO_at : ∀ (l : List (Option Nat × Value)) (a : Act) (i t : Nat) (v : Value), t < a.tmps.size → l[i]? = some (some t, v) → (∀ j p, l[j]? = some p → p.1 = some t → j = i) → (putsO a l).tmps[t]? = some v
 | [], _, _, _, _, _, h, _ => by simp at h
 | q :: r, a, 0, t, v, hs, h, hu => by
  simp at h
  subst h
  rw [putsO, putsO_far r _ _ (fun p hp e => by
   obtain ⟨j, hj, rfl⟩ := List.getElem_of_mem hp
   have := hu (j + 1) _ (by rw [List.getElem?_cons_succ, List.getElem?_eq_getElem hj]) e
   omega)]
  show (a.put (some t) v).tmps[t]? = some v
  rw [put_getE _ _ _ _ hs, if_pos rfl]
 | q :: r, a, i + 1, t, v, hs, h, hu => by
  rw [putsO]
  refine putsO_at r _ i t v (by rw [put_sizeE]; exact hs) (by simpa using h) (fun j p hj e => ?_)
  have := hu (j + 1) p (by simpa using hj) e
  omega
theorem act_putsO {a a0 : Act} {dl : List (Option Nat)} {vals : Nat → Value} (hs : a.tmps.size = a0.tmps.size) (hd : a.defers = a0.defers) (hz : ∀ t, some t ∈ dl → t < a0.tmps.size)
  (nd : ∀ (i j t : Nat), dl[i]? = some (some t) → dl[j]? = some (some t) → j = i) (hk : ∀ t : Nat, some t ∉ dl → a.tmps[t]? = a0.tmps[t]?) (hv : ∀ i t : Nat, dl[i]? = some (some t) → a.tmps[t]? = some (vals i)) :
  a = putsO a0 ((List.range dl.length).map fun i => (dl.getD i none, vals i)) := by
 obtain ⟨l, hl⟩ : ∃ l, ((List.range dl.length).map fun i => (dl.getD i none, vals i)) = l := ⟨_, rfl⟩
 have lg : ∀ i, l[i]? = (dl[i]?).map fun o => (o, vals i) := fun i => by
  rw [← hl, List.getElem?_map]
  by_cases h : i < dl.length
  ·rw [List.getElem?_range h, List.getElem?_eq_getElem h]
   simp [List.getD, h]
  ·rw [List.getElem?_eq_none (by simp; omega), List.getElem?_eq_none (by omega)]
   rfl
 rw [hl]
 have e : a.tmps = (putsO a0 l).tmps := Array.ext_getElem? fun t => by
  by_cases c : some t ∈ dl
  ·obtain ⟨i, hi, hit⟩ := List.getElem_of_mem c
   have g : dl[i]? = some (some t) := by rw [List.getElem?_eq_getElem hi, hit]
   rw [hv i t g]
   refine (putsO_at l a0 i t _ (hz t c) (by rw [lg, g]; rfl) (fun j p hj he => ?_)).symm
   rw [lg] at hj
   cases q : dl[j]? with
   | none => rw [q] at hj; cases hj
   | some o =>
    rw [q] at hj
    simp at hj
    subst hj
    simp at he
    subst he
    exact nd i j t g q
  ·rw [hk t c, putsO_far l a0 t (fun p hp e => c (by
    obtain ⟨j, hj, rfl⟩ := List.getElem_of_mem hp
    have h2 := lg j
    rw [List.getElem?_eq_getElem hj] at h2
    cases q : dl[j]? with
    | none => rw [q] at h2; cases h2
    | some o =>
     rw [q] at h2
     simp at h2
     rw [h2] at e
     simp at e
     subst e
     exact List.mem_of_getElem? q))]
 have f := putsO_defers l a0
 cases a
 cases hp : putsO a0 l
 rw [hp] at e f
 simp at e f hd
 subst e
 rw [hd, f]
structure RXs (a0 a : Act) (n : Nat) (dl : List (Option Nat)) (deps : List (Nat × Nat)) (R : (Nat → Bool) → (Nat → Value) → World → Prop) (w : World) (l : Array Bool) : Prop where
 lsz : l.size = n
 sz : a.tmps.size = a0.tmps.size
 df : a.defers = a0.defers
 keep : ∀ t, some t ∉ dl → a.tmps[t]? = a0.tmps[t]?
 cl : ∀ i j, (i, j) ∈ deps → l.getD i false = true → l.getD j false = true
 st : ∃ vals, R (fun i => l.getD i false) vals w ∧ (∀ i t : Nat, l.getD i false = true → dl[i]? = some (some t) → a.tmps[t]? = some (vals i))
set_option maxHeartbeats 3200000 in
theorem regionO {P : Program} {id : Nat} {Q : Exit → Act → World → Prop} {a0 : Act} {w0 : World} (hm : P.follows .mixedOrders = true) (ops : Array Oper) (n : Nat) (dl : List (Option Nat)) (deps : List (Nat × Nat)) (R : (Nat → Bool) → (Nat → Value) → World → Prop)
  (hn : ops.size = n) (hl : dl.length = n) (nd : ∀ (i j t : Nat), dl[i]? = some (some t) → dl[j]? = some (some t) → j = i) (hz : ∀ t, some t ∈ dl → t < a0.tmps.size)
  (hg : (ops.toList.all fun o => o.guard.isNone) = true)
  (hd : ops.toList.map (·.dst) = dl)
  (E1 : ((List.range n).all fun k => ((ops[k]?).map fun o => o.after.all fun e => !Region.binds .any e || decide (e.on < k)).getD false) = true)
  (E2 : (deps.all fun (x : Nat × Nat) => ((ops[x.1]?).map fun o => o.after.any fun e => Region.binds .any e && e.on == x.2).getD false) = true)
  (hcong : ∀ L L' vals w, (∀ i, i < n → L i = L' i) → R L vals w → R L' vals w)
  (h0 : R (fun _ => false) (fun _ => undef) w0.drew)
  (hstep : ∀ (L : Nat → Bool) vals w (a : Act) i o (K : Act → World → Prop), i < n → ops[i]? = some o → R L vals w → (∀ p q, (p, q) ∈ deps → L p = true → L q = true) → L i = false → (∀ j, (i, j) ∈ deps → L j = true) → (∀ t, some t ∉ dl → a.tmps[t]? = a0.tmps[t]?) → (∀ j t : Nat, L j = true → dl[j]? = some (some t) → a.tmps[t]? = some (vals j)) → (∀ v w', R (fun j => if j = i then true else L j) (fun j => if j = i then v else vals j) w' → K (a.put o.dst v) w') → o.wp P a w K Q)
  (hQ : ∀ (L : Nat → Bool) vals w, R L vals w → (∀ i, i < n → L i = true) → Q .normal (putsO a0 ((List.range n).map fun i => (dl.getD i none, vals i))) w) :
  (Code.region id ops true).wp P Q a0 w0 := by
 have gd : ∀ (i : Nat) (o : Oper), ops[i]? = some o → o.guard = none := fun i o h => by
  have := List.all_eq_true.1 hg o (Array.mem_toList_iff.2 (Array.mem_of_getElem? h))
  simpa using this
 have ds : ∀ (i : Nat) (o : Oper), ops[i]? = some o → dl[i]? = some o.dst := fun i o h => by
  rw [← hd]
  simp only [List.getElem?_map, Array.getElem?_toList, h, Option.map_some]
 refine wp_region_any hm (wpAny_inv (fun l a w => RXs a0 a n dl deps R w l) ?_ ?_ _ _ _ _ (by simp) ?_)
 ·intro l a w S i hr
  obtain ⟨hlt, o, ho, _⟩ := mem_ready.1 hr
  have hi : i < n := by
   rcases Nat.lt_or_ge i n with h | h
   ·exact h
   ·rw [Array.getElem?_eq_none (by omega)] at ho; cases ho
  have il : i < l.size := by rw [S.lsz]; exact hi
  have lf : l.getD i false = false := by
   have h2 : l[i]? = some l[i] := by simp [il]
   simp only [Array.getD_eq_getD_getElem?, h2, Option.getD_some] at hlt ⊢
   exact hlt
  have cl := clV_step il hr S.cl E2
  have need : ∀ j, (i, j) ∈ deps → l.getD j false = true := fun j m => ready_needs hr ((List.all_eq_true.1 E2) (i, j) m)
  have ls' : (l.setIfInBounds i true).size = n := by simp [S.lsz]
  have gs := fun j => getD_set l i j il
  obtain ⟨vals, hR, hv⟩ := S.st
  refine wpOp_of ho (gd i o ho) ?_
  refine hstep (fun i => l.getD i false) vals w a i o _ hi ho hR S.cl lf need S.keep hv ?_
  intro v w2 hR2
  have di := ds i o ho
  have dm : o.dst ∈ dl := List.mem_of_getElem? di
  refine ⟨ls', by rw [put_sizeE]; exact S.sz, by rw [put_defersE]; exact S.df, fun t ht => ?_, cl, (fun j => if j = i then v else vals j), ?_, fun j t hl' hj => ?_⟩
  ·rw [put_farO _ _ _ _ (fun e => ht (by rw [← e]; exact dm))]; exact S.keep t ht
  ·refine hcong _ _ _ _ (fun j _ => ?_) hR2
   rw [gs]
  ·by_cases e : j = i
   ·subst e
    rw [di] at hj
    injection hj with hj
    rw [hj, put_getE _ _ _ _ (by rw [S.sz]; exact hz t (by rw [← hj]; exact dm))]
    simp
   ·rw [put_farO _ _ _ _ (fun q => e (nd i j t (by rw [di, q]) hj))]
    simp only [if_neg e]
    rw [gs, if_neg e] at hl'
    exact hv j t hl' hj
 ·intro l a w S hr
  have h : ∀ k, k < n → l.getD k false = true := fun k hk => by
   have h1 := ready_noneE hr (by rw [S.lsz, hn]) (fun k hk => (List.all_eq_true.1 E1) k (List.mem_range.2 (by omega))) k (by omega)
   have kl : k < l.size := by rw [S.lsz]; exact hk
   simpa [Array.getD_eq_getD_getElem?, kl] using h1
  obtain ⟨vals, hR, hv⟩ := S.st
  rw [act_putsO (a0 := a0) (dl := dl) (vals := vals) S.sz S.df hz nd S.keep (fun i t hi => hv i t (h i (by have := (List.getElem?_eq_some_iff.1 hi).1; omega)) hi)]
  rw [hl]
  exact hQ (fun i => l.getD i false) vals w hR (fun i hi => h i hi)
 ·have f : ∀ i, (Array.replicate ops.size false).getD i false = false := fun i => by simp [Array.getD_eq_getD_getElem?, Array.getElem?_replicate]; split <;> rfl
  refine ⟨by simp [hn], rfl, rfl, fun _ _ => rfl, fun i j _ h => (by rw [f] at h; cases h), fun _ => undef, ?_, fun i _ h => (by rw [f] at h; cases h)⟩
  exact hcong _ _ _ _ (fun i _ => (f i).symm) h0
structure GwR (pvl : List (Option Value)) (T : TypeId) (Z : Array Value) (pa : Nat → Array Value) (tup : Nat → Value) (W : World) (L : Nat → Bool) (vals : Nat → Value) (w : World) : Prop where
 pure : ∀ (i : Nat) u, pvl[i]? = some (some u) → L i = true → vals i = u
 bl : Below W.heap.size W w
 v6 : L 6 = true → ∃ y, vals 6 = tup y
 v7 : L 7 = true → ∃ y, vals 7 = tup y
 v8 : L 8 = true → ∃ y, vals 8 = .agg (pa y)
 v12 : L 12 = true → ∃ b, vals 12 = .pointer (some ⟨b, 0, none⟩) ∧ W.heap.size ≤ b ∧ b < w.heap.size ∧ (L 13 = false → w.heap[b]? = some (.cells Z T (0, 0))) ∧ (L 13 = true → ∃ y, w.heap[b]? = some (.cells (pa y) T (0, 0)))
theorem GwR.cong {pvl : List (Option Value)} {T : TypeId} {Z : Array Value} {pa : Nat → Array Value} {tup : Nat → Value} {W : World} {L L' : Nat → Bool} {vals : Nat → Value} {w : World} (hl : pvl.length = 17) (e : ∀ i, i < 17 → L i = L' i) (h : GwR pvl T Z pa tup W L vals w) : GwR pvl T Z pa tup W L' vals w :=
 ⟨fun i u hi hL => h.pure i u hi (by rw [e i (by have := (List.getElem?_eq_some_iff.1 hi).1; omega)]; exact hL), h.bl, fun q => h.v6 (by rw [e 6 (by omega)]; exact q), fun q => h.v7 (by rw [e 7 (by omega)]; exact q), fun q => h.v8 (by rw [e 8 (by omega)]; exact q), fun q => by rw [← e 13 (by omega)]; exact h.v12 (by rw [e 12 (by omega)]; exact q)⟩
theorem GwR.start (pvl : List (Option Value)) (T : TypeId) (Z : Array Value) (pa : Nat → Array Value) (tup : Nat → Value) (W : World) (vals : Nat → Value) : GwR pvl T Z pa tup W (fun _ => false) vals W :=
 ⟨fun i u _ h => (by cases h), Below.refl _ _, fun h => (by cases h), fun h => (by cases h), fun h => (by cases h), fun h => (by cases h)⟩
theorem GwR.step {pvl : List (Option Value)} {T : TypeId} {Z : Array Value} {pa : Nat → Array Value} {tup : Nat → Value} {W : World} {L : Nat → Bool} {vals : Nat → Value} {w w' : World} (h : GwR pvl T Z pa tup W L vals w) (b : Below w.heap.size w w') (i : Nat) (v : Value) (ne : i ≠ 13)
  (h0 : ∀ u, pvl[i]? = some (some u) → v = u) (h6 : i = 6 → ∃ y, v = tup y) (h7 : i = 7 → ∃ y, v = tup y) (h8 : i = 8 → ∃ y, v = .agg (pa y))
  (h12 : i = 12 → L 13 = false ∧ ∃ b, v = .pointer (some ⟨b, 0, none⟩) ∧ W.heap.size ≤ b ∧ b < w'.heap.size ∧ w'.heap[b]? = some (.cells Z T (0, 0))) :
  GwR pvl T Z pa tup W (fun j => if j = i then true else L j) (fun j => if j = i then v else vals j) w' := by
 refine ⟨fun j u hj hL => ?_, h.bl.trans (b.mono h.bl.size), fun q => ?_, fun q => ?_, fun q => ?_, fun q => ?_⟩
 ·by_cases e : j = i
  ·rw [if_pos e]; rw [e] at hj; exact h0 u hj
  ·rw [if_neg e] at hL ⊢; exact h.pure j u hj hL
 ·by_cases e : 6 = i
  ·rw [if_pos e]; exact h6 e.symm
  ·rw [if_neg e] at q ⊢; exact h.v6 q
 ·by_cases e : 7 = i
  ·rw [if_pos e]; exact h7 e.symm
  ·rw [if_neg e] at q ⊢; exact h.v7 q
 ·by_cases e : 8 = i
  ·rw [if_pos e]; exact h8 e.symm
  ·rw [if_neg e] at q ⊢; exact h.v8 q
 ·rw [if_neg (fun e : 13 = i => ne e.symm)]
  by_cases e : 12 = i
  ·rw [if_pos e]
   obtain ⟨l13, b, g1, g2, g3, g4⟩ := h12 e.symm
   exact ⟨b, g1, g2, g3, fun _ => g4, fun q => (by rw [l13] at q; cases q)⟩
  ·rw [if_neg e] at q ⊢
   obtain ⟨b', g1, g2, g3, g4, g5⟩ := h.v12 q
   exact ⟨b', g1, g2, Nat.lt_of_lt_of_le g3 b.size, fun q => (b.block b' g3).trans (g4 q), fun q => by
    obtain ⟨y, hy⟩ := g5 q
    exact ⟨y, (b.block b' g3).trans hy⟩⟩
theorem GwR.store {pvl : List (Option Value)} {T : TypeId} {Z : Array Value} {pa : Nat → Array Value} {tup : Nat → Value} {W : World} {L : Nat → Bool} {vals : Nat → Value} {w : World} (h : GwR pvl T Z pa tup W L vals w) (b y : Nat) (v : Value) (hp : pvl[13]? = some none) (l12 : L 12 = true) (l13 : L 13 = false) (hb : vals 12 = .pointer (some ⟨b, 0, none⟩)) :
  GwR pvl T Z pa tup W (fun j => if j = 13 then true else L j) (fun j => if j = 13 then v else vals j) (w.setRow b (pa y)) := by
 obtain ⟨b', g1, g2, g3, g4, g5⟩ := h.v12 l12
 rw [hb] at g1
 injection g1 with g1
 injection g1 with g1
 injection g1 with g1
 subst g1
 refine ⟨fun j u hj hL => ?_, below_setRow h.bl g2 _, fun q => ?_, fun q => ?_, fun q => ?_, fun _ => ?_⟩
 ·by_cases e : j = 13
  ·subst e; rw [hp] at hj; cases hj
  ·rw [if_neg e] at hL ⊢; exact h.pure j u hj hL
 ·simpa using h.v6 (by simpa using q)
 ·simpa using h.v7 (by simpa using q)
 ·simpa using h.v8 (by simpa using q)
 ·refine ⟨b, by simpa using hb, g2, by rw [setRow_size]; exact g3, fun q => (by simp at q), fun _ => ⟨y, setRow_heap _ _ _ _ _ _ (g4 l13)⟩⟩
def dlG : List (Option Nat) := [some 68, some 69, some 70, some 71, some 72, some 73, some 74, some 67, some 75, some 76, some 77, some 78, some 15, none, some 16, some 17, some 18]
def depsG : List (Nat × Nat) := [(4, 3), (5, 2), (5, 4), (6, 0), (6, 1), (6, 5), (7, 6), (8, 7), (9, 7), (10, 7), (11, 7), (13, 12), (13, 8), (14, 9), (15, 10), (16, 11)]
theorem dlG_nd (i j t : Nat) (hi : dlG[i]? = some (some t)) (hj : dlG[j]? = some (some t)) : j = i := by
 have key : ∀ i : Fin 17, ∀ j : Fin 17, dlG[i.val]? = dlG[j.val]? → dlG[i.val]? ≠ some none → j = i := by decide
 have i17 : i < 17 := (List.getElem?_eq_some_iff.1 hi).1
 have j17 : j < 17 := (List.getElem?_eq_some_iff.1 hj).1
 have := key ⟨i, i17⟩ ⟨j, j17⟩ (by show dlG[i]? = dlG[j]?; rw [hi, hj]) (by show dlG[i]? ≠ some none; rw [hi]; simp)
 simpa using congrArg Fin.val this
theorem dlG_lt (t : Nat) (h : some t ∈ dlG) : t < 79 := by
 simp [dlG] at h
 omega
end Go.Proofs.YtemhcpldflcfbaaGreatDoor
