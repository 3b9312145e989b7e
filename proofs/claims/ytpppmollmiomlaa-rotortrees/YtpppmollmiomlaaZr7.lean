/-
  What the last text of this claim leans on, part 7: Rt5, Rt6, Rt7.
-/
import Derived.Test.YtpppmollmiomlaaZr6
namespace Go.Proofs.Ytpppmollmiomlaa
set_option linter.unusedVariables false
theorem WkR.chips {n s : Nat} {wy : Nat → Nat → Nat} {d s0 : Nat → Nat} {c c' : Nat → Int} {u : Nat → Nat} (h : WkR n s wy d s0 c u) (e : ∀ j, j < n → j ≠ s → c j = c' j) : WkR n s wy d s0 c' u := by
  have q : ∀ (w : Nat → Nat) j, j < n → j ≠ s → chR n s wy d s0 c' w j = chR n s wy d s0 c w j := fun w j hj js => by unfold chR; rw [e j hj js]
  exact ⟨h.zero, fun j hj js => by rw [q u j hj js]; exact h.has j hj js, fun v v0 st => h.least v v0 fun j hj js => by rw [← q v j hj js]; exact st j hj js⟩
theorem sg_up (d sg u : Nat → Nat) (x : Nat) : tnR d (sgR d sg u) x = sgR d sg (upR u x) := by
  funext j
  unfold tnR sgR upR
  split
  · rw [Nat.mod_add_mod, Nat.add_assoc]
  · rfl
theorem sum_up {n : Nat} {u : Nat → Nat} {x : Nat} (hx : x < n) : smS n (fun k => (upR u x k : Int)) = smS n (fun k => (u k : Int)) + 1 := by
  have e : (fun k => (upR u x k : Int)) = fun k => (u k : Int) + (if k = x then 1 else 0) := by funext k; unfold upR; split <;> omega
  rw [e, smS_add, smS_at, if_pos hx]
/-- A chip on its way. -/
def OnR (n s v : Nat) (wy : Nat → Nat → Nat) (d sg : Nat → Nat) (c : Nat → Int) (i x : Nat) (u : Nat → Nat) : Prop :=
  itR s v wy d (i + 1) ⟨sg, s⟩ = ⟨sgR d sg u, x⟩ ∧ (∀ i', i' < i → (itR s v wy d (i' + 1) ⟨sg, s⟩).at' ≠ s) ∧ WkR n s wy d sg c u ∧ (∀ j, j < n → j ≠ s → chR n s wy d sg c u j = c j - (if j = v then 1 else 0) + (if j = x then 1 else 0)) ∧ (∀ k, n ≤ k → u k = 0) ∧ smS n (fun k => (u k : Int)) = i
theorem on_way {n s v : Nat} {wy : Nat → Nat → Nat} {d sg : Nat → Nat} {c : Nat → Int} (inn : ∀ k i, k < n → i < d k → wy k i < n) (hd : ∀ k, k < n → k ≠ s → 0 < d k) (nrm : ∀ k, sg k % d k = sg k) (hc : ∀ k, k < n → 0 ≤ c k) (hv : v < n) (vs : v ≠ s) (cv : 1 ≤ c v) : ∀ i : Nat, (∃ m u, OnR n s v wy d sg c m s u) ∨ ∃ x u, x < n ∧ x ≠ s ∧ OnR n s v wy d sg c i x u
  | 0 => Or.inr ⟨v, fun _ => 0, hv, vs, by
      show stR s v wy d ⟨sg, s⟩ = _
      unfold stR
      rw [if_pos rfl]
      congr 1
      funext k
      unfold sgR
      rw [Nat.add_zero, nrm], fun i' h => by omega, WkR.start hc, fun j hj js => by
      unfold chR
      rw [smS_congr (g := fun _ => 0) fun k _ => by split <;> rfl, smS_zero]
      dsimp only
      omega, fun _ _ => rfl, (smS_congr fun _ _ => rfl).trans (smS_zero n)⟩
  | i + 1 => by
    rcases on_way inn hd nrm hc hv vs cv i with h | ⟨x, u, hx, xs, h1, h2, h3, h4, h5, h6⟩
    · exact Or.inl h
    · have can : 1 ≤ chR n s wy d sg c u x := by
        rw [h4 x hx xs, if_pos rfl]
        have := hc x hx
        split
        · rename_i q; rw [q]; omega
        · omega
      have st : itR s v wy d (i + 1 + 1) ⟨sg, s⟩ = ⟨sgR d sg (upR u x), wy x (sgR d sg (upR u x) x)⟩ := by
        show stR s v wy d (itR s v wy d (i + 1) ⟨sg, s⟩) = _
        rw [h1]
        unfold stR
        rw [if_neg xs]
        dsimp only
        rw [sg_up]
      have no : ∀ i', i' < i + 1 → (itR s v wy d (i' + 1) ⟨sg, s⟩).at' ≠ s := fun i' hi => by
        rcases Nat.lt_or_ge i' i with q | q
        · exact h2 i' q
        · obtain rfl : i' = i := by omega
          rw [h1]; exact xs
      have tw : towR wy d sg x (u x) = wy x (sgR d sg (upR u x) x) := by
        unfold towR sgR upR
        rw [if_pos rfl, show sg x + 1 + u x = sg x + (u x + 1) by omega]
      have z : ∀ k, n ≤ k → upR u x k = 0 := fun k hk => by unfold upR; rw [if_neg (by omega)]; exact h5 k hk
      have ch : ∀ j, j < n → j ≠ s → chR n s wy d sg c (upR u x) j = c j - (if j = v then 1 else 0) + (if j = wy x (sgR d sg (upR u x) x) then 1 else 0) := fun j hj js => by
        rw [ch_upR hx xs, h4 j hj js, tw]
        by_cases q : wy x (sgR d sg (upR u x) x) = j
        · rw [if_pos q, if_pos q.symm]; omega
        · have q' : ¬ j = wy x (sgR d sg (upR u x) x) := fun e => q e.symm
          rw [if_neg q, if_neg q']; omega
      have sm : smS n (fun k => (upR u x k : Int)) = ((i + 1 : Nat) : Int) := by rw [sum_up hx, h6]; omega
      have on : OnR n s v wy d sg c (i + 1) (wy x (sgR d sg (upR u x) x)) (upR u x) := ⟨st, no, h3.one hx xs can, ch, z, sm⟩
      by_cases q : wy x (sgR d sg (upR u x) x) = s
      · rw [q] at on
        exact Or.inl ⟨i + 1, _, on⟩
      · exact Or.inr ⟨_, _, inn x _ hx (by unfold sgR; exact Nat.mod_lt _ (hd x hx xs)), q, on⟩
/-- Each chip comes to the sink. -/
theorem comes {n s v : Nat} {b : Nat → Nat → Int} {wy : Nat → Nat → Nat} {d sg : Nat → Nat} {c : Nat → Int} (G : GrS n s b) (Y : WyG n b wy d) (hd : ∀ k, k < n → k ≠ s → 0 < d k) (nrm : ∀ k, sg k % d k = sg k) (hc : ∀ k, k < n → 0 ≤ c k) (hv : v < n) (vs : v ≠ s) (cv : 1 ≤ c v) : ∃ m u, OnR n s v wy d sg c m s u := by
  obtain ⟨Q, hQ⟩ : ∃ Q : Nat, smS n (fun k => c k + smS n (b k)) * ((n - 1 : Nat) : Int) = Q := by
    have p : 0 ≤ smS n (fun k => c k + smS n (b k)) := smS_nonneg fun k hk => by have := hc k hk; have : 0 ≤ smS n (b k) := smS_nonneg fun j _ => G.pos k j; omega
    exact ⟨_, (Int.toNat_of_nonneg (Int.mul_nonneg p (by omega))).symm⟩
  obtain ⟨B, hB⟩ : ∃ B : Nat, smS n (fun k => ((d k * (Q + 1) : Nat) : Int)) = B := ⟨_, (Int.toNat_of_nonneg (smS_nonneg fun k _ => Int.natCast_nonneg _)).symm⟩
  rcases on_way Y.inn hd nrm hc hv vs cv (B + 1) with h | ⟨x, u, hx, xs, h1, h2, h3, h4, h5, h6⟩
  · exact h
  · exfalso
    have : smS n (fun k => (u k : Int)) ≤ smS n (fun k => ((d k * (Q + 1) : Nat) : Int)) := smS_le fun k hk => by
      have f := h3.few G Y hd hc (Int.le_refl _) k hk
      rw [hQ] at f
      by_cases q : k = s
      · rw [q, h3.zero]; omega
      · have dp := hd k hk q
        have e := Nat.div_add_mod (u k) (d k)
        have l := Nat.mod_lt (u k) dp
        have f' : u k / d k ≤ Q := by omega
        have := Nat.mul_le_mul_left (d k) f'
        rw [Nat.mul_succ]
        omega
    omega
end Go.Proofs.Ytpppmollmiomlaa

namespace Go.Proofs.Ytpppmollmiomlaa
set_option linter.unusedVariables false
/-- A tree stays one. -/
theorem LdR.none {s : Nat} {wy : Nat → Nat → Nat} {sg : Nat → Nat} {C : Nat → Prop} {n : Nat} (hC : ∀ j, j < n → j ≠ s → ¬ C j) (inn : ∀ k, k < n → k ≠ s → wy k (sg k) < n) {x : Nat} (h : LdR s wy sg C x) : x < n → LdR s wy sg (fun _ => False) x := by
  induction h using LdR.ind with
  | sink => exact fun _ => .sink
  | @chip k q =>
    intro hk
    by_cases e : k = s
    · rw [e]; exact .sink
    · exact absurd q (hC k hk e)
  | @go k ks _ ih => exact fun hk => .go ks (ih (inn k hk ks))
theorem UnR.tree {n s v : Nat} {wy : Nat → Nat → Nat} {d sg : Nat → Nat} (h : UnR n s v wy d ⟨sg, s⟩) (inn : ∀ k i, k < n → i < d k → wy k i < n) : treeR n s wy sg := fun k hk => by
  obtain ⟨m, hm⟩ := h.lead k hk
  clear hk
  induction m generalizing k with
  | zero =>
    have : k = s := hm
    rw [this]; exact .sink
  | succ m ih =>
    by_cases q : k = s
    · rw [q]; exact .sink
    · have hm' : itF (nxR s v wy sg) m (nxR s v wy sg k) = s := hm
      rw [show nxR s v wy sg k = wy k (sg k) by unfold nxR; rw [if_neg q]] at hm'
      exact .go q (ih _ hm')
def putR (v N : Nat) (j : Nat) : Int := if j = v then (N : Int) else 0
/-- One chip of several goes: the rest lies, the signs are a tree again. -/
theorem one_goes {n s v N : Nat} {b : Nat → Nat → Int} {wy : Nat → Nat → Nat} {d sg : Nat → Nat} (G : GrS n s b) (Y : WyG n b wy d) (hd : ∀ k, k < n → k ≠ s → 0 < d k) (nrm : ∀ k, sg k % d k = sg k) (low : ∀ k, k < n → k ≠ s → sg k < d k) (hv : v < n) (vs : v ≠ s) (t : treeR n s wy sg) (zr : ∀ k, n ≤ k → sg k = 0) :
    ∃ m u, itR s v wy d (m + 1) ⟨sg, s⟩ = ⟨sgR d sg u, s⟩ ∧ (∀ i, i < m → (itR s v wy d (i + 1) ⟨sg, s⟩).at' ≠ s) ∧ WkR n s wy d sg (putR v (N + 1)) u ∧ (∀ j, j < n → j ≠ s → chR n s wy d sg (putR v (N + 1)) u j = putR v N j) ∧ treeR n s wy (sgR d sg u) ∧ (∀ k, n ≤ k → sgR d sg u k = 0) ∧ (∀ k, k < n → k ≠ s → sgR d sg u k < d k) := by
  obtain ⟨m, u, h1, h2, h3, h4, h5, h6⟩ := comes (c := putR v (N + 1)) G Y hd nrm (fun k _ => by unfold putR; split <;> omega) hv vs (by unfold putR; rw [if_pos rfl]; omega)
  have un := it_un (d := d) hv Y.inn (tree_un (v := v) G.sink low t) (m + 1)
  rw [h1] at un
  refine ⟨m, u, h1, h2, h3, fun j hj js => ?_, un.tree Y.inn, fun k hk => ?_, un.low⟩
  · rw [h4 j hj js, if_neg js]
    unfold putR
    split <;> omega
  · unfold sgR; rw [h5 k hk, zr k hk]; simp
theorem all_go {n s v : Nat} {b : Nat → Nat → Int} {wy : Nat → Nat → Nat} {d : Nat → Nat} (G : GrS n s b) (Y : WyG n b wy d) (hd : ∀ k, k < n → k ≠ s → 0 < d k) (hv : v < n) (vs : v ≠ s) : ∀ (N : Nat) (sg : Nat → Nat), (∀ k, sg k % d k = sg k) → (∀ k, k < n → k ≠ s → sg k < d k) → treeR n s wy sg → (∀ k, n ≤ k → sg k = 0) → ∃ u, WkR n s wy d sg (putR v N) u ∧ doneR n s wy d sg (putR v N) u
  | 0, sg, nrm, low, t, zr => ⟨fun _ => 0, WkR.start (fun k _ => by unfold putR; split <;> omega), fun j _ _ => by
      unfold chR putR
      rw [smS_congr (g := fun _ => 0) fun k _ => by split <;> rfl, smS_zero]
      dsimp only
      split <;> omega⟩
  | N + 1, sg, nrm, low, t, zr => by
    obtain ⟨m, u, _, _, h3, h4, h5, h6, h7⟩ := one_goes (N := N) G Y hd nrm low hv vs t zr
    obtain ⟨w, w1, w2⟩ := all_go G Y hd hv vs N (sgR d sg u) (fun k => by unfold sgR; rw [Nat.mod_mod]) h7 h5 h6
    have w1' := w1.chips (c' := chR n s wy d sg (putR v (N + 1)) u) fun j hj js => (h4 j hj js).symm
    refine ⟨_, h3.then w1', done_then fun j hj js => ?_⟩
    have := w2 j hj js
    obtain ⟨c', hc'⟩ : ∃ c', chR n s wy d sg (putR v (N + 1)) u = c' := ⟨_, rfl⟩
    have e := h4 j hj js
    rw [hc'] at e ⊢
    unfold chR at this ⊢
    rw [e]; exact this
/-- Trees are moved about, none onto another's place: several chips. -/
theorem trees_apart {n s v : Nat} {b : Nat → Nat → Int} {wy : Nat → Nat → Nat} {d : Nat → Nat} (G : GrS n s b) (Y : WyG n b wy d) (hd : ∀ k, k < n → k ≠ s → 0 < d k) (hv : v < n) (vs : v ≠ s) : ∀ (N : Nat) (sg tg u w : Nat → Nat), (∀ k, sg k % d k = sg k) → (∀ k, k < n → k ≠ s → sg k < d k) → treeR n s wy sg → (∀ k, n ≤ k → sg k = 0) → (∀ k, tg k % d k = tg k) → (∀ k, k < n → k ≠ s → tg k < d k) → treeR n s wy tg → (∀ k, n ≤ k → tg k = 0) →
    WkR n s wy d sg (putR v N) u → doneR n s wy d sg (putR v N) u → WkR n s wy d tg (putR v N) w → doneR n s wy d tg (putR v N) w → (∀ k, k < n → sgR d sg u k = sgR d tg w k) → sg = tg
  | 0, sg, tg, u, w, n1, l1, t1, z1, n2, l2, t2, z2, a1, a2, b1, b2, e => by
    have none : ∀ (rg x : Nat → Nat), WkR n s wy d rg (putR v 0) x → ∀ k, k < n → x k = 0 := fun rg x h k hk => by
      have := h.least (fun _ => 0) rfl (fun j _ _ => by
        unfold chR putR
        rw [smS_congr (g := fun _ => 0) fun k _ => by split <;> rfl, smS_zero]
        dsimp only
        split <;> omega) k hk
      have t : x k ≤ 0 := this
      omega
    funext k
    rcases Nat.lt_or_ge k n with hk | hk
    · have := e k hk
      unfold sgR at this
      rw [none sg u a1 k hk, none tg w b1 k hk, Nat.add_zero, Nat.add_zero, n1, n2] at this
      exact this
    · rw [z1 k hk, z2 k hk]
  | N + 1, sg, tg, u, w, n1, l1, t1, z1, n2, l2, t2, z2, a1, a2, b1, b2, e => by
    have part : ∀ (rg x : Nat → Nat), (∀ k, rg k % d k = rg k) → (∀ k, k < n → k ≠ s → rg k < d k) → treeR n s wy rg → (∀ k, n ≤ k → rg k = 0) → WkR n s wy d rg (putR v (N + 1)) x → doneR n s wy d rg (putR v (N + 1)) x → ∃ m r y, itR s v wy d (m + 1) ⟨rg, s⟩ = ⟨r, s⟩ ∧ (∀ i, i < m → (itR s v wy d (i + 1) ⟨rg, s⟩).at' ≠ s) ∧ treeR n s wy r ∧ (∀ k, n ≤ k → r k = 0) ∧ (∀ k, k < n → k ≠ s → r k < d k) ∧ (∀ k, r k % d k = r k) ∧ WkR n s wy d r (putR v N) y ∧ doneR n s wy d r (putR v N) y ∧ ∀ k, k < n → sgR d rg x k = sgR d r y k := fun rg x n1 l1 t1 z1 a1 a2 => by
      obtain ⟨m, u1, h1, h2, h3, h4, h5, h6, h7⟩ := one_goes (N := N) G Y hd n1 l1 hv vs t1 z1
      have nr : ∀ k, sgR d rg u1 k % d k = sgR d rg u1 k := fun k => by unfold sgR; rw [Nat.mod_mod]
      obtain ⟨y, w1, w2⟩ := all_go G Y hd hv vs N (sgR d rg u1) nr h7 h5 h6
      have w1' := w1.chips (c' := chR n s wy d rg (putR v (N + 1)) u1) fun j hj js => (h4 j hj js).symm
      have w2' : doneR n s wy d (sgR d rg u1) (chR n s wy d rg (putR v (N + 1)) u1) y := fun j hj js => by
        have := w2 j hj js
        obtain ⟨c', hc'⟩ : ∃ c', chR n s wy d rg (putR v (N + 1)) u1 = c' := ⟨_, rfl⟩
        have e := h4 j hj js
        rw [hc'] at e ⊢
        unfold chR at this ⊢
        rw [e]; exact this
      have same := a1.same a2 (h3.then w1') (done_then w2')
      refine ⟨m, _, y, h1, h2, h5, h6, h7, nr, w1, w2, fun k hk => ?_⟩
      rw [sg_then]
      unfold sgR
      rw [same k hk]
    obtain ⟨m, r, y, p1, p2, p3, p4, p5, p6, p7, p8, p9⟩ := part sg u n1 l1 t1 z1 a1 a2
    obtain ⟨m', r', y', q1, q2, q3, q4, q5, q6, q7, q8, q9⟩ := part tg w n2 l2 t2 z2 b1 b2
    have ih := trees_apart G Y hd hv vs N r r' y y' p6 p5 p3 p4 q6 q5 q3 q4 p7 p8 q7 q8 fun k hk => by rw [← p9 k hk, ← q9 k hk]; exact e k hk
    subst ih
    exact tree_one hv Y.inn (tree_un G.sink l1 t1) (tree_un G.sink l2 t2) p1 q1 p2 q2
end Go.Proofs.Ytpppmollmiomlaa

namespace Go.Proofs.Ytpppmollmiomlaa
set_option linter.unusedVariables false
/-- The ways of a place: over each edge of its, as often as it has it. -/
def wyE (e : EdS) (k : Nat) : List Nat := if e.a = k then List.replicate e.t.toNat e.b else if e.b = k then List.replicate e.t.toNat e.a else []
def wyL (es : List EdS) (k : Nat) : List Nat := es.flatMap fun e => wyE e k
/-- How often a number stands in a list. -/
def cnL (l : List Nat) (j : Nat) : Int := smS l.length fun i => if l.getD i 0 = j then 1 else 0
theorem cn_nil (j : Nat) : cnL [] j = 0 := rfl
theorem cn_cons (x : Nat) (l : List Nat) (j : Nat) : cnL (x :: l) j = (if x = j then 1 else 0) + cnL l j := by
  unfold cnL
  rw [List.length_cons, smS_succ]
  rfl
theorem cn_append : ∀ (l m : List Nat) (j : Nat), cnL (l ++ m) j = cnL l j + cnL m j
  | [], m, j => by rw [List.nil_append, cn_nil]; omega
  | x :: l, m, j => by rw [List.cons_append, cn_cons, cn_cons, cn_append l m j]; omega
theorem cn_rep (x j : Nat) : ∀ t : Nat, cnL (List.replicate t x) j = if x = j then (t : Int) else 0
  | 0 => by simp [cnL, smS]
  | t + 1 => by rw [List.replicate_succ, cn_cons, cn_rep x j t]; split <;> omega
theorem wy_cnt {n : Nat} : ∀ {es : List EdS}, (∀ e ∈ es, okE n e) → ∀ k j : Nat, cnL (wyL es k) j = btL es k j
  | [], _, k, j => rfl
  | e :: es, h, k, j => by
    have ih := wy_cnt (n := n) (es := es) (fun x hx => h x (List.mem_cons_of_mem _ hx)) k j
    have b := h e (List.mem_cons_self ..)
    unfold okE at b
    rw [bt_cons, ← ih, show wyL (e :: es) k = wyE e k ++ wyL es k from rfl, cn_append]
    congr 1
    unfold wyE btE
    by_cases h1 : e.a = k
    · rw [if_pos h1, cn_rep]
      by_cases q : e.b = j
      · rw [if_pos q, if_pos (Or.inl ⟨h1, q⟩)]; omega
      · rw [if_neg q, if_neg (by omega)]
    · rw [if_neg h1]
      by_cases h2 : e.b = k
      · rw [if_pos h2, cn_rep]
        by_cases q : e.a = j
        · rw [if_pos q, if_pos (Or.inr ⟨q, h2⟩)]; omega
        · rw [if_neg q, if_neg (by omega)]
      · rw [if_neg h2, if_neg (by omega)]; rfl
theorem wy_len {n : Nat} : ∀ {es : List EdS}, (∀ e ∈ es, okE n e) → ∀ k : Nat, ((wyL es k).length : Int) = dgL es k
  | [], _, k => rfl
  | e :: es, h, k => by
    have ih := wy_len (n := n) (es := es) (fun x hx => h x (List.mem_cons_of_mem _ hx)) k
    have b := h e (List.mem_cons_self ..)
    unfold okE at b
    rw [dg_cons, ← ih, show wyL (e :: es) k = wyE e k ++ wyL es k from rfl, List.length_append, Int.natCast_add]
    congr 1
    unfold wyE dgE
    by_cases h1 : e.a = k
    · rw [if_pos h1, if_pos (Or.inl h1), List.length_replicate]; omega
    · rw [if_neg h1]
      by_cases h2 : e.b = k
      · rw [if_pos h2, if_pos (Or.inr h2), List.length_replicate]; omega
      · rw [if_neg h2, if_neg (by omega)]; rfl
theorem wy_in {n : Nat} {es : List EdS} (h : ∀ e ∈ es, okE n e) (k : Nat) : ∀ x ∈ wyL es k, x < n := fun x hx => by
  obtain ⟨e, he, hx⟩ := List.mem_flatMap.1 hx
  have b := h e he
  unfold okE at b
  unfold wyE at hx
  split at hx
  · rw [(List.mem_replicate.1 hx).2]; exact b.2.1
  · split at hx
    · rw [(List.mem_replicate.1 hx).2]; exact b.1
    · simp at hx
/-- That is a graph's ways. -/
theorem ways_of {n : Nat} {es : List EdS} (ok : ∀ e ∈ es, okE n e) : WyG n (btL es) (fun k i => (wyL es k).getD i 0) (fun k => (wyL es k).length) := by
  refine ⟨fun k _ => ?_, fun k j _ _ => wy_cnt ok k j, fun k i _ hi => ?_⟩
  · rw [dg_sum ok]; exact wy_len ok k
  · have e : (wyL es k).getD i 0 = (wyL es k)[i]'hi := by simp [List.getD, hi]
    show (wyL es k).getD i 0 < n
    rw [e]
    exact wy_in ok k _ (List.getElem_mem hi)
end Go.Proofs.Ytpppmollmiomlaa

