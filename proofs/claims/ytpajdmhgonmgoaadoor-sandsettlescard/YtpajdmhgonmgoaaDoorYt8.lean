/-
  What the last text of this claim leans on, part 8: Sd2, Sd3, Ka1.
-/
import Derived.Test.YtpajdmhgonmgoaaDoorYt7
import Derived.Conc.Beside
import Derived.Conc.CrowdInv
namespace Go.Proofs.YtpajdmhgonmgoaaDoor
set_option linter.unusedVariables false
/-- What lies at a place, where each has toppled so often. -/
def chS (n s : Nat) (b : Nat → Nat → Int) (c u : Nat → Int) (k : Nat) : Int := if k = s then 0 else c k - lapS n b u k
/-- Nothing can topple. -/
def stillS (n s : Nat) (b : Nat → Nat → Int) (c u : Nat → Int) : Prop := ∀ k, k < n → k ≠ s → c k - lapS n b u k < smS n (b k)
/-- So often each has toppled on some way: nowhere lies less than nothing, and no more than every stable end asks. -/
structure PlS (n s : Nat) (b : Nat → Nat → Int) (c u : Nat → Int) : Prop where
  zero : u s = 0
  pos : ∀ k, k < n → 0 ≤ u k
  has : ∀ k, k < n → k ≠ s → lapS n b u k ≤ c k
  least : ∀ v, v s = 0 → (∀ k, k < n → 0 ≤ v k) → stillS n s b c v → ∀ k, k < n → u k ≤ v k
theorem lap_zero (n : Nat) (b : Nat → Nat → Int) (k : Nat) : lapS n b (fun _ => 0) k = 0 := by
  unfold lapS
  exact (smS_congr fun j _ => by simp).trans (smS_zero n)
theorem PlS.start {n s : Nat} {b : Nat → Nat → Int} {c : Nat → Int} (h : ∀ k, k < n → 0 ≤ c k) : PlS n s b c fun _ => 0 :=
  ⟨rfl, fun _ _ => Int.le_refl _, fun k hk _ => by rw [lap_zero]; exact h k hk, fun v _ hv _ k hk => hv k hk⟩
theorem PlS.one {n s : Nat} {b : Nat → Nat → Int} (G : GrS n s b) {c u : Nat → Int} (h : PlS n s b c u) {k : Nat} (hk : k < n) (ks : k ≠ s) (can : smS n (b k) ≤ c k - lapS n b u k) : PlS n s b c (upS u k 1) := by
  refine ⟨?_, ?_, ?_, ?_⟩
  · unfold upS; rw [if_neg (fun e => ks e.symm)]; exact h.zero
  · intro j hj; have := h.pos j hj; unfold upS; split <;> omega
  · intro j hj js
    by_cases e : j = k
    · subst e; rw [lap_up_same G.self]; omega
    · rw [lap_up_other u 1 hk e]; have := h.has j hj js; have := G.pos j k; omega
  · intro v v0 vp st j hj
    have l := h.least v v0 vp st
    unfold upS
    split
    · rename_i e; subst e; exact must G hj l can (st j hj ks)
    · exact l j hj
theorem upS_zero (u : Nat → Int) (k : Nat) : upS u k 0 = u := by funext j; unfold upS; split <;> omega
theorem upS_add (u : Nat → Int) (k : Nat) (s t : Int) : upS (upS u k s) k t = upS u k (s + t) := by funext j; unfold upS; split <;> omega
theorem PlS.times {n s : Nat} {b : Nat → Nat → Int} (G : GrS n s b) {c u : Nat → Int} (h : PlS n s b c u) {k : Nat} (hk : k < n) (ks : k ≠ s) : ∀ t : Nat, (t : Int) * smS n (b k) ≤ c k - lapS n b u k → PlS n s b c (upS u k t)
  | 0, _ => by rw [show ((0 : Nat) : Int) = 0 from rfl, upS_zero]; exact h
  | t + 1, can => by
    have d : 0 ≤ smS n (b k) := smS_nonneg fun j _ => G.pos k j
    have e : ((t + 1 : Nat) : Int) * smS n (b k) = (t : Int) * smS n (b k) + smS n (b k) := by rw [Int.natCast_add, Int.add_mul]; omega
    have ih := h.times G hk ks t (by omega)
    have := ih.one G hk ks (by rw [lap_up_same G.self]; omega)
    rw [upS_add] at this
    exact this
/-- In whatever order, it comes to the same. -/
theorem PlS.same {n s : Nat} {b : Nat → Nat → Int} {c u v : Nat → Int} (h : PlS n s b c u) (hs : stillS n s b c u) (g : PlS n s b c v) (gs : stillS n s b c v) (k : Nat) (hk : k < n) : u k = v k := by
  have a := h.least v g.zero g.pos gs k hk
  have b := g.least u h.zero h.pos hs k hk
  omega
theorem lap_congr {n : Nat} {b : Nat → Nat → Int} {u v : Nat → Int} (h : ∀ k, k < n → u k = v k) {k : Nat} (hk : k < n) : lapS n b u k = lapS n b v k := smS_congr fun j hj => by rw [h k hk, h j hj]
theorem lap_add (n : Nat) (b : Nat → Nat → Int) (u v : Nat → Int) (k : Nat) : lapS n b (fun j => u j + v j) k = lapS n b u k + lapS n b v k := by
  unfold lapS
  rw [← smS_add]
  exact smS_congr fun j _ => by rw [← Int.mul_add]; congr 1; show u k + v k - (u j + v j) = _; omega
theorem lap_sub (n : Nat) (b : Nat → Nat → Int) (u v : Nat → Int) (k : Nat) : lapS n b (fun j => u j - v j) k = lapS n b u k - lapS n b v k := by
  unfold lapS
  rw [← smS_sub]
  exact smS_congr fun j _ => by rw [← Int.mul_sub]; congr 1; show u k - v k - (u j - v j) = _; omega
/-- One way behind another. -/
theorem PlS.then {n s : Nat} {b : Nat → Nat → Int} {c u v : Nat → Int} (h : PlS n s b c u) (g : PlS n s b (chS n s b c u) v) : PlS n s b c fun j => u j + v j := by
  have e : ∀ k, k ≠ s → chS n s b c u k = c k - lapS n b u k := fun k hk => by unfold chS; rw [if_neg hk]
  refine ⟨?_, ?_, ?_, ?_⟩
  · show u s + v s = 0; rw [h.zero, g.zero]; rfl
  · intro k hk; have := h.pos k hk; have := g.pos k hk; show 0 ≤ u k + v k; omega
  · intro k hk ks; rw [lap_add]; have := g.has k hk ks; rw [e k ks] at this; omega
  · intro w w0 wp st k hk
    have l := h.least w w0 wp st
    have := g.least (fun j => w j - u j) (by show w s - u s = 0; rw [w0, h.zero]; rfl) (fun j hj => by have := l j hj; show 0 ≤ w j - u j; omega) (fun j hj js => by
      rw [lap_sub, e j js]; have := st j hj js; omega) k hk
    show u k + v k ≤ w k; omega
/-- Chips get no more, and no place topples too often. -/
theorem PlS.few {n s : Nat} {b : Nat → Nat → Int} (G : GrS n s b) {c u : Nat → Int} {C : Int} (h : PlS n s b c u) (hc : ∀ k, k < n → 0 ≤ c k) (hC : smS n c ≤ C) (k : Nat) (hk : k < n) : u k ≤ C * ((n - 1 : Nat) : Int) :=
  few_topples G (Int.le_trans (smS_nonneg hc) hC) h.zero hc hC h.has k hk
theorem lap_all {n : Nat} {b : Nat → Nat → Int} (sym : ∀ k j, b k j = b j k) (u : Nat → Int) : smS n (lapS n b u) = 0 :=
  smS_anti (f := fun k j => b k j * (u k - u j)) (fun k j => by rw [sym k j, ← Int.mul_neg]; congr 1; omega) n
theorem PlS.sum {n s : Nat} {b : Nat → Nat → Int} (G : GrS n s b) {c u : Nat → Int} {C : Int} (h : PlS n s b c u) (hc : ∀ k, k < n → 0 ≤ c k) (hC : smS n c ≤ C) (k : Nat) (hk : k < n) : chS n s b c u k ≤ C := by
  have p : ∀ j, j < n → 0 ≤ chS n s b c u j := fun j hj => by
    unfold chS
    split
    · omega
    · rename_i js; have := h.has j hj js; omega
  have o := smS_one p hk
  have le : ∀ j, j < n → chS n s b c u j ≤ c j - lapS n b u j := fun j hj => by
    unfold chS
    split
    · rename_i js; subst js
      have c0 := hc j hj
      have : lapS n b u j ≤ 0 := by
        have e := smS_zero n
        rw [← e]
        refine smS_le fun i hi => ?_
        have up := h.pos i hi
        rw [h.zero, show (0 : Int) - u i = - u i by omega, Int.mul_neg]
        have := Int.mul_nonneg (G.pos j i) up
        omega
      omega
    · omega
  have l := smS_le le
  rw [smS_sub, lap_all G.sym] at l
  omega
end Go.Proofs.YtpajdmhgonmgoaaDoor

namespace Go.Proofs.YtpajdmhgonmgoaaDoor
set_option linter.unusedVariables false
/-- An edge: between which places, how many times. -/
structure EdS where
  a : Nat
  b : Nat
  t : Int
def okE (n : Nat) (e : EdS) : Prop := e.a < n ∧ e.b < n ∧ e.a ≠ e.b ∧ 1 ≤ e.t ∧ e.t ≤ 100
/-- How many edges two places have, and a place. -/
def btE (e : EdS) (k j : Nat) : Int := if (e.a = k ∧ e.b = j) ∨ (e.a = j ∧ e.b = k) then e.t else 0
def dgE (e : EdS) (k : Nat) : Int := if e.a = k ∨ e.b = k then e.t else 0
def btL (es : List EdS) (k j : Nat) : Int := (es.map fun e => btE e k j).sum
def dgL (es : List EdS) (k : Nat) : Int := (es.map fun e => dgE e k).sum
theorem bt_cons (e : EdS) (es : List EdS) (k j : Nat) : btL (e :: es) k j = btE e k j + btL es k j := by simp [btL]
theorem dg_cons (e : EdS) (es : List EdS) (k : Nat) : dgL (e :: es) k = dgE e k + dgL es k := by simp [dgL]
theorem bt_sym : ∀ (es : List EdS) (k j : Nat), btL es k j = btL es j k
  | [], _, _ => rfl
  | e :: es, k, j => by
    rw [bt_cons, bt_cons, bt_sym es k j]
    congr 1
    unfold btE
    by_cases h : (e.a = k ∧ e.b = j) ∨ (e.a = j ∧ e.b = k)
    · rw [if_pos h, if_pos (by omega)]
    · rw [if_neg h, if_neg (by omega)]
theorem bt_posS {n : Nat} : ∀ {es : List EdS}, (∀ e ∈ es, okE n e) → ∀ k j : Nat, 0 ≤ btL es k j
  | [], _, _, _ => Int.le_refl _
  | e :: es, h, k, j => by
    rw [bt_cons]
    have a := bt_posS (n := n) (es := es) (fun x hx => h x (List.mem_cons_of_mem _ hx)) k j
    have b := h e (List.mem_cons_self ..)
    unfold okE at b
    unfold btE
    split <;> omega
theorem bt_self {n : Nat} : ∀ {es : List EdS}, (∀ e ∈ es, okE n e) → ∀ k : Nat, btL es k k = 0
  | [], _, _ => rfl
  | e :: es, h, k => by
    rw [bt_cons, bt_self (n := n) (es := es) (fun x hx => h x (List.mem_cons_of_mem _ hx)) k]
    have b := h e (List.mem_cons_self ..)
    unfold okE at b
    unfold btE
    rw [if_neg (by omega)]; rfl
theorem bt_mem {n : Nat} : ∀ {es : List EdS}, (∀ e ∈ es, okE n e) → ∀ e ∈ es, 1 ≤ btL es e.a e.b
  | [], _, _, h => by simp at h
  | x :: es, h, e, he => by
    rw [bt_cons]
    have p := bt_posS (n := n) (es := es) (fun y hy => h y (List.mem_cons_of_mem _ hy)) e.a e.b
    have px : 0 ≤ btE x e.a e.b := by have b := h x (List.mem_cons_self ..); unfold okE at b; unfold btE; split <;> omega
    rcases List.mem_cons.1 he with q | q
    · subst q
      have b := h e (List.mem_cons_self ..)
      unfold okE at b
      have : btE e e.a e.b = e.t := by unfold btE; rw [if_pos (Or.inl ⟨rfl, rfl⟩)]
      omega
    · have := bt_mem (n := n) (es := es) (fun y hy => h y (List.mem_cons_of_mem _ hy)) e q
      omega
theorem dg_sum {n : Nat} : ∀ {es : List EdS}, (∀ e ∈ es, okE n e) → ∀ k : Nat, smS n (btL es k) = dgL es k
  | [], _, k => smS_zero n
  | e :: es, h, k => by
    have ih := dg_sum (n := n) (es := es) (fun x hx => h x (List.mem_cons_of_mem _ hx)) k
    have b := h e (List.mem_cons_self ..)
    unfold okE at b
    rw [dg_cons, ← ih, show btL (e :: es) k = fun j => btE e k j + btL es k j from funext fun j => bt_cons e es k j, smS_add]
    congr 1
    unfold dgE
    by_cases h1 : e.a = k
    · rw [if_pos (Or.inl h1), show btE e k = fun j => if j = e.b then e.t else 0 from funext fun j => by unfold btE; by_cases q : j = e.b; { rw [if_pos (Or.inl ⟨h1, q.symm⟩), if_pos q] }; { rw [if_neg (by omega), if_neg q] }, smS_at, if_pos b.2.1]
    · by_cases h2 : e.b = k
      · rw [if_pos (Or.inr h2), show btE e k = fun j => if j = e.a then e.t else 0 from funext fun j => by unfold btE; by_cases q : j = e.a; { rw [if_pos (Or.inr ⟨q.symm, h2⟩), if_pos q] }; { rw [if_neg (by omega), if_neg q] }, smS_at, if_pos b.1]
      · rw [if_neg (by omega), show btE e k = fun _ => 0 from funext fun j => by unfold btE; rw [if_neg (by omega)], smS_zero]
/-- Whom an edge reaches; a round over all edges; so many rounds. -/
def rcE (R : Nat → Bool) (e : EdS) (k : Nat) : Bool := if k = e.a ∨ k = e.b then R e.a || R e.b else R k
def rcL (es : List EdS) (R : Nat → Bool) : Nat → Bool := es.foldl rcE R
def rcN (es : List EdS) : Nat → (Nat → Bool) → Nat → Bool
  | 0, R => R
  | m + 1, R => rcN es m (rcL es R)
theorem rcE_keep {R : Nat → Bool} {e : EdS} {S : Nat → Bool} {z : Bool} (hs : S e.a = S e.b) (h : ∀ k, R k = true → S k = z) : ∀ k, rcE R e k = true → S k = z := fun k hk => by
  unfold rcE at hk
  split at hk
  · rename_i q
    have : S e.a = z := by
      rcases Bool.or_eq_true_iff.1 hk with r | r
      · exact h _ r
      · rw [hs]; exact h _ r
    rcases q with q | q
    · rw [q]; exact this
    · rw [q, ← hs]; exact this
  · exact h k hk
theorem rcL_keep {S : Nat → Bool} {z : Bool} : ∀ {es : List EdS}, (∀ e ∈ es, S e.a = S e.b) → ∀ {R : Nat → Bool}, (∀ k, R k = true → S k = z) → ∀ k, rcL es R k = true → S k = z
  | [], _, _, h => h
  | e :: es, hs, R, h => rcL_keep (es := es) (fun x hx => hs x (List.mem_cons_of_mem _ hx)) (R := rcE R e) (rcE_keep (hs e (List.mem_cons_self ..)) h)
theorem rcN_keep {es : List EdS} {S : Nat → Bool} {z : Bool} (hs : ∀ e ∈ es, S e.a = S e.b) : ∀ (m : Nat) {R : Nat → Bool}, (∀ k, R k = true → S k = z) → ∀ k, rcN es m R k = true → S k = z
  | 0, _, h => h
  | m + 1, R, h => rcN_keep hs m (R := rcL es R) (rcL_keep hs h)
/-- All are reached from the first: that is a graph. -/
theorem graph_of {n s m : Nat} {es : List EdS} (hs : s < n) (ok : ∀ e ∈ es, okE n e) (all : ∀ k, k < n → rcN es m (fun k => decide (k = 0)) k = true) : GrS n s (btL es) := by
  refine ⟨hs, bt_sym es, bt_posS ok, bt_self ok, fun S s0 ⟨k, hk, sk⟩ => ?_⟩
  by_cases h : ∀ e ∈ es, S e.a = S e.b
  · exfalso
    have r := rcN_keep (S := S) (z := S 0) h m (R := fun k => decide (k = 0)) (fun k hk => by rw [of_decide_eq_true hk])
    have a := r k (all k hk)
    have b := r s (all s hs)
    rw [sk] at a; rw [s0, ← a] at b; cases b
  · have : ∃ e, e ∈ es ∧ S e.a ≠ S e.b := Classical.byContradiction fun q => h fun e he => Classical.byContradiction fun q2 => q ⟨e, he, q2⟩
    obtain ⟨e, he, hne⟩ := this
    have o := ok e he
    have t := bt_mem ok e he
    unfold okE at o
    cases ha : S e.a with
    | true =>
      cases hb : S e.b with
      | true => rw [ha, hb] at hne; exact absurd rfl hne
      | false => exact ⟨e.a, e.b, o.1, o.2.1, ha, hb, t⟩
    | false =>
      cases hb : S e.b with
      | true => exact ⟨e.b, e.a, o.2.1, o.1, hb, ha, by rw [bt_sym]; exact t⟩
      | false => rw [ha, hb] at hne; exact absurd rfl hne
theorem dg_pos {n s m : Nat} {es : List EdS} (hs : s < n) (ok : ∀ e ∈ es, okE n e) (all : ∀ k, k < n → rcN es m (fun k => decide (k = 0)) k = true) {k : Nat} (hk : k < n) (ks : k ≠ s) : 1 ≤ dgL es k := by
  obtain ⟨k', j, hk', hj, sk, sj, t⟩ := (graph_of hs ok all).con (fun i => decide (i = k)) (decide_eq_false (fun e => ks e.symm)) ⟨k, hk, decide_eq_true rfl⟩
  obtain rfl : k' = k := of_decide_eq_true sk
  have := smS_one (f := btL es k') (fun j _ => bt_posS ok k' j) hj
  rw [dg_sum ok] at this
  omega
/-- What lies behind one more that topples so often. -/
theorem ch_up {n s : Nat} {b : Nat → Nat → Int} (G : GrS n s b) (c u : Nat → Int) {k : Nat} (t : Int) (hk : k < n) (ks : k ≠ s) (j : Nat) (hj : j < n) : chS n s b c (upS u k t) j = if j = s then 0 else if j = k then chS n s b c u j - t * smS n (b k) else chS n s b c u j + t * b k j := by
  unfold chS
  by_cases h : j = s
  · rw [if_pos h, if_pos h]
  · rw [if_neg h, if_neg h, if_neg h]
    by_cases q : j = k
    · subst q; rw [if_pos rfl, lap_up_same G.self]; omega
    · rw [if_neg q, lap_up_other u t hk q, G.sym j k]; omega
end Go.Proofs.YtpajdmhgonmgoaaDoor

namespace Go.Proofs.YtpajdmhgonmgoaaDoor
open Go.Conc Go.ConcN
set_option linter.unusedVariables false
/-- Goroutine 0 and the j workers that are started know it. -/
def TeamK (t : Trace) (L j i : Nat) : Prop := Knows t 0 i ∧ ∀ k, k < j → Knows t (L + k) i
theorem TeamK.app {t : Trace} {L j i : Nat} (u : Trace) (h : TeamK t L j i) : TeamK (t ++ u) L j i := ⟨h.1.app u, fun k hk => (h.2 k hk).app u⟩
theorem TeamK.of {t : Trace} {L j i g : Nat} (h : TeamK t L j i) (hg : g = 0 ∨ ∃ k, k < j ∧ g = L + k) : Knows t g i := by
  rcases hg with rfl | ⟨k, hk, rfl⟩
  · exact h.1
  · exact h.2 k hk
structure TJ (Sh Rd : Loc → Prop) (L : Nat) (t : Trace) (j : Nat) : Prop where
  nr : ∀ said, ¬ Race said t
  sh : ∀ i a, touchAt t i = some a → a.loc.isMemory = true → Sh a.loc → a.kind = .atomic ∨ (a.kind = .said ∧ Knows t 0 i) ∨ TeamK t L j i
  rd : ∀ i a, touchAt t i = some a → a.loc.isMemory = true → Rd a.loc → a.write = true → TeamK t L j i
  mine : ∀ i a, touchAt t i = some a → a.loc.isMemory = true → ¬ Sh a.loc → ¬ Rd a.loc → Knows t 0 i
/-- What goroutine g of the crew may do. -/
def OkT (Sh Rd : Loc → Prop) (g : Nat) (op : MemOp) : Prop :=
  op.g = g ∧ ∀ x, op.act.touch? = some x → (Sh x.loc ∧ (x.kind = .atomic ∨ (g = 0 ∧ x.kind = .said))) ∨ (Rd x.loc ∧ x.write = false) ∨ (g = 0 ∧ ¬ Sh x.loc ∧ ¬ Rd x.loc)
section
variable {Sh Rd : Loc → Prop} {L j : Nat} {t u : Trace}
theorem TJ.app (A : ∀ l, Rd l → ¬ Sh l) (h : TJ Sh Rd L t j) {g : Nat} (hg : g = 0 ∨ ∃ k, k < j ∧ g = L + k) (hu : ∀ op ∈ u, OkT Sh Rd g op) : TJ Sh Rd L (t ++ u) j := by
  have cas : ∀ {i : Nat} {a : Touch}, touchAt (t ++ u) i = some a → (touchAt t i = some a) ∨ (∃ op, (t ++ u)[i]? = some op ∧ op ∈ u ∧ op.act.touch? = some a) := by
    intro i a ha
    obtain ⟨x, hx, hxa⟩ := touch_of ha
    rcases getElem?_append_cases hx with ⟨_, hx'⟩ | ⟨_, hxu⟩
    · exact .inl (by rw [touchAt_of hx']; exact hxa)
    · exact .inr ⟨x, hx, hxu, hxa⟩
  refine ⟨fun said => noRace_append (h.nr said) (fun op hop => (hu op hop).1) (fun i a ha op hop b hb hc => ?_), fun i a ha hm hs => ?_, fun i a ha hm hr hw => ?_, fun i a ha hm hs hr => ?_⟩
  · have hm : a.loc.isMemory = true := hc.2.1
    rcases (hu op hop).2 b hb with ⟨hs, hk⟩ | ⟨hr, hw⟩ | ⟨g0, hs, hr⟩
    · rcases h.sh i a ha hm (by rw [hc.1]; exact hs) with ka | ⟨ka, kn⟩ | tk
      · have c := hc.2.2.2
        rw [ka] at c
        rcases c with c | c | ⟨_, c, _⟩
        · cases c
        · rcases hk with e | ⟨_, e⟩ <;> rw [e] at c <;> cases c
        · cases c
      · have c := hc.2.2.2
        rcases hk with e | ⟨g0, e⟩
        · rw [ka, e] at c
          rcases c with c | c | ⟨_, _, c⟩ <;> cases c
        · rw [g0]; exact kn
      · exact tk.of hg
    · refine (h.rd i a ha hm (by rw [hc.1]; exact hr) ?_).of hg
      exact hc.2.2.1.resolve_right (by rw [hw]; simp)
    · rw [g0]; exact h.mine i a ha hm (by rw [hc.1]; exact hs) (by rw [hc.1]; exact hr)
  · rcases cas ha with ha' | ⟨op, hi, hop, hb⟩
    · rcases h.sh i a ha' hm hs with k | ⟨k, kn⟩ | tk
      · exact .inl k
      · exact .inr (.inl ⟨k, kn.app u⟩)
      · exact .inr (.inr (tk.app u))
    · rcases (hu op hop).2 a hb with ⟨_, hk⟩ | ⟨hr, _⟩ | ⟨_, hn, _⟩
      · rcases hk with e | ⟨g0, e⟩
        · exact .inl e
        · have := knows_own hi
          rw [(hu op hop).1, g0] at this
          exact .inr (.inl ⟨e, this⟩)
      · exact absurd hs (A _ hr)
      · exact absurd hs hn
  · rcases cas ha with ha' | ⟨op, hi, hop, hb⟩
    · exact (h.rd i a ha' hm hr hw).app u
    · rcases (hu op hop).2 a hb with ⟨hs, _⟩ | ⟨_, h2⟩ | ⟨_, _, hn⟩
      · exact absurd hs (A _ hr)
      · rw [hw] at h2; cases h2
      · exact absurd hr hn
  · rcases cas ha with ha' | ⟨op, hi, hop, hb⟩
    · exact (h.mine i a ha' hm hs hr).app u
    · rcases (hu op hop).2 a hb with ⟨h1, _⟩ | ⟨h1, _⟩ | ⟨g0, _, _⟩
      · exact absurd h1 hs
      · exact absurd h1 hr
      · have := knows_own hi
        rw [(hu op hop).1, g0] at this
        exact this
/-- Operations that touch nothing. -/
theorem TJ.mute (h : TJ Sh Rd L t j) {g : Nat} (hg : ∀ op ∈ u, op.g = g) (hu : ∀ op ∈ u, op.act.touch? = none) : TJ Sh Rd L (t ++ u) j := by
  have old : ∀ {i : Nat} {a : Touch}, touchAt (t ++ u) i = some a → touchAt t i = some a := by
    intro i a ha
    obtain ⟨x, hx, hxa⟩ := touch_of ha
    rcases getElem?_append_cases hx with ⟨_, hx'⟩ | ⟨_, hxu⟩
    · rw [touchAt_of hx']; exact hxa
    · rw [hu x hxu] at hxa; cases hxa
  refine ⟨fun said => noRace_append (h.nr said) hg (fun i a ha op hop b hb hc => by rw [hu op hop] at hb; cases hb), fun i a ha hm hs => ?_, fun i a ha hm hr hw => (h.rd i a (old ha) hm hr hw).app u, fun i a ha hm hs hr => (h.mine i a (old ha) hm hs hr).app u⟩
  rcases h.sh i a (old ha) hm hs with k | ⟨k, kn⟩ | tk
  · exact .inl k
  · exact .inr (.inl ⟨k, kn.app u⟩)
  · exact .inr (.inr (tk.app u))
/-- A go statement: worker j is started. -/
theorem TJ.fork (h : TJ Sh Rd L t j) {x y : MemOp} (hx : x.g = 0 ∧ x.act = .go (L + j)) (hy : y.g = L + j ∧ y.act = .start) (h0 : Deaf t 0 = 0) (hk : Deaf t (L + j) = 0) : TJ Sh Rd L (t ++ #[x, y]) (j + 1) := by
  have nt : ∀ op ∈ #[x, y], op.act.touch? = none := by
    intro op hop
    simp only [List.mem_toArray, List.mem_cons, List.not_mem_nil, or_false] at hop
    rcases hop with rfl | rfl
    · rw [hx.2]; rfl
    · rw [hy.2]; rfl
  have old : ∀ {i : Nat} {a : Touch}, touchAt (t ++ #[x, y]) i = some a → touchAt t i = some a := by
    intro i a ha
    obtain ⟨z, hz, hza⟩ := touch_of ha
    rcases getElem?_append_cases hz with ⟨_, hz'⟩ | ⟨_, hzu⟩
    · rw [touchAt_of hz']; exact hza
    · rw [nt z hzu] at hza; cases hza
  have tk : ∀ {i : Nat}, TeamK t L j i → TeamK (t ++ #[x, y]) L (j + 1) i := fun {i} T => by
    refine ⟨T.1.app _, fun k hkj => ?_⟩
    by_cases e : k = j
    · subst e; exact fork_knows hx hy h0 hk T.1
    · exact (T.2 k (by omega)).app _
  refine ⟨fun said => ?_, fun i a ha hm hs => ?_, fun i a ha hm hr hw => tk (h.rd i a (old ha) hm hr hw), fun i a ha hm hs hr => (h.mine i a (old ha) hm hs hr).app _⟩
  · have e : t ++ #[x, y] = (t ++ #[x]) ++ #[y] := by apply Array.ext'; simp
    rw [e]
    refine noRace_append (g := L + j) (noRace_append (g := 0) (h.nr said) (fun op hop => by simp at hop; rw [hop]; exact hx.1) (fun i a _ op hop b hb _ => ?_)) (fun op hop => by simp at hop; rw [hop]; exact hy.1) (fun i a _ op hop b hb _ => ?_)
    · rw [nt op (by simp at hop ⊢; exact .inl hop)] at hb; cases hb
    · rw [nt op (by simp at hop ⊢; exact .inr hop)] at hb; cases hb
  · rcases h.sh i a (old ha) hm hs with k | ⟨k, kn⟩ | q
    · exact .inl k
    · exact .inr (.inl ⟨k, kn.app _⟩)
    · exact .inr (.inr (tk q))
/-- How it begins. -/
theorem TJ.start {Shun : Loc → Prop} {B : Nat} (P : Past Shun B t) (hS : ∀ l, Shun l → Sh l) (A : ∀ l, Rd l → ¬ Sh l) : TJ Sh Rd L t 0 := by
  refine ⟨P.clean, fun i a ha hm _ => ?_, fun i a ha hm hr _ => ?_, fun i a ha hm hs _ => ?_⟩
  · rcases P.known i a ha hm with k | ⟨_, k⟩
    · exact .inr (.inr ⟨k, fun _ h => absurd h (Nat.not_lt_zero _)⟩)
    · exact .inl k
  · rcases P.known i a ha hm with k | ⟨s, _⟩
    · exact ⟨k, fun _ h => absurd h (Nat.not_lt_zero _)⟩
    · exact absurd (hS _ s) (A _ hr)
  · rcases P.known i a ha hm with k | ⟨s, _⟩
    · exact k
    · exact absurd (hS _ s) hs
end
/-- Worker g has said its release-and-merge at r; what it does behind it touches shared places alone. -/
structure RelK (Sh : Loc → Prop) (a : Addr) (t : Trace) (g r : Nat) : Prop where
  rel : RelBy a t g r
  after : ∀ i op x, r < i → t[i]? = some op → op.g = g → op.act.touch? = some x → Sh x.loc ∧ x.kind = .atomic
theorem RelK.appOther {Sh : Loc → Prop} {a : Addr} {t u : Trace} {g r g' : Nat} (h : RelK Sh a t g r) (hu : ∀ op ∈ u, op.g = g') (hg : g' ≠ g) : RelK Sh a (t ++ u) g r := by
  refine ⟨h.rel.appOther hu hg, fun i op x hi ho hog hx => ?_⟩
  rcases getElem?_append_cases ho with ⟨_, ho'⟩ | ⟨_, hou⟩
  · exact h.after i op x hi ho' hog hx
  · exact absurd ((hu op hou).symm.trans hog) hg
theorem RelK.appOwn {Sh : Loc → Prop} {a : Addr} {t u : Trace} {g r : Nat} (h : RelK Sh a t g r) (h' : RelBy a (t ++ u) g r) (hu : ∀ op ∈ u, ∀ x, op.act.touch? = some x → Sh x.loc ∧ x.kind = .atomic) : RelK Sh a (t ++ u) g r := by
  refine ⟨h', fun i op x hi ho hog hx => ?_⟩
  rcases getElem?_append_cases ho with ⟨_, ho'⟩ | ⟨_, hou⟩
  · exact h.after i op x hi ho' hog hx
  · exact hu op hou x hx
theorem RelK.new {Sh : Loc → Prop} {a : Addr} {t : Trace} {g : Nat} (hd : Deaf t g = 0) (fn : FuncId) (pos : String) : RelK Sh a (t ++ MemOp.ofEvents g fn pos #[Go.ConcR.mk (.releaseMerge a)]) g t.size := by
  refine ⟨RelBy.new hd fn pos, fun i op x hi ho _ _ => ?_⟩
  have := lt_size_of_getElem? ho
  simp [ofEvents_eq] at this
  omega
/-- What stands behind the old trace: goroutine 0's, the workers', or nothing that touches. -/
def Ext (L j : Nat) (t₀ t : Trace) : Prop := ∃ u, t = t₀ ++ u ∧ ∀ op ∈ u, op.g = 0 ∨ op.act.touch? = none ∨ ∃ k, k < j ∧ op.g = L + k
theorem Ext.refl (L j : Nat) (t : Trace) : Ext L j t t := ⟨#[], by simp, fun op h => by simp at h⟩
theorem Ext.app {L j j' : Nat} {t₀ t u : Trace} (h : Ext L j t₀ t) (hj : j ≤ j') (hu : ∀ op ∈ u, op.g = 0 ∨ op.act.touch? = none ∨ ∃ k, k < j' ∧ op.g = L + k) : Ext L j' t₀ (t ++ u) := by
  obtain ⟨v, rfl, hv⟩ := h
  refine ⟨v ++ u, by rw [Array.append_assoc], fun op hop => ?_⟩
  rcases Array.mem_append.1 hop with h | h
  · rcases hv op h with q | q | ⟨k, hk, q⟩
    · exact .inl q
    · exact .inr (.inl q)
    · exact .inr (.inr ⟨k, by omega, q⟩)
  · exact hu op h
/-- Goroutine 0 has said 'acquire', hearing, behind every worker's release. -/
def AcqK (Sh : Loc → Prop) (a : Addr) (L j : Nat) (t : Trace) : Prop :=
  ∃ q, t.act? q = some (.mark (.acquire a)) ∧ t.g? q = some 0 ∧ t.heard q ∧ ∀ k, k < j → ∃ r, RelK Sh a t (L + k) r ∧ r < q
theorem AcqK.app {Sh : Loc → Prop} {a : Addr} {L j : Nat} {t u : Trace} (h : AcqK Sh a L j t) (hu : ∀ k r, k < j → RelK Sh a t (L + k) r → RelK Sh a (t ++ u) (L + k) r) : AcqK Sh a L j (t ++ u) := by
  obtain ⟨q, h1, h2, h3, h4⟩ := h
  have hq := lt_of_act? h1
  exact ⟨q, by rw [act?_old hq]; exact h1, by rw [g?_old hq]; exact h2, (heard_old hq).2 h3, fun k hk => let ⟨r, hr, hrq⟩ := h4 k hk; ⟨r, hu k r hk hr, hrq⟩⟩
/-- ALL IS HANDED OVER: behind the join goroutine 0 stands as before, but that nobody may touch the shared places but atomically any more. -/
theorem past_of_crew {Sh Rd Shun : Loc → Prop} {a : Addr} {L j B B₀ : Nat} {t t₀ : Trace} (h : TJ Sh Rd L t j) (P : Past Shun B₀ t₀) (hS : ∀ l, Shun l → Sh l) (E : Ext L j t₀ t) (Q : AcqK Sh a L j t) (hn : NoRelease a t) (hd : Deaf t 0 = 0) (hl : ∀ op ∈ t, op.act.low B) : Past Sh B t := by
  obtain ⟨u, rfl, hu⟩ := E
  obtain ⟨q, q1, q2, q3, q4⟩ := Q
  have qz : ∃ z, (t₀ ++ u)[q]? = some z ∧ z.g = 0 := by
    unfold Trace.g? at q2
    obtain ⟨z, hz, hz0⟩ := Option.map_eq_some_iff.1 q2
    exact ⟨z, hz, hz0⟩
  obtain ⟨z, hz, hz0⟩ := qz
  have edge : ∀ k r, RelK Sh a (t₀ ++ u) (L + k) r → r < q → HappensBefore (t₀ ++ u) r q := fun k r hr hrq => .single (.inr ⟨.marked hrq (.inr hr.rel.act) q1 (fun k _ _ => hn k), hr.rel.heard, q3⟩)
  refine ⟨h.nr, fun i b hb hm => ?_, fun i g hgi hne hc => ?_, hd, hl⟩
  · obtain ⟨op, ho, hob⟩ := touch_of hb
    rcases getElem?_append_cases ho with ⟨hlt, ho'⟩ | ⟨_, hou⟩
    · rcases P.known i b (by rw [touchAt_of ho']; exact hob) hm with k | ⟨s, k⟩
      · exact .inl (k.app u)
      · exact .inr ⟨hS _ s, k⟩
    · rcases hu op hou with g0 | m | ⟨k, hk, gk⟩
      · have := knows_own ho
        rw [g0] at this
        exact .inl this
      · rw [m] at hob; cases hob
      · obtain ⟨r, hr, hrq⟩ := q4 k hk
        rcases Nat.lt_trichotomy i r with c | c | c
        · refine .inl ⟨q, z, hz, hz0, .inr (.trans (.single (.inl ⟨c, L + k, ?_, hr.rel.g⟩)) (edge k r hr hrq))⟩
          simp [Trace.g?, ho, gk]
        · subst c
          have e := hr.rel.act
          rw [act?_of ho] at e
          injection e with e
          rw [e] at hob
          cases hob
        · exact .inr (hr.after i op b c ho gk hob)
  · have hc0 := hc
    obtain ⟨x, hx, _⟩ := hc
    obtain ⟨op, ho, hox⟩ := touch_of hx
    have og : op.g = g := by simpa [Trace.g?, ho] using hgi
    rcases getElem?_append_cases ho with ⟨hlt, ho'⟩ | ⟨_, hou⟩
    · obtain ⟨p, hp, hb⟩ := P.over i g (by rw [g?_old hlt] at hgi; exact hgi) hne ((counts_old hlt).1 hc0)
      have hpl : p < t₀.size := by
        unfold Trace.g? at hp
        obtain ⟨y, hy, _⟩ := Option.map_eq_some_iff.1 hp
        exact lt_size_of_getElem? hy
      exact ⟨p, by rw [g?_old hpl]; exact hp, hb_app u hb⟩
    · rcases hu op hou with g0 | m | ⟨k, hk, gk⟩
      · exact absurd (og.symm.trans g0) hne
      · rw [m] at hox; cases hox
      · obtain ⟨r, hr, hrq⟩ := q4 k hk
        obtain rfl : g = L + k := og.symm.trans gk
        rcases Nat.lt_trichotomy i r with c | c | c
        · exact ⟨q, q2, .trans (.single (.inl ⟨c, L + k, hgi, hr.rel.g⟩)) (edge k r hr hrq)⟩
        · subst c; exact ⟨q, q2, edge k i hr hrq⟩
        · exact absurd hc0 (hr.rel.after i c hgi)
end Go.Proofs.YtpajdmhgonmgoaaDoor

