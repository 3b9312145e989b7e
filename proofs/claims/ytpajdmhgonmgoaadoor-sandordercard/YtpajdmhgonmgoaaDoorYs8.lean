/-
  What the last text of this claim leans on, part 8: Kp3, Kp4, Kb2, Hw1.
-/
import Derived.Test.YtpajdmhgonmgoaaDoorYs7
import Derived.Test.YtpajdmhgonmgoaaDoorYs6
import Derived.Test.YtpajdmhgonmgoaaDoorYs4
import Derived.Conc.CompanyDraw
import Derived.Conc.WalkWords
namespace Go.Proofs.YtpajdmhgonmgoaaDoor
open Go.RowKit
set_option linter.unusedVariables false
open Go.Conc Go.ConcN
set_option linter.unusedSimpArgs false
/-- What is asked of the pile. -/
structure Pile (n s : Nat) (b : Nat → Nat → Int) (c0 u0 : Nat → Int) (items : List Nat) (K : Int) : Prop where
  gr : GrS n s b
  n10 : n ≤ 10
  c0p : ∀ k, k < n → 0 ≤ c0 k
  sum : smS n c0 ≤ K
  K5 : K ≤ 100000
  it : ∀ p ∈ items, p < n ∧ p ≠ s
  deg : ∀ p, p < n → p ≠ s → 1 ≤ smS n (b p)
  u0p : ∀ k, k < n → 0 ≤ u0 k
theorem smS_up (u : Nat → Int) (k : Nat) (t : Int) (n : Nat) (hk : k < n) : smS n (upS u k t) = smS n u + t := by
  have e : smS n (upS u k t) = smS n (fun j => u j + (if j = k then t else 0)) := smS_congr fun j _ => by unfold upS; split <;> omega
  rw [e, smS_add, smS_at, if_pos hk]
section
variable {C T n s : Nat} {b : Nat → Nat → Int} {c0 u0 : Nat → Int} {items : List Nat} {K : Int} {u : Nat → Int} {M : Nat} {f : Addr → Int} {bf t : List Nat} {h : Nat → Hd}
theorem ps_nonneg (M : Nat) (h : Nat → Hd) (x : Addr) : 0 ≤ pnA M h x + nnA M h x := by
  unfold pnA nnA
  rw [← smS_add]
  exact smS_nonneg fun i _ => psA_nonneg _ _
theorem nn_nonneg (M : Nat) (h : Nat → Hd) (x : Addr) : 0 ≤ nnA M h x := smS_nonneg fun i _ => ngA_nonneg _ _
theorem GIb.far (P : Pile n s b c0 u0 items K) (g : GIb C T n s b c0 u0 items K u M f bf t h) {q : Nat} (hq : q < n) : chS n s b c0 u q ≤ K := g.pl.sum P.gr P.c0p P.sum q hq
theorem GIb.found (P : Pile n s b c0 u0 items K) (g : GIb C T n s b c0 u0 items K u M f bf t h) {p i : Nat} (hi : h i = (some p, [])) : p < n ∧ p ≠ s ∧ p ∈ items ∧ nnA M h (cpL C p) = 0 ∧ 0 ≤ f (cpL C p) ∧ f (cpL C p) ≤ chS n s b c0 u p ∧ f (cpL C p) ≤ K := by
  have un : UnlK bf t h p := Or.inr ⟨i, by rw [hi]⟩
  have hm := g.it p un
  obtain ⟨hp, ps⟩ := P.it p hm
  have z : nnA M h (cpL C p) = 0 := by
    unfold nnA
    rw [smS_congr (g := fun _ => 0) (fun j _ => ngA_none fun x hx e => g.ul p un j x hx e), smS_zero]
  have h1 := g.ng p hp
  have h2 := ps_nonneg M h (cpL C p)
  have h3 := g.cp p hp
  have h4 := g.far P hp
  rw [z] at h1 h2
  exact ⟨hp, ps, hm, z, h1, by omega, by omega⟩
theorem div_facts {v d : Int} (hv : 0 ≤ v) (hd : 1 ≤ d) : 0 ≤ v.tdiv d ∧ v.tdiv d * d ≤ v ∧ v < v.tdiv d * d + d := by
  rw [Int.tdiv_eq_ediv_of_nonneg hv]
  refine ⟨Int.ediv_nonneg hv (by omega), Int.ediv_mul_le _ (by omega), ?_⟩
  have := Int.lt_ediv_add_one_mul_self v (show 0 < d by omega)
  rw [Int.add_mul] at this; omega
theorem gi_load (P : Pile n s b c0 u0 items K) {p : Nat} (i : Nat) (g : GIs C T n s b c0 u0 items K f bf t h) (hi : h i = (some p, [])) :
    (p < n ∧ p ≠ s ∧ 0 ≤ f (cpL C p) ∧ f (cpL C p) ≤ K) ∧ GIs C T n s b c0 u0 items K f bf t (upd h i (none, plS C T n s b p (f (cpL C p)))) := by
  obtain ⟨u, M, him, g⟩ := g.at i
  obtain ⟨hp, ps, hm, z, v0, vc, vK⟩ := g.found P hi
  refine ⟨⟨hp, ps, v0, vK⟩, ?_⟩
  have dg := P.deg p hp ps
  obtain ⟨t0, tl, tu⟩ := div_facts v0 dg
  have ec : chS n s b c0 u p = c0 p - lapS n b u p := by unfold chS; rw [if_neg ps]
  obtain ⟨tn, htn⟩ : ∃ tn : Nat, (tn : Int) = (f (cpL C p)).tdiv (smS n (b p)) := ⟨((f (cpL C p)).tdiv (smS n (b p))).toNat, Int.toNat_of_nonneg t0⟩
  have pl' : PlS n s b c0 (upS u p ((f (cpL C p)).tdiv (smS n (b p)))) := by
    rw [← htn]
    exact g.pl.times P.gr hp ps tn (by rw [htn]; omega)
  have e2 : (h i).2 = [] := by rw [hi]
  have un : ∀ q, UnlK bf t (upd h i (none, plS C T n s b p (f (cpL C p)))) q → UnlK bf t h q ∧ q ≠ p := by
    rintro q (h1 | ⟨j, h1⟩)
    · exact ⟨Or.inl h1, fun e => (g.hu i p (by rw [hi])).1 (e ▸ h1)⟩
    · rw [upd_at] at h1
      split at h1
      · cases h1
      · rename_i hji
        exact ⟨Or.inr ⟨j, h1⟩, fun e => hji ((g.hu i p (by rw [hi])).2 j (e ▸ h1))⟩
  refine ⟨_, M, ⟨fun j hj => by rw [upd_at, if_neg (by omega)]; exact g.hM j hj, pl', fun q hq => ?_, fun q hq => ?_, fun q hq => ?_, ?_, fun q hq => ?_, fun q hq => ?_, fun j x hx => ?_, g.f1, g.f2, fun q hq j x hx hxe => ?_, g.nd, fun q hq => g.it q (un q hq).1, fun j q hj => ?_, fun hq => ?_⟩⟩
  · have := g.ge q hq
    unfold upS; split <;> omega
  · rw [pn_upd h _ him, e2, pl_cp P.gr P.n10 hp hq, ch_up P.gr c0 u _ hp ps q hq]
    have h1 := g.cp q hq
    show f (cpL C q) + (pnA M h (cpL C q) - 0 + _) = _
    by_cases es : q = s
    · subst es
      rw [if_pos rfl]
      have : chS n q b c0 u q = 0 := by unfold chS; rw [if_pos rfl]
      rw [if_neg (fun e => ps e.symm)]
      have gz : gvS n q b p q = 0 := by unfold gvS; rw [if_neg (fun h => h.2 rfl)]
      rw [gz]; omega
    · rw [if_neg es]
      by_cases ep : q = p
      · rw [if_pos ep, if_pos ep]; omega
      · rw [if_neg ep, if_neg ep]
        have : gvS n s b p q = b p q := by unfold gvS; rw [if_pos ⟨hq, es⟩]
        rw [this]; omega
  · rw [pn_upd h _ him, e2, pl_tp (by have := P.n10; omega)]
    have h1 := g.tp q hq
    show f (tpL C q) + (pnA M h (tpL C q) - 0 + _) = _
    unfold upS; split <;> omega
  · rw [pn_upd h _ him, e2, pl_tg, smS_up _ _ _ _ hp]
    have h1 := g.tg
    show f (tgL T) + (pnA M h (tgL T) - 0 + _) = _
    omega
  · rw [nn_upd h _ him, e2, pl_ng P.gr P.n10 hp v0 hq]
    have h1 := g.ng q hq
    show nnA M h (cpL C q) - 0 + _ ≤ _
    split
    · rename_i e; subst e; rw [z]; omega
    · omega
  · rw [nn_upd h _ him, e2, pl_ng P.gr P.n10 hp v0 hq]
    have h1 := g.nb q hq
    show nnA M h (cpL C q) - 0 + _ ≤ _
    split
    · rename_i e; subst e; rw [z]; omega
    · omega
  · rw [upd_at] at hx
    split at hx
    · rcases pl_mem P.gr hp v0 hx with ⟨q, h1, h2, _⟩ | h1
      · exact Or.inl ⟨q, h1, h2⟩
      · exact Or.inr h1
    · exact g.mem j x hx
  · obtain ⟨h1, h2⟩ := un q hq
    rw [upd_at] at hx
    split at hx
    · rcases pl_mem P.gr hp v0 hx with ⟨r, _, h3, h4⟩ | ⟨_, h3⟩
      · rw [hxe] at h3
        exact h4 (fun e => h2 ((cpL_inj h3).trans e))
      · exact h3
    · exact g.ul q h1 j x hx hxe
  · rw [upd_at] at hj
    split at hj
    · cases hj
    · obtain ⟨h1, h2⟩ := g.hu j q hj
      refine ⟨h1, fun k hk => ?_⟩
      rw [upd_at] at hk
      split at hk
      · cases hk
      · exact h2 k hk
  · have hp2 := hq p hp
    have hp3 := g.ge p hp
    unfold upS at hp2
    rw [if_pos rfl] at hp2
    have tz : (f (cpL C p)).tdiv (smS n (b p)) = 0 := by omega
    have uu : upS u p ((f (cpL C p)).tdiv (smS n (b p))) = u := by rw [tz, upS_zero]
    rw [uu] at hq ⊢
    obtain ⟨s1, s2⟩ := g.st hq
    refine ⟨fun j x hx => ?_, fun q hqi hqn => ?_⟩
    · rw [upd_at] at hx
      split at hx
      · unfold plS at hx
        rw [if_pos tz] at hx
        obtain rfl := List.mem_singleton.1 hx
        rfl
      · exact s1 j x hx
    · by_cases e : q = p
      · subst e
        have h1 := g.cp q hp
        have h2 : pnA M h (cpL C q) = 0 := by
          unfold pnA
          rw [smS_congr (g := fun _ => 0) (fun j _ => pdA_zero fun x hx => s1 j x hx), smS_zero]
        rw [tz] at tu
        omega
      · refine s2 q hqi fun hu => hqn ?_
        rcases hu with h1 | ⟨j, h1⟩
        · exact Or.inl h1
        · refine Or.inr ⟨j, ?_⟩
          rw [upd_at, if_neg (fun e2 => by rw [e2, hi] at h1; injection h1 with h1; exact e h1.symm)]
          exact h1
theorem one_ps {i : Nat} (hi : i < M) {a : Addr} {d : Int} {ls : List (Addr × Int)} (e : (h i).2 = (a, d) :: ls) : (0 ≤ d → d ≤ pnA M h a + nnA M h a) ∧ (d < 0 → - d ≤ nnA M h a) := by
  have h1 := smS_one (f := fun j => pdA (h j).2 a + ngA (h j).2 a) (n := M) (fun j _ => psA_nonneg _ _) hi
  have h2 := smS_one (f := fun j => ngA (h j).2 a) (n := M) (fun j _ => ngA_nonneg _ _) hi
  rw [smS_add] at h1
  rw [e] at h1 h2
  have h3 := psA_nonneg ls a
  have h4 := ngA_nonneg ls a
  simp only [pdA, ngA, if_true] at h1 h2
  refine ⟨fun h0 => ?_, fun h0 => ?_⟩
  · rw [if_neg (by omega)] at h1
    unfold pnA nnA; omega
  · rw [if_pos h0] at h2
    unfold nnA; omega
theorem gi_add (P : Pile n s b c0 u0 items K) {a : Addr} {d : Int} {ls : List (Addr × Int)} (i : Nat) (g : GIs C T n s b c0 u0 items K f bf t h) (hi : h i = (none, (a, d) :: ls)) :
    ((∃ q, q < n ∧ a = cpL C q) ∨ (∃ q, q < n ∧ a = tpL C q) ∨ a = tgL T) ∧ Fits (f a + d) ∧ GIs C T n s b c0 u0 items K (fun x => if x = a then f a + d else f x) bf t (upd h i (none, ls)) := by
  obtain ⟨u, M, him, g⟩ := g.at i
  have e2 : (h i).2 = (a, d) :: ls := by rw [hi]
  have hmem := g.mem i (a, d) (by rw [e2]; exact List.mem_cons_self ..)
  have k0 : 0 ≤ K := Int.le_trans (smS_nonneg P.c0p) P.sum
  have k5 := P.K5
  have n10 := P.n10
  obtain ⟨o1, o2⟩ := one_ps him e2
  have ub : ∀ q, q < n → u q ≤ 900000 := fun q hq => by
    have h1 := g.pl.few P.gr P.c0p P.sum q hq
    have h2 : K * ((n - 1 : Nat) : Int) ≤ K * 9 := Int.mul_le_mul_of_nonneg_left (by omega) k0
    omega
  have us : smS n u ≤ 9000000 := by
    have h1 := smS_le (f := u) (g := fun _ => 900000 * 1) (n := n) fun k hk => by have := ub k hk; omega
    rw [smS_mul, smS_ones] at h1
    omega
  have us0 : 0 ≤ smS n u0 := smS_nonneg P.u0p
  have nz : ∀ x, (∀ j y, y ∈ (h j).2 → y.1 = x → 0 ≤ y.2) → nnA M h x = 0 := fun x hx => by
    unfold nnA
    rw [smS_congr (g := fun _ => 0) (fun j _ => ngA_none fun y hy e => hx j y hy e), smS_zero]
  have npos : ∀ x, (∀ q, q < n → x ≠ cpL C q) → nnA M h x = 0 := fun x hx => nz x fun j y hy e => by
    rcases g.mem j y hy with ⟨q, h1, h2⟩ | ⟨_, h1⟩
    · exact (hx q h1 (e ▸ h2)).elim
    · exact h1
  have fits : (∃ q, q < n ∧ a = cpL C q) ∨ (∃ q, q < n ∧ a = tpL C q) ∨ a = tgL T → 0 ≤ f a + d ∧ f a + d ≤ 9000000 := by
    rintro (⟨q, hq, rfl⟩ | ⟨q, hq, rfl⟩ | rfl)
    · have c1 := g.cp q hq
      have c2 := g.far P hq
      have c3 := g.ng q hq
      have c4 := g.nb q hq
      have c5 := ps_nonneg M h (cpL C q)
      have c6 := nn_nonneg M h (cpL C q)
      rcases Int.lt_or_le d 0 with hd | hd
      · have := o2 hd; omega
      · have := o1 hd; omega
    · have d0 : 0 ≤ d := by
        rcases hmem with ⟨r, h1, h2⟩ | ⟨_, h1⟩
        · exact (cp_tp (by omega) h2.symm).elim
        · exact h1
      have := o1 d0
      have z := npos (tpL C q) fun r hr e => cp_tp (by omega) e.symm
      have c1 := g.tp q hq
      have c2 := ub q hq
      have c3 := g.f1 q hq
      omega
    · have d0 : 0 ≤ d := by
        rcases hmem with ⟨r, h1, h2⟩ | ⟨_, h1⟩
        · exact (cp_tg h2.symm).elim
        · exact h1
      have := o1 d0
      have z := npos (tgL T) fun r hr e => cp_tg e.symm
      have c1 := g.tg
      have c3 := g.f2
      omega
  have hcl : (∃ q, q < n ∧ a = cpL C q) ∨ (∃ q, q < n ∧ a = tpL C q) ∨ a = tgL T := by
    rcases hmem with h1 | ⟨h1, _⟩
    · exact Or.inl h1
    · exact Or.inr h1
  obtain ⟨fl, fu⟩ := fits hcl
  refine ⟨hcl, ⟨by omega, by omega⟩, ?_⟩
  have pn' : ∀ x, pnA M (upd h i (none, ls)) x = pnA M h x - (if a = x then d else 0) := fun x => by
    rw [pn_upd h _ him, e2]; simp only [pdA]; omega
  have nn' : ∀ x, nnA M (upd h i (none, ls)) x = nnA M h x - (if a = x then (if d < 0 then - d else 0) else 0) := fun x => by
    rw [nn_upd h _ him, e2]; simp only [ngA]; omega
  have sub : ∀ j x, x ∈ (upd h i (none, ls) j).2 → x ∈ (h j).2 := fun j x hx => by
    rw [upd_at] at hx
    split at hx
    · rename_i e; rw [e, e2]; exact List.mem_cons_of_mem _ hx
    · exact hx
  have e1 : ∀ j, (upd h i (none, ls) j).1 = (h j).1 := fun j => by
    rw [upd_at]; split
    · rename_i e; rw [e, hi]
    · rfl
  have un : ∀ q, UnlK bf t (upd h i (none, ls)) q ↔ UnlK bf t h q := fun q => by
    unfold UnlK
    simp only [e1]
  refine ⟨u, M, ⟨fun j hj => by rw [upd_at, if_neg (by omega)]; exact g.hM j hj, g.pl, g.ge, fun q hq => ?_, fun q hq => ?_, ?_, fun q hq => ?_, fun q hq => ?_, fun j x hx => g.mem j x (sub j x hx), fun q hq => ?_, ?_, fun q hq j x hx hxe => g.ul q ((un q).1 hq) j x (sub j x hx) hxe, g.nd, fun q hq => g.it q ((un q).1 hq), fun j q hj => ?_, fun hq => ?_⟩⟩
  · rw [pn']
    have := g.cp q hq
    by_cases e : cpL C q = a
    · rw [if_pos e, if_pos e.symm, ← e]; omega
    · rw [if_neg e, if_neg (Ne.symm e)]; omega
  · rw [pn']
    have := g.tp q hq
    by_cases e : tpL C q = a
    · rw [if_pos e, if_pos e.symm, ← e]; omega
    · rw [if_neg e, if_neg (Ne.symm e)]; omega
  · rw [pn']
    have := g.tg
    by_cases e : tgL T = a
    · rw [if_pos e, if_pos e.symm, ← e]; omega
    · rw [if_neg e, if_neg (Ne.symm e)]; omega
  · rw [nn']
    have := g.ng q hq
    by_cases e : cpL C q = a
    · rw [if_pos e, if_pos e.symm, ← e]; split <;> omega
    · rw [if_neg e, if_neg (Ne.symm e)]; omega
  · rw [nn']
    have := g.nb q hq
    split
    · split <;> omega
    · omega
  · have := g.f1 q hq
    show 0 ≤ (if tpL C q = a then f a + d else f (tpL C q))
    split <;> omega
  · have := g.f2
    show 0 ≤ (if tgL T = a then f a + d else f (tgL T))
    split <;> omega
  · rw [e1] at hj
    obtain ⟨h1, h2⟩ := g.hu j q hj
    exact ⟨h1, fun k hk => h2 k (by rw [e1] at hk; exact hk)⟩
  · obtain ⟨s1, s2⟩ := g.st hq
    exact ⟨fun j x hx => s1 j x (sub j x hx), fun q hqi hqn => s2 q hqi fun hu => hqn ((un q).2 hu)⟩
end
end Go.Proofs.YtpajdmhgonmgoaaDoor

namespace Go.Proofs.YtpajdmhgonmgoaaDoor
open Go.RowKit
set_option linter.unusedVariables false
open Go.Conc Go.ConcN
set_option linter.unusedSimpArgs false
section
variable {C T n s : Nat} {b : Nat → Nat → Int} {c0 u0 : Nat → Int} {items : List Nat} {K : Int} {f : Addr → Int}
theorem pn_empty (x : Addr) (M : Nat) : pnA M (fun _ => (none, [])) x = 0 := smS_zero M
theorem nn_empty (x : Addr) (M : Nat) : nnA M (fun _ => (none, [])) x = 0 := smS_zero M
theorem gi_start (P : Pile n s b c0 u0 items K) (pl : PlS n s b c0 u0) (nd : items.Nodup) (hall : ∀ p, p < n → p ≠ s → p ∈ items) (h1 : ∀ q, q < n → f (cpL C q) = chS n s b c0 u0 q) (h2 : ∀ q, q < n → f (tpL C q) = u0 q) (h3 : f (tgL T) = 0) : GIs C T n s b c0 u0 items K f [] items (fun _ => (none, [])) := by
  have k0 : 0 ≤ K := Int.le_trans (smS_nonneg P.c0p) P.sum
  refine ⟨u0, 0, ⟨fun _ _ => rfl, pl, fun _ _ => Int.le_refl _, fun q hq => ?_, fun q hq => ?_, ?_, fun q hq => ?_, fun q hq => ?_, fun _ x hx => by simp at hx, fun q hq => by rw [h2 q hq]; exact P.u0p q hq, by rw [h3]; exact Int.le_refl _, fun _ _ _ x hx => by simp at hx, by simpa using nd, fun p hp => ?_, fun i p hp => by simp at hp, fun _ => ⟨fun _ x hx => by simp at hx, fun p hp hn => ?_⟩⟩⟩
  · rw [pn_empty, h1 q hq]; omega
  · rw [pn_empty, h2 q hq]; omega
  · rw [pn_empty, h3]; omega
  · rw [nn_empty, h1 q hq]
    unfold chS
    split
    · exact Int.le_refl _
    · rename_i hs; have := pl.has q hq hs; omega
  · rw [nn_empty]; exact k0
  · rcases hp with hp | ⟨i, hp⟩
    · simpa using hp
    · simp at hp
  · exact (hn (Or.inl (by simpa using hp))).elim
theorem same_of_sum {n : Nat} {u u0 : Nat → Int} (h : ∀ q, q < n → u0 q ≤ u q) (e : smS n u = smS n u0) (q : Nat) (hq : q < n) : u q = u0 q := by
  have h1 := smS_one (f := fun q => u q - u0 q) (n := n) (fun j hj => by have := h j hj; omega) hq
  rw [smS_sub] at h1
  have := h q hq
  omega
theorem gi_end (hall : ∀ p, p < n → p ≠ s → p ∈ items) (g : GIs C T n s b c0 u0 items K f [] [] (fun _ => (none, []))) : ∃ u, PlS n s b c0 u ∧ (∀ q, q < n → u0 q ≤ u q) ∧ (∀ q, q < n → f (cpL C q) = chS n s b c0 u q) ∧ (∀ q, q < n → f (tpL C q) = u q) ∧ f (tgL T) = smS n u - smS n u0 ∧ (f (tgL T) = 0 → stillS n s b c0 u) := by
  obtain ⟨u, M, g⟩ := g
  refine ⟨u, g.pl, g.ge, fun q hq => ?_, fun q hq => ?_, ?_, fun hz => ?_⟩
  · have := g.cp q hq; rw [pn_empty] at this; omega
  · have := g.tp q hq; rw [pn_empty] at this; omega
  · have := g.tg; rw [pn_empty] at this; omega
  · have h1 := g.tg
    rw [pn_empty, hz] at h1
    obtain ⟨_, s2⟩ := g.st (same_of_sum g.ge (by omega))
    intro p hp ps
    have := s2 p (hall p hp ps) (fun hu => by
      rcases hu with h | ⟨i, h⟩
      · simp at h
      · simp at h)
    unfold chS at this
    rw [if_neg ps] at this
    exact this
end
end Go.Proofs.YtpajdmhgonmgoaaDoor

namespace Go.Proofs.YtpajdmhgonmgoaaDoor
open Go.RowKit
set_option linter.unusedVariables false
open Go.Conc Go.RowKit
set_option linter.unusedSimpArgs false
/-- A walk that knows of the world F alone, whatever the others do: it turns nothing and lists what E lets by; to a stop within n steps. -/
def Gw (P : Program) (main : Bool) (F : World → Prop) (E : Event → Prop) (S : Goroutine → World → Prop) (n : Nat) (g : Goroutine) : Prop :=
  ∀ w, Goes P main (fun _ w => F w) (fun w w' es => (∃ d, w' = w.at d) ∧ ∀ e ∈ es, E e) S n g w
section
variable {P : Program} {main : Bool} {F : World → Prop} {E : Event → Prop} {S : Goroutine → World → Prop} {n : Nat} {b : Frame} {a : Act} {k : List Item} {cs : List Frame}
theorem Gw.mono {m : Nat} {g : Goroutine} (h : Gw P main F E S n g) (hm : n ≤ m) : Gw P main F E S m g := fun w => (h w).mono hm
theorem Gw.stop {g : Goroutine} (h : ∀ w, F w → S g w) : Gw P main F E S n g := fun w => Goes.stop fun w₁ h₁ => h w₁ h₁
theorem gw_step {g g' : Goroutine} (hs : g.status = .running) (h : ∀ w, F w → ∃ d es, stepG P main g w = .go g' (w.at d) es ∧ ∀ e ∈ es, E e) (hn : Gw P main F E S n g') : Gw P main F E S (n + 1) g := fun w => Goes.step hs fun w₁ h₁ => by
  obtain ⟨d, es, h1, h2⟩ := h w₁ h₁
  rw [h1]
  exact ⟨⟨⟨d, rfl⟩, h2⟩, hn _⟩
theorem gw_ctl {g g' : Goroutine} (hs : g.status = .running) (h : ∀ w, stepG P main g w = .go g' w #[]) (hn : Gw P main F E S n g') : Gw P main F E S (n + 1) g := gw_step hs (fun w _ => ⟨w.drawn, #[], h w, fun e he => by simp at he⟩) hn
theorem gw_skip (h : Gw P main F E S n (G (b.at a k) cs)) : Gw P main F E S (n + 1) (G (b.at a (.code .skip :: k)) cs) := gw_ctl rfl (fun w => stepG_skip) h
theorem gw_inBlock {id : Nat} (h : Gw P main F E S n (G (b.at a k) cs)) : Gw P main F E S (n + 1) (G (b.at a (.inBlock id :: k)) cs) := gw_ctl rfl (fun w => stepG_inBlock) h
theorem gw_seq {x y : Code} (h : Gw P main F E S n (G (b.at a (.code x :: .code y :: k)) cs)) : Gw P main F E S (n + 1) (G (b.at a (.code (.seq x y) :: k)) cs) := gw_ctl rfl (fun w => stepG_seq) h
theorem gw_cond {c : Operand} {x y : Code} (t : Bool) (hc : a.eval c = .bool t) (h : Gw P main F E S n (G (b.at a (.code (if t then x else y) :: k)) cs)) : Gw P main F E S (n + 1) (G (b.at a (.code (.cond c x y) :: k)) cs) := gw_ctl rfl (fun w => stepG_cond hc) h
theorem gw_block {id : Nat} {c : Code} (h : Gw P main F E S n (G (b.at a (.code c :: .inBlock id :: k)) cs)) : Gw P main F E S (n + 1) (G (b.at a (.code (.block id c) :: k)) cs) := gw_ctl rfl (fun w => stepG_block) h
theorem gw_loop {c : Code} (h : Gw P main F E S n (G (b.at a (.code c :: .inLoop c :: k)) cs)) : Gw P main F E S (n + 1) (G (b.at a (.code (.loop c) :: k)) cs) := gw_ctl rfl (fun w => stepG_loop) h
theorem gw_inLoop {c : Code} (h : Gw P main F E S n (G (b.at a (.code c :: .inLoop c :: k)) cs)) : Gw P main F E S (n + 1) (G (b.at a (.inLoop c :: k)) cs) := gw_ctl rfl (fun w => stepG_inLoop) h
theorem gw_exit {id : Nat} {k' : List Item} (hk : exitTo id k = some k') (h : Gw P main F E S n (G (b.at a k') cs)) : Gw P main F E S (n + 1) (G (b.at a (.code (.exit id) :: k)) cs) := gw_ctl rfl (fun w => stepG_exit hk) h
theorem gw_region {id : Nat} {ops : Array Oper} (h : Gw P main F E S n (G (b.at a (.inRegion ops (List.range ops.size) :: k)) cs)) : Gw P main F E S (n + 1) (G (b.at a (.code (.region id ops false) :: k)) cs) := gw_ctl rfl (fun w => stepG_region) h
theorem gw_done {ops : Array Oper} (h : Gw P main F E S n (G (b.at a k) cs)) : Gw P main F E S (n + 1) (G (b.at a (.inRegion ops [] :: k)) cs) := gw_ctl rfl (fun w => stepG_region_end) h
theorem gw_ret (h : Gw P main F E S n (G { b.at a (.code .ret :: k) with mode := .returning } cs)) : Gw P main F E S (n + 1) (G (b.at a (.code .ret :: k)) cs) := gw_ctl rfl (fun w => stepG_ret') h
theorem gw_end (h : Gw P main F E S n (G { b.at a [] with mode := .returning } cs)) : Gw P main F E S (n + 1) (G (b.at a []) cs) := gw_ctl rfl (fun w => stepG_end) h
theorem gw_unwanted {ops : Array Oper} {i : Nat} {rest : List Nat} {o : Oper} (ho : ops[i]? = some o) (hw : Region.wanted o (yielded ops a.tmps) = false) (h : Gw P main F E S n (G (b.at (a.put o.dst undef) (.inRegion ops rest :: k)) cs)) : Gw P main F E S (n + 1) (G (b.at a (.inRegion ops (i :: rest) :: k)) cs) := gw_ctl rfl (fun w => stepG_unwanted ho hw) h
/-- One operation: what follows stands behind a variable. -/
theorem gw_opk {ops : Array Oper} {i : Nat} {rest : List Nat} {o : Oper} (ho : ops[i]? = some o) (hw : Region.wanted o (yielded ops a.tmps) = true) (hk : b.kind ≠ .early)
    (h : ∀ w, F w → ∀ K : Act → World → Prop, (∀ a', (∀ e ∈ (execOp a.eval o).events P w #[], E e) → Gw P main F E S n (G (b.at a' (.inRegion ops rest :: k)) cs) → K a' w) → uponK o a K ((execOp a.eval o).run P w)) : Gw P main F E S (n + 1) (G (b.at a (.inRegion ops (i :: rest) :: k)) cs) :=
  fun w => Goes.step rfl fun w₁ h₁ => goes_oper_k ho hw hk fun K' hK' => h w₁ h₁ K' fun a' hev hg => hK' a' w₁ ⟨⟨⟨w₁.drawn, rfl⟩, fun e he => hev e (mem_listed he)⟩, hg _⟩
theorem gw_call {ops : Array Oper} {i : Nat} {rest : List Nat} {o : Oper} {f : FuncId} {fn : Func} {c : Code} {args : Array Operand} {ats : Array TypeId} (ho : ops[i]? = some o) (hw : Region.wanted o (yielded ops a.tmps) = true) (hk : b.kind ≠ .early) (hop : o.op = .call { callee := .value (.func f), args, argTypes := ats })
    (hf : P.funcs[f]? = some fn) (hname : (fn.name == "runtime.NumGoroutine") = false) (hb : fn.body = some c)
    (h : Gw P main F E S n (G ((base f).at { tmps := args.map a.eval ++ Array.replicate (fn.ntmps - (args.map a.eval).size) undef, defers := [] } [.code c]) (b.at a (.inRegion ops (i :: rest) :: k) :: cs))) : Gw P main F E S (n + 1) (G (b.at a (.inRegion ops (i :: rest) :: k)) cs) :=
  fun w => Goes.step rfl fun w₁ h₁ => goes_call ho hw hk hop hf hname hb ⟨⟨⟨w₁.drawn, rfl⟩, fun e he => by simp at he⟩, h _⟩
theorem gw_leave1 {b₀ : Frame} {a₀ : Act} {ops : Array Oper} {i : Nat} {rest : List Nat} {fn : Func} {t : Tmp} {todo : List Item} (hn : b.kind = .normal) (hd : a.defers = []) (hf : P.funcs[b.fn]? = some fn) (hr : fn.results = #[.tmp t])
    (h : Gw P main F E S n (G (b₀.at (a₀.put ((ops[i]?).bind (·.dst)) (a.tmps.getD t undef)) (.inRegion ops rest :: k)) cs)) : Gw P main F E S (n + 1) (G { b.at a todo with mode := .returning } (b₀.at a₀ (.inRegion ops (i :: rest) :: k) :: cs)) :=
  fun w => Goes.step rfl fun w₁ h₁ => goes_leave1 hn hd hf hr ⟨⟨⟨w₁.drawn, rfl⟩, fun e he => by simp at he⟩, h _⟩
theorem gw_leave0 {b₀ : Frame} {a₀ : Act} {ops : Array Oper} {i : Nat} {rest : List Nat} {fn : Func} {todo : List Item} (hn : b.kind = .normal) (hd : a.defers = []) (hf : P.funcs[b.fn]? = some fn) (hr : fn.results = #[])
    (h : Gw P main F E S n (G (b₀.at (a₀.put ((ops[i]?).bind (·.dst)) (.tuple #[])) (.inRegion ops rest :: k)) cs)) : Gw P main F E S (n + 1) (G { b.at a todo with mode := .returning } (b₀.at a₀ (.inRegion ops (i :: rest) :: k) :: cs)) :=
  fun w => Goes.step rfl fun w₁ h₁ => goes_leave0 hn hd hf hr ⟨⟨⟨w₁.drawn, rfl⟩, fun e he => by simp at he⟩, h _⟩
end
end Go.Proofs.YtpajdmhgonmgoaaDoor

namespace Go.Proofs.YtpajdmhgonmgoaaDoor
open Go.RowKit
set_option linter.unusedVariables false
/-- Values put into slots or nowhere, one behind another. -/
def putsO (a : Act) : List (Option Nat × Value) → Act
  | [] => a
  | p :: r => putsO (a.put p.1 p.2) r
theorem putsO_defers : ∀ (l : List (Option Nat × Value)) (a : Act), (putsO a l).defers = a.defers
  | [], _ => rfl
  | p :: r, a => by rw [putsO, putsO_defers r, put_defersE]
theorem put_farO (a : Act) (o : Option Nat) (v : Value) (t : Nat) (h : o ≠ some t) : (a.put o v).tmps[t]? = a.tmps[t]? := by
  cases o with
  | none => rfl
  | some k =>
    unfold Act.put
    dsimp only
    rw [Array.getElem?_setIfInBounds, if_neg (fun e => h (by rw [e]))]
theorem putsO_far : ∀ (l : List (Option Nat × Value)) (a : Act) (t : Nat), (∀ p ∈ l, p.1 ≠ some t) → (putsO a l).tmps[t]? = a.tmps[t]?
  | [], _, _, _ => rfl
  | p :: r, a, t, hn => by
    rw [putsO, putsO_far r _ t (fun q hq => hn q (List.mem_cons_of_mem _ hq)), put_farO _ _ _ _ (hn p (List.mem_cons_self ..))]
theorem putsO_at : ∀ (l : List (Option Nat × Value)) (a : Act) (i t : Nat) (v : Value), t < a.tmps.size → l[i]? = some (some t, v) → (∀ j p, l[j]? = some p → p.1 = some t → j = i) → (putsO a l).tmps[t]? = some v
  | [], _, _, _, _, _, h, _ => by simp at h
  | q :: r, a, 0, t, v, hs, h, hu => by
    simp at h
    subst h
    rw [putsO, putsO_far r _ _ (fun p hp e => by
      obtain ⟨j, hj, rfl⟩ := List.getElem_of_mem hp
      have := hu (j + 1) _ (by rw [List.getElem?_cons_succ, List.getElem?_eq_getElem hj]) e
      omega)]
    show (a.put (some t) v).tmps[t]? = some v
    rw [put_getE _ _ _ _ hs, if_pos rfl]
  | q :: r, a, i + 1, t, v, hs, h, hu => by
    rw [putsO]
    refine putsO_at r _ i t v (by rw [put_sizeE]; exact hs) (by simpa using h) (fun j p hj e => ?_)
    have := hu (j + 1) p (by simpa using hj) e
    omega
theorem act_putsO {a a0 : Act} {dl : List (Option Nat)} {vals : Nat → Value} (hs : a.tmps.size = a0.tmps.size) (hd : a.defers = a0.defers) (hz : ∀ t, some t ∈ dl → t < a0.tmps.size)
    (nd : ∀ (i j t : Nat), dl[i]? = some (some t) → dl[j]? = some (some t) → j = i) (hk : ∀ t : Nat, some t ∉ dl → a.tmps[t]? = a0.tmps[t]?) (hv : ∀ i t : Nat, dl[i]? = some (some t) → a.tmps[t]? = some (vals i)) :
    a = putsO a0 ((List.range dl.length).map fun i => (dl.getD i none, vals i)) := by
  obtain ⟨l, hl⟩ : ∃ l, ((List.range dl.length).map fun i => (dl.getD i none, vals i)) = l := ⟨_, rfl⟩
  have lg : ∀ i, l[i]? = (dl[i]?).map fun o => (o, vals i) := fun i => by
    rw [← hl, List.getElem?_map]
    by_cases h : i < dl.length
    · rw [List.getElem?_range h, List.getElem?_eq_getElem h]
      simp [List.getD, h]
    · rw [List.getElem?_eq_none (by simp; omega), List.getElem?_eq_none (by omega)]
      rfl
  rw [hl]
  have e : a.tmps = (putsO a0 l).tmps := Array.ext_getElem? fun t => by
    by_cases c : some t ∈ dl
    · obtain ⟨i, hi, hit⟩ := List.getElem_of_mem c
      have g : dl[i]? = some (some t) := by rw [List.getElem?_eq_getElem hi, hit]
      rw [hv i t g]
      refine (putsO_at l a0 i t _ (hz t c) (by rw [lg, g]; rfl) (fun j p hj he => ?_)).symm
      rw [lg] at hj
      cases q : dl[j]? with
      | none => rw [q] at hj; cases hj
      | some o =>
        rw [q] at hj
        simp at hj
        subst hj
        simp at he
        subst he
        exact nd i j t g q
    · rw [hk t c, putsO_far l a0 t (fun p hp e => c (by
        obtain ⟨j, hj, rfl⟩ := List.getElem_of_mem hp
        have h2 := lg j
        rw [List.getElem?_eq_getElem hj] at h2
        cases q : dl[j]? with
        | none => rw [q] at h2; cases h2
        | some o =>
          rw [q] at h2
          simp at h2
          rw [h2] at e
          simp at e
          subst e
          exact List.mem_of_getElem? q))]
  have f := putsO_defers l a0
  cases a
  cases hp : putsO a0 l
  rw [hp] at e f
  simp at e f hd
  subst e
  rw [hd, f]
end Go.Proofs.YtpajdmhgonmgoaaDoor

