/-
  What the last text of this claim leans on, part 10: Kp3, Kp4, Kb2, Spec, Rd, Rb, Rn, Ref1, Rk, Fill, Ref2, Ow.
-/
import Derived.Test.YtpajdmhgonmgoaaDoorYt9
import Derived.Test.YtpajdmhgonmgoaaDoorProg
import Derived.Conc.CompanyDraw
import Derived.Conc.WalkWords
import Derived.WalkKit
import Derived.WalkSpells
import Derived.WalkLawsBesides
import Derived.Deep.QuietTactic
import Derived.BigQuiet
import Derived.Laws.BitsAllLaws
import Derived.Deep.OwnRows
import Derived.Deep.AppendLies
import Derived.Deep.RegionHeld3
import Derived.Deep.RegionLaw
import Derived.Deep.RegionWith
import Derived.Laws.IdiomStrings
import Derived.Laws.MakeOwn
import Derived.Lib.BufferWrite
import Derived.Lib.Hide
import Derived.Lib.Walk
import Derived.WalkSmall
namespace Go.Proofs.YtpajdmhgonmgoaaDoor
open Go.RowKit
set_option linter.unusedVariables false
open Go.Conc Go.ConcN
set_option linter.unusedSimpArgs false
/-- What is asked of the pile. -/
structure Pile (n s : Nat) (b : Nat → Nat → Int) (c0 u0 : Nat → Int) (items : List Nat) (K : Int) : Prop where
  gr : GrS n s b
  n10 : n ≤ 10
  c0p : ∀ k, k < n → 0 ≤ c0 k
  sum : smS n c0 ≤ K
  K5 : K ≤ 100000
  it : ∀ p ∈ items, p < n ∧ p ≠ s
  deg : ∀ p, p < n → p ≠ s → 1 ≤ smS n (b p)
  u0p : ∀ k, k < n → 0 ≤ u0 k
theorem smS_up (u : Nat → Int) (k : Nat) (t : Int) (n : Nat) (hk : k < n) : smS n (upS u k t) = smS n u + t := by
  have e : smS n (upS u k t) = smS n (fun j => u j + (if j = k then t else 0)) := smS_congr fun j _ => by unfold upS; split <;> omega
  rw [e, smS_add, smS_at, if_pos hk]
section
variable {C T n s : Nat} {b : Nat → Nat → Int} {c0 u0 : Nat → Int} {items : List Nat} {K : Int} {u : Nat → Int} {M : Nat} {f : Addr → Int} {bf t : List Nat} {h : Nat → Hd}
theorem ps_nonneg (M : Nat) (h : Nat → Hd) (x : Addr) : 0 ≤ pnA M h x + nnA M h x := by
  unfold pnA nnA
  rw [← smS_add]
  exact smS_nonneg fun i _ => psA_nonneg _ _
theorem nn_nonneg (M : Nat) (h : Nat → Hd) (x : Addr) : 0 ≤ nnA M h x := smS_nonneg fun i _ => ngA_nonneg _ _
theorem GIb.far (P : Pile n s b c0 u0 items K) (g : GIb C T n s b c0 u0 items K u M f bf t h) {q : Nat} (hq : q < n) : chS n s b c0 u q ≤ K := g.pl.sum P.gr P.c0p P.sum q hq
theorem GIb.found (P : Pile n s b c0 u0 items K) (g : GIb C T n s b c0 u0 items K u M f bf t h) {p i : Nat} (hi : h i = (some p, [])) : p < n ∧ p ≠ s ∧ p ∈ items ∧ nnA M h (cpL C p) = 0 ∧ 0 ≤ f (cpL C p) ∧ f (cpL C p) ≤ chS n s b c0 u p ∧ f (cpL C p) ≤ K := by
  have un : UnlK bf t h p := Or.inr ⟨i, by rw [hi]⟩
  have hm := g.it p un
  obtain ⟨hp, ps⟩ := P.it p hm
  have z : nnA M h (cpL C p) = 0 := by
    unfold nnA
    rw [smS_congr (g := fun _ => 0) (fun j _ => ngA_none fun x hx e => g.ul p un j x hx e), smS_zero]
  have h1 := g.ng p hp
  have h2 := ps_nonneg M h (cpL C p)
  have h3 := g.cp p hp
  have h4 := g.far P hp
  rw [z] at h1 h2
  exact ⟨hp, ps, hm, z, h1, by omega, by omega⟩
theorem div_facts {v d : Int} (hv : 0 ≤ v) (hd : 1 ≤ d) : 0 ≤ v.tdiv d ∧ v.tdiv d * d ≤ v ∧ v < v.tdiv d * d + d := by
  rw [Int.tdiv_eq_ediv_of_nonneg hv]
  refine ⟨Int.ediv_nonneg hv (by omega), Int.ediv_mul_le _ (by omega), ?_⟩
  have := Int.lt_ediv_add_one_mul_self v (show 0 < d by omega)
  rw [Int.add_mul] at this; omega
theorem gi_load (P : Pile n s b c0 u0 items K) {p : Nat} (i : Nat) (g : GIs C T n s b c0 u0 items K f bf t h) (hi : h i = (some p, [])) :
    (p < n ∧ p ≠ s ∧ 0 ≤ f (cpL C p) ∧ f (cpL C p) ≤ K) ∧ GIs C T n s b c0 u0 items K f bf t (upd h i (none, plS C T n s b p (f (cpL C p)))) := by
  obtain ⟨u, M, him, g⟩ := g.at i
  obtain ⟨hp, ps, hm, z, v0, vc, vK⟩ := g.found P hi
  refine ⟨⟨hp, ps, v0, vK⟩, ?_⟩
  have dg := P.deg p hp ps
  obtain ⟨t0, tl, tu⟩ := div_facts v0 dg
  have ec : chS n s b c0 u p = c0 p - lapS n b u p := by unfold chS; rw [if_neg ps]
  obtain ⟨tn, htn⟩ : ∃ tn : Nat, (tn : Int) = (f (cpL C p)).tdiv (smS n (b p)) := ⟨((f (cpL C p)).tdiv (smS n (b p))).toNat, Int.toNat_of_nonneg t0⟩
  have pl' : PlS n s b c0 (upS u p ((f (cpL C p)).tdiv (smS n (b p)))) := by
    rw [← htn]
    exact g.pl.times P.gr hp ps tn (by rw [htn]; omega)
  have e2 : (h i).2 = [] := by rw [hi]
  have un : ∀ q, UnlK bf t (upd h i (none, plS C T n s b p (f (cpL C p)))) q → UnlK bf t h q ∧ q ≠ p := by
    rintro q (h1 | ⟨j, h1⟩)
    · exact ⟨Or.inl h1, fun e => (g.hu i p (by rw [hi])).1 (e ▸ h1)⟩
    · rw [upd_at] at h1
      split at h1
      · cases h1
      · rename_i hji
        exact ⟨Or.inr ⟨j, h1⟩, fun e => hji ((g.hu i p (by rw [hi])).2 j (e ▸ h1))⟩
  refine ⟨_, M, ⟨fun j hj => by rw [upd_at, if_neg (by omega)]; exact g.hM j hj, pl', fun q hq => ?_, fun q hq => ?_, fun q hq => ?_, ?_, fun q hq => ?_, fun q hq => ?_, fun j x hx => ?_, g.f1, g.f2, fun q hq j x hx hxe => ?_, g.nd, fun q hq => g.it q (un q hq).1, fun j q hj => ?_, fun hq => ?_⟩⟩
  · have := g.ge q hq
    unfold upS; split <;> omega
  · rw [pn_upd h _ him, e2, pl_cp P.gr P.n10 hp hq, ch_up P.gr c0 u _ hp ps q hq]
    have h1 := g.cp q hq
    show f (cpL C q) + (pnA M h (cpL C q) - 0 + _) = _
    by_cases es : q = s
    · subst es
      rw [if_pos rfl]
      have : chS n q b c0 u q = 0 := by unfold chS; rw [if_pos rfl]
      rw [if_neg (fun e => ps e.symm)]
      have gz : gvS n q b p q = 0 := by unfold gvS; rw [if_neg (fun h => h.2 rfl)]
      rw [gz]; omega
    · rw [if_neg es]
      by_cases ep : q = p
      · rw [if_pos ep, if_pos ep]; omega
      · rw [if_neg ep, if_neg ep]
        have : gvS n s b p q = b p q := by unfold gvS; rw [if_pos ⟨hq, es⟩]
        rw [this]; omega
  · rw [pn_upd h _ him, e2, pl_tp (by have := P.n10; omega)]
    have h1 := g.tp q hq
    show f (tpL C q) + (pnA M h (tpL C q) - 0 + _) = _
    unfold upS; split <;> omega
  · rw [pn_upd h _ him, e2, pl_tg, smS_up _ _ _ _ hp]
    have h1 := g.tg
    show f (tgL T) + (pnA M h (tgL T) - 0 + _) = _
    omega
  · rw [nn_upd h _ him, e2, pl_ng P.gr P.n10 hp v0 hq]
    have h1 := g.ng q hq
    show nnA M h (cpL C q) - 0 + _ ≤ _
    split
    · rename_i e; subst e; rw [z]; omega
    · omega
  · rw [nn_upd h _ him, e2, pl_ng P.gr P.n10 hp v0 hq]
    have h1 := g.nb q hq
    show nnA M h (cpL C q) - 0 + _ ≤ _
    split
    · rename_i e; subst e; rw [z]; omega
    · omega
  · rw [upd_at] at hx
    split at hx
    · rcases pl_mem P.gr hp v0 hx with ⟨q, h1, h2, _⟩ | h1
      · exact Or.inl ⟨q, h1, h2⟩
      · exact Or.inr h1
    · exact g.mem j x hx
  · obtain ⟨h1, h2⟩ := un q hq
    rw [upd_at] at hx
    split at hx
    · rcases pl_mem P.gr hp v0 hx with ⟨r, _, h3, h4⟩ | ⟨_, h3⟩
      · rw [hxe] at h3
        exact h4 (fun e => h2 ((cpL_inj h3).trans e))
      · exact h3
    · exact g.ul q h1 j x hx hxe
  · rw [upd_at] at hj
    split at hj
    · cases hj
    · obtain ⟨h1, h2⟩ := g.hu j q hj
      refine ⟨h1, fun k hk => ?_⟩
      rw [upd_at] at hk
      split at hk
      · cases hk
      · exact h2 k hk
  · have hp2 := hq p hp
    have hp3 := g.ge p hp
    unfold upS at hp2
    rw [if_pos rfl] at hp2
    have tz : (f (cpL C p)).tdiv (smS n (b p)) = 0 := by omega
    have uu : upS u p ((f (cpL C p)).tdiv (smS n (b p))) = u := by rw [tz, upS_zero]
    rw [uu] at hq ⊢
    obtain ⟨s1, s2⟩ := g.st hq
    refine ⟨fun j x hx => ?_, fun q hqi hqn => ?_⟩
    · rw [upd_at] at hx
      split at hx
      · unfold plS at hx
        rw [if_pos tz] at hx
        obtain rfl := List.mem_singleton.1 hx
        rfl
      · exact s1 j x hx
    · by_cases e : q = p
      · subst e
        have h1 := g.cp q hp
        have h2 : pnA M h (cpL C q) = 0 := by
          unfold pnA
          rw [smS_congr (g := fun _ => 0) (fun j _ => pdA_zero fun x hx => s1 j x hx), smS_zero]
        rw [tz] at tu
        omega
      · refine s2 q hqi fun hu => hqn ?_
        rcases hu with h1 | ⟨j, h1⟩
        · exact Or.inl h1
        · refine Or.inr ⟨j, ?_⟩
          rw [upd_at, if_neg (fun e2 => by rw [e2, hi] at h1; injection h1 with h1; exact e h1.symm)]
          exact h1
theorem one_ps {i : Nat} (hi : i < M) {a : Addr} {d : Int} {ls : List (Addr × Int)} (e : (h i).2 = (a, d) :: ls) : (0 ≤ d → d ≤ pnA M h a + nnA M h a) ∧ (d < 0 → - d ≤ nnA M h a) := by
  have h1 := smS_one (f := fun j => pdA (h j).2 a + ngA (h j).2 a) (n := M) (fun j _ => psA_nonneg _ _) hi
  have h2 := smS_one (f := fun j => ngA (h j).2 a) (n := M) (fun j _ => ngA_nonneg _ _) hi
  rw [smS_add] at h1
  rw [e] at h1 h2
  have h3 := psA_nonneg ls a
  have h4 := ngA_nonneg ls a
  simp only [pdA, ngA, if_true] at h1 h2
  refine ⟨fun h0 => ?_, fun h0 => ?_⟩
  · rw [if_neg (by omega)] at h1
    unfold pnA nnA; omega
  · rw [if_pos h0] at h2
    unfold nnA; omega
theorem gi_add (P : Pile n s b c0 u0 items K) {a : Addr} {d : Int} {ls : List (Addr × Int)} (i : Nat) (g : GIs C T n s b c0 u0 items K f bf t h) (hi : h i = (none, (a, d) :: ls)) :
    ((∃ q, q < n ∧ a = cpL C q) ∨ (∃ q, q < n ∧ a = tpL C q) ∨ a = tgL T) ∧ Fits (f a + d) ∧ GIs C T n s b c0 u0 items K (fun x => if x = a then f a + d else f x) bf t (upd h i (none, ls)) := by
  obtain ⟨u, M, him, g⟩ := g.at i
  have e2 : (h i).2 = (a, d) :: ls := by rw [hi]
  have hmem := g.mem i (a, d) (by rw [e2]; exact List.mem_cons_self ..)
  have k0 : 0 ≤ K := Int.le_trans (smS_nonneg P.c0p) P.sum
  have k5 := P.K5
  have n10 := P.n10
  obtain ⟨o1, o2⟩ := one_ps him e2
  have ub : ∀ q, q < n → u q ≤ 900000 := fun q hq => by
    have h1 := g.pl.few P.gr P.c0p P.sum q hq
    have h2 : K * ((n - 1 : Nat) : Int) ≤ K * 9 := Int.mul_le_mul_of_nonneg_left (by omega) k0
    omega
  have us : smS n u ≤ 9000000 := by
    have h1 := smS_le (f := u) (g := fun _ => 900000 * 1) (n := n) fun k hk => by have := ub k hk; omega
    rw [smS_mul, smS_ones] at h1
    omega
  have us0 : 0 ≤ smS n u0 := smS_nonneg P.u0p
  have nz : ∀ x, (∀ j y, y ∈ (h j).2 → y.1 = x → 0 ≤ y.2) → nnA M h x = 0 := fun x hx => by
    unfold nnA
    rw [smS_congr (g := fun _ => 0) (fun j _ => ngA_none fun y hy e => hx j y hy e), smS_zero]
  have npos : ∀ x, (∀ q, q < n → x ≠ cpL C q) → nnA M h x = 0 := fun x hx => nz x fun j y hy e => by
    rcases g.mem j y hy with ⟨q, h1, h2⟩ | ⟨_, h1⟩
    · exact (hx q h1 (e ▸ h2)).elim
    · exact h1
  have fits : (∃ q, q < n ∧ a = cpL C q) ∨ (∃ q, q < n ∧ a = tpL C q) ∨ a = tgL T → 0 ≤ f a + d ∧ f a + d ≤ 9000000 := by
    rintro (⟨q, hq, rfl⟩ | ⟨q, hq, rfl⟩ | rfl)
    · have c1 := g.cp q hq
      have c2 := g.far P hq
      have c3 := g.ng q hq
      have c4 := g.nb q hq
      have c5 := ps_nonneg M h (cpL C q)
      have c6 := nn_nonneg M h (cpL C q)
      rcases Int.lt_or_le d 0 with hd | hd
      · have := o2 hd; omega
      · have := o1 hd; omega
    · have d0 : 0 ≤ d := by
        rcases hmem with ⟨r, h1, h2⟩ | ⟨_, h1⟩
        · exact (cp_tp (by omega) h2.symm).elim
        · exact h1
      have := o1 d0
      have z := npos (tpL C q) fun r hr e => cp_tp (by omega) e.symm
      have c1 := g.tp q hq
      have c2 := ub q hq
      have c3 := g.f1 q hq
      omega
    · have d0 : 0 ≤ d := by
        rcases hmem with ⟨r, h1, h2⟩ | ⟨_, h1⟩
        · exact (cp_tg h2.symm).elim
        · exact h1
      have := o1 d0
      have z := npos (tgL T) fun r hr e => cp_tg e.symm
      have c1 := g.tg
      have c3 := g.f2
      omega
  have hcl : (∃ q, q < n ∧ a = cpL C q) ∨ (∃ q, q < n ∧ a = tpL C q) ∨ a = tgL T := by
    rcases hmem with h1 | ⟨h1, _⟩
    · exact Or.inl h1
    · exact Or.inr h1
  obtain ⟨fl, fu⟩ := fits hcl
  refine ⟨hcl, ⟨by omega, by omega⟩, ?_⟩
  have pn' : ∀ x, pnA M (upd h i (none, ls)) x = pnA M h x - (if a = x then d else 0) := fun x => by
    rw [pn_upd h _ him, e2]; simp only [pdA]; omega
  have nn' : ∀ x, nnA M (upd h i (none, ls)) x = nnA M h x - (if a = x then (if d < 0 then - d else 0) else 0) := fun x => by
    rw [nn_upd h _ him, e2]; simp only [ngA]; omega
  have sub : ∀ j x, x ∈ (upd h i (none, ls) j).2 → x ∈ (h j).2 := fun j x hx => by
    rw [upd_at] at hx
    split at hx
    · rename_i e; rw [e, e2]; exact List.mem_cons_of_mem _ hx
    · exact hx
  have e1 : ∀ j, (upd h i (none, ls) j).1 = (h j).1 := fun j => by
    rw [upd_at]; split
    · rename_i e; rw [e, hi]
    · rfl
  have un : ∀ q, UnlK bf t (upd h i (none, ls)) q ↔ UnlK bf t h q := fun q => by
    unfold UnlK
    simp only [e1]
  refine ⟨u, M, ⟨fun j hj => by rw [upd_at, if_neg (by omega)]; exact g.hM j hj, g.pl, g.ge, fun q hq => ?_, fun q hq => ?_, ?_, fun q hq => ?_, fun q hq => ?_, fun j x hx => g.mem j x (sub j x hx), fun q hq => ?_, ?_, fun q hq j x hx hxe => g.ul q ((un q).1 hq) j x (sub j x hx) hxe, g.nd, fun q hq => g.it q ((un q).1 hq), fun j q hj => ?_, fun hq => ?_⟩⟩
  · rw [pn']
    have := g.cp q hq
    by_cases e : cpL C q = a
    · rw [if_pos e, if_pos e.symm, ← e]; omega
    · rw [if_neg e, if_neg (Ne.symm e)]; omega
  · rw [pn']
    have := g.tp q hq
    by_cases e : tpL C q = a
    · rw [if_pos e, if_pos e.symm, ← e]; omega
    · rw [if_neg e, if_neg (Ne.symm e)]; omega
  · rw [pn']
    have := g.tg
    by_cases e : tgL T = a
    · rw [if_pos e, if_pos e.symm, ← e]; omega
    · rw [if_neg e, if_neg (Ne.symm e)]; omega
  · rw [nn']
    have := g.ng q hq
    by_cases e : cpL C q = a
    · rw [if_pos e, if_pos e.symm, ← e]; split <;> omega
    · rw [if_neg e, if_neg (Ne.symm e)]; omega
  · rw [nn']
    have := g.nb q hq
    split
    · split <;> omega
    · omega
  · have := g.f1 q hq
    show 0 ≤ (if tpL C q = a then f a + d else f (tpL C q))
    split <;> omega
  · have := g.f2
    show 0 ≤ (if tgL T = a then f a + d else f (tgL T))
    split <;> omega
  · rw [e1] at hj
    obtain ⟨h1, h2⟩ := g.hu j q hj
    exact ⟨h1, fun k hk => h2 k (by rw [e1] at hk; exact hk)⟩
  · obtain ⟨s1, s2⟩ := g.st hq
    exact ⟨fun j x hx => s1 j x (sub j x hx), fun q hqi hqn => s2 q hqi fun hu => hqn ((un q).2 hu)⟩
end
end Go.Proofs.YtpajdmhgonmgoaaDoor

namespace Go.Proofs.YtpajdmhgonmgoaaDoor
open Go.RowKit
set_option linter.unusedVariables false
open Go.Conc Go.ConcN
set_option linter.unusedSimpArgs false
section
variable {C T n s : Nat} {b : Nat → Nat → Int} {c0 u0 : Nat → Int} {items : List Nat} {K : Int} {f : Addr → Int}
theorem pn_empty (x : Addr) (M : Nat) : pnA M (fun _ => (none, [])) x = 0 := smS_zero M
theorem nn_empty (x : Addr) (M : Nat) : nnA M (fun _ => (none, [])) x = 0 := smS_zero M
theorem gi_start (P : Pile n s b c0 u0 items K) (pl : PlS n s b c0 u0) (nd : items.Nodup) (hall : ∀ p, p < n → p ≠ s → p ∈ items) (h1 : ∀ q, q < n → f (cpL C q) = chS n s b c0 u0 q) (h2 : ∀ q, q < n → f (tpL C q) = u0 q) (h3 : f (tgL T) = 0) : GIs C T n s b c0 u0 items K f [] items (fun _ => (none, [])) := by
  have k0 : 0 ≤ K := Int.le_trans (smS_nonneg P.c0p) P.sum
  refine ⟨u0, 0, ⟨fun _ _ => rfl, pl, fun _ _ => Int.le_refl _, fun q hq => ?_, fun q hq => ?_, ?_, fun q hq => ?_, fun q hq => ?_, fun _ x hx => by simp at hx, fun q hq => by rw [h2 q hq]; exact P.u0p q hq, by rw [h3]; exact Int.le_refl _, fun _ _ _ x hx => by simp at hx, by simpa using nd, fun p hp => ?_, fun i p hp => by simp at hp, fun _ => ⟨fun _ x hx => by simp at hx, fun p hp hn => ?_⟩⟩⟩
  · rw [pn_empty, h1 q hq]; omega
  · rw [pn_empty, h2 q hq]; omega
  · rw [pn_empty, h3]; omega
  · rw [nn_empty, h1 q hq]
    unfold chS
    split
    · exact Int.le_refl _
    · rename_i hs; have := pl.has q hq hs; omega
  · rw [nn_empty]; exact k0
  · rcases hp with hp | ⟨i, hp⟩
    · simpa using hp
    · simp at hp
  · exact (hn (Or.inl (by simpa using hp))).elim
theorem same_of_sum {n : Nat} {u u0 : Nat → Int} (h : ∀ q, q < n → u0 q ≤ u q) (e : smS n u = smS n u0) (q : Nat) (hq : q < n) : u q = u0 q := by
  have h1 := smS_one (f := fun q => u q - u0 q) (n := n) (fun j hj => by have := h j hj; omega) hq
  rw [smS_sub] at h1
  have := h q hq
  omega
theorem gi_end (hall : ∀ p, p < n → p ≠ s → p ∈ items) (g : GIs C T n s b c0 u0 items K f [] [] (fun _ => (none, []))) : ∃ u, PlS n s b c0 u ∧ (∀ q, q < n → u0 q ≤ u q) ∧ (∀ q, q < n → f (cpL C q) = chS n s b c0 u q) ∧ (∀ q, q < n → f (tpL C q) = u q) ∧ f (tgL T) = smS n u - smS n u0 ∧ (f (tgL T) = 0 → stillS n s b c0 u) := by
  obtain ⟨u, M, g⟩ := g
  refine ⟨u, g.pl, g.ge, fun q hq => ?_, fun q hq => ?_, ?_, fun hz => ?_⟩
  · have := g.cp q hq; rw [pn_empty] at this; omega
  · have := g.tp q hq; rw [pn_empty] at this; omega
  · have := g.tg; rw [pn_empty] at this; omega
  · have h1 := g.tg
    rw [pn_empty, hz] at h1
    obtain ⟨_, s2⟩ := g.st (same_of_sum g.ge (by omega))
    intro p hp ps
    have := s2 p (hall p hp ps) (fun hu => by
      rcases hu with h | ⟨i, h⟩
      · simp at h
      · simp at h)
    unfold chS at this
    rw [if_neg ps] at this
    exact this
end
end Go.Proofs.YtpajdmhgonmgoaaDoor

namespace Go.Proofs.YtpajdmhgonmgoaaDoor
open Go.RowKit
set_option linter.unusedVariables false
open Go.Conc Go.RowKit
set_option linter.unusedSimpArgs false
/-- A walk that knows of the world F alone, whatever the others do: it turns nothing and lists what E lets by; to a stop within n steps. -/
def Gw (P : Program) (main : Bool) (F : World → Prop) (E : Event → Prop) (S : Goroutine → World → Prop) (n : Nat) (g : Goroutine) : Prop :=
  ∀ w, Goes P main (fun _ w => F w) (fun w w' es => (∃ d, w' = w.at d) ∧ ∀ e ∈ es, E e) S n g w
section
variable {P : Program} {main : Bool} {F : World → Prop} {E : Event → Prop} {S : Goroutine → World → Prop} {n : Nat} {b : Frame} {a : Act} {k : List Item} {cs : List Frame}
theorem Gw.mono {m : Nat} {g : Goroutine} (h : Gw P main F E S n g) (hm : n ≤ m) : Gw P main F E S m g := fun w => (h w).mono hm
theorem Gw.stop {g : Goroutine} (h : ∀ w, F w → S g w) : Gw P main F E S n g := fun w => Goes.stop fun w₁ h₁ => h w₁ h₁
theorem gw_step {g g' : Goroutine} (hs : g.status = .running) (h : ∀ w, F w → ∃ d es, stepG P main g w = .go g' (w.at d) es ∧ ∀ e ∈ es, E e) (hn : Gw P main F E S n g') : Gw P main F E S (n + 1) g := fun w => Goes.step hs fun w₁ h₁ => by
  obtain ⟨d, es, h1, h2⟩ := h w₁ h₁
  rw [h1]
  exact ⟨⟨⟨d, rfl⟩, h2⟩, hn _⟩
theorem gw_ctl {g g' : Goroutine} (hs : g.status = .running) (h : ∀ w, stepG P main g w = .go g' w #[]) (hn : Gw P main F E S n g') : Gw P main F E S (n + 1) g := gw_step hs (fun w _ => ⟨w.drawn, #[], h w, fun e he => by simp at he⟩) hn
theorem gw_skip (h : Gw P main F E S n (G (b.at a k) cs)) : Gw P main F E S (n + 1) (G (b.at a (.code .skip :: k)) cs) := gw_ctl rfl (fun w => stepG_skip) h
theorem gw_inBlock {id : Nat} (h : Gw P main F E S n (G (b.at a k) cs)) : Gw P main F E S (n + 1) (G (b.at a (.inBlock id :: k)) cs) := gw_ctl rfl (fun w => stepG_inBlock) h
theorem gw_seq {x y : Code} (h : Gw P main F E S n (G (b.at a (.code x :: .code y :: k)) cs)) : Gw P main F E S (n + 1) (G (b.at a (.code (.seq x y) :: k)) cs) := gw_ctl rfl (fun w => stepG_seq) h
theorem gw_cond {c : Operand} {x y : Code} (t : Bool) (hc : a.eval c = .bool t) (h : Gw P main F E S n (G (b.at a (.code (if t then x else y) :: k)) cs)) : Gw P main F E S (n + 1) (G (b.at a (.code (.cond c x y) :: k)) cs) := gw_ctl rfl (fun w => stepG_cond hc) h
theorem gw_block {id : Nat} {c : Code} (h : Gw P main F E S n (G (b.at a (.code c :: .inBlock id :: k)) cs)) : Gw P main F E S (n + 1) (G (b.at a (.code (.block id c) :: k)) cs) := gw_ctl rfl (fun w => stepG_block) h
theorem gw_loop {c : Code} (h : Gw P main F E S n (G (b.at a (.code c :: .inLoop c :: k)) cs)) : Gw P main F E S (n + 1) (G (b.at a (.code (.loop c) :: k)) cs) := gw_ctl rfl (fun w => stepG_loop) h
theorem gw_inLoop {c : Code} (h : Gw P main F E S n (G (b.at a (.code c :: .inLoop c :: k)) cs)) : Gw P main F E S (n + 1) (G (b.at a (.inLoop c :: k)) cs) := gw_ctl rfl (fun w => stepG_inLoop) h
theorem gw_exit {id : Nat} {k' : List Item} (hk : exitTo id k = some k') (h : Gw P main F E S n (G (b.at a k') cs)) : Gw P main F E S (n + 1) (G (b.at a (.code (.exit id) :: k)) cs) := gw_ctl rfl (fun w => stepG_exit hk) h
theorem gw_region {id : Nat} {ops : Array Oper} (h : Gw P main F E S n (G (b.at a (.inRegion ops (List.range ops.size) :: k)) cs)) : Gw P main F E S (n + 1) (G (b.at a (.code (.region id ops false) :: k)) cs) := gw_ctl rfl (fun w => stepG_region) h
theorem gw_done {ops : Array Oper} (h : Gw P main F E S n (G (b.at a k) cs)) : Gw P main F E S (n + 1) (G (b.at a (.inRegion ops [] :: k)) cs) := gw_ctl rfl (fun w => stepG_region_end) h
theorem gw_ret (h : Gw P main F E S n (G { b.at a (.code .ret :: k) with mode := .returning } cs)) : Gw P main F E S (n + 1) (G (b.at a (.code .ret :: k)) cs) := gw_ctl rfl (fun w => stepG_ret') h
theorem gw_end (h : Gw P main F E S n (G { b.at a [] with mode := .returning } cs)) : Gw P main F E S (n + 1) (G (b.at a []) cs) := gw_ctl rfl (fun w => stepG_end) h
theorem gw_unwanted {ops : Array Oper} {i : Nat} {rest : List Nat} {o : Oper} (ho : ops[i]? = some o) (hw : Region.wanted o (yielded ops a.tmps) = false) (h : Gw P main F E S n (G (b.at (a.put o.dst undef) (.inRegion ops rest :: k)) cs)) : Gw P main F E S (n + 1) (G (b.at a (.inRegion ops (i :: rest) :: k)) cs) := gw_ctl rfl (fun w => stepG_unwanted ho hw) h
/-- One operation: what follows stands behind a variable. -/
theorem gw_opk {ops : Array Oper} {i : Nat} {rest : List Nat} {o : Oper} (ho : ops[i]? = some o) (hw : Region.wanted o (yielded ops a.tmps) = true) (hk : b.kind ≠ .early)
    (h : ∀ w, F w → ∀ K : Act → World → Prop, (∀ a', (∀ e ∈ (execOp a.eval o).events P w #[], E e) → Gw P main F E S n (G (b.at a' (.inRegion ops rest :: k)) cs) → K a' w) → uponK o a K ((execOp a.eval o).run P w)) : Gw P main F E S (n + 1) (G (b.at a (.inRegion ops (i :: rest) :: k)) cs) :=
  fun w => Goes.step rfl fun w₁ h₁ => goes_oper_k ho hw hk fun K' hK' => h w₁ h₁ K' fun a' hev hg => hK' a' w₁ ⟨⟨⟨w₁.drawn, rfl⟩, fun e he => hev e (mem_listed he)⟩, hg _⟩
theorem gw_call {ops : Array Oper} {i : Nat} {rest : List Nat} {o : Oper} {f : FuncId} {fn : Func} {c : Code} {args : Array Operand} {ats : Array TypeId} (ho : ops[i]? = some o) (hw : Region.wanted o (yielded ops a.tmps) = true) (hk : b.kind ≠ .early) (hop : o.op = .call { callee := .value (.func f), args, argTypes := ats })
    (hf : P.funcs[f]? = some fn) (hname : (fn.name == "runtime.NumGoroutine") = false) (hb : fn.body = some c)
    (h : Gw P main F E S n (G ((base f).at { tmps := args.map a.eval ++ Array.replicate (fn.ntmps - (args.map a.eval).size) undef, defers := [] } [.code c]) (b.at a (.inRegion ops (i :: rest) :: k) :: cs))) : Gw P main F E S (n + 1) (G (b.at a (.inRegion ops (i :: rest) :: k)) cs) :=
  fun w => Goes.step rfl fun w₁ h₁ => goes_call ho hw hk hop hf hname hb ⟨⟨⟨w₁.drawn, rfl⟩, fun e he => by simp at he⟩, h _⟩
theorem gw_leave1 {b₀ : Frame} {a₀ : Act} {ops : Array Oper} {i : Nat} {rest : List Nat} {fn : Func} {t : Tmp} {todo : List Item} (hn : b.kind = .normal) (hd : a.defers = []) (hf : P.funcs[b.fn]? = some fn) (hr : fn.results = #[.tmp t])
    (h : Gw P main F E S n (G (b₀.at (a₀.put ((ops[i]?).bind (·.dst)) (a.tmps.getD t undef)) (.inRegion ops rest :: k)) cs)) : Gw P main F E S (n + 1) (G { b.at a todo with mode := .returning } (b₀.at a₀ (.inRegion ops (i :: rest) :: k) :: cs)) :=
  fun w => Goes.step rfl fun w₁ h₁ => goes_leave1 hn hd hf hr ⟨⟨⟨w₁.drawn, rfl⟩, fun e he => by simp at he⟩, h _⟩
theorem gw_leave0 {b₀ : Frame} {a₀ : Act} {ops : Array Oper} {i : Nat} {rest : List Nat} {fn : Func} {todo : List Item} (hn : b.kind = .normal) (hd : a.defers = []) (hf : P.funcs[b.fn]? = some fn) (hr : fn.results = #[])
    (h : Gw P main F E S n (G (b₀.at (a₀.put ((ops[i]?).bind (·.dst)) (.tuple #[])) (.inRegion ops rest :: k)) cs)) : Gw P main F E S (n + 1) (G { b.at a todo with mode := .returning } (b₀.at a₀ (.inRegion ops (i :: rest) :: k) :: cs)) :=
  fun w => Goes.step rfl fun w₁ h₁ => goes_leave0 hn hd hf hr ⟨⟨⟨w₁.drawn, rfl⟩, fun e he => by simp at he⟩, h _⟩
end
end Go.Proofs.YtpajdmhgonmgoaaDoor

namespace Go.Proofs.YtpajdmhgonmgoaaDoor

/-- A rule, as plain data. -/
structure Out where
  kind : Int
  born : Int
  stay : Int
  states : Int
  radius : Int
  table : List Int
  turns : ByteArray

def entries (n m : Nat) : Nat := n ^ (2 * m + 1)

end Go.Proofs.YtpajdmhgonmgoaaDoor

namespace Go.Proofs.YtpajdmhgonmgoaaDoor
open Go.RowKit

/-- The reader at block b: its text s, its place i. -/
structure At (b : Nat) (s : ByteArray) (i : Nat) (w : World) : Prop where
  txt : w.cell? ⟨b, 0, none⟩ = some (.string s)
  pos : w.cell? ⟨b, 1, none⟩ = some (.int .i64 (i : Int))
  fz0 : w.frozen? ⟨b, 0, none⟩ = false
  fz1 : w.frozen? ⟨b, 1, none⟩ = false

/-- Of what was there, block b alone may have turned. -/
structure Rd (b : Nat) (w w' : World) : Prop where
  os : w'.os = w.os
  tape : w'.tape = w.tape
  output : w'.output = w.output
  size : w.heap.size ≤ w'.heap.size
  block : ∀ k, k < w.heap.size → k ≠ b → w'.heap[k]? = w.heap[k]?

theorem Rd.refl (b : Nat) (w : World) : Rd b w w := ⟨rfl, rfl, rfl, Nat.le_refl _, fun _ _ _ => rfl⟩
theorem Rd.trans {b : Nat} {a c d : World} (h : Rd b a c) (k : Rd b c d) : Rd b a d :=
  ⟨k.os.trans h.os, k.tape.trans h.tape, k.output.trans h.output, Nat.le_trans h.size k.size, fun i hi hb => (k.block i (Nat.lt_of_lt_of_le hi h.size) hb).trans (h.block i hi hb)⟩
theorem Rd.drewN {b : Nat} {a w : World} (h : Rd b a w) (n : Nat) : Rd b a (w.drewN n) := h.trans ⟨rfl, rfl, rfl, Nat.le_refl _, fun _ _ _ => rfl⟩
theorem Rd.drew {b : Nat} {a w : World} (h : Rd b a w) : Rd b a w.drew := h.trans ⟨rfl, rfl, rfl, Nat.le_refl _, fun _ _ _ => rfl⟩
theorem Rd.alloc {b : Nat} {a w : World} (h : Rd b a w) (o : Obj) : Rd b a (w.alloc o) :=
  h.trans ⟨rfl, rfl, rfl, by simp, fun k hk _ => Below.heap_alloc _ _ _ hk⟩
/-- A store into the reader. -/
theorem Rd.set {b : Nat} {a w : World} (h : Rd b a w) (o : Nat) (u : Value) : Rd b a (w.setCell ⟨b, o, none⟩ u) :=
  h.trans ⟨rfl, rfl, rfl, by simp [World.setCell], fun k _ hk => Below.heap_setCell _ _ _ _ hk⟩
theorem Rd.below {b B : Nat} {w w' : World} (h : Rd b w w') (hB : B ≤ b) (hs : B ≤ w.heap.size) : Below B w w' :=
  ⟨h.os, h.tape, h.output, h.size, fun k hk => h.block k (by omega) (by omega)⟩
theorem Rd.cell {b : Nat} {w w' : World} (h : Rd b w w') : ∀ k o, k < w.heap.size → k ≠ b → w'.cell? ⟨k, o, none⟩ = w.cell? ⟨k, o, none⟩ :=
  fun k _ hk hb => World.cell?_of_block (w := w) (h.block k hk hb)
theorem Rd.frozen {b : Nat} {w w' : World} (h : Rd b w w') : ∀ k o, k < w.heap.size → k ≠ b → w'.frozen? ⟨k, o, none⟩ = w.frozen? ⟨k, o, none⟩ :=
  fun k _ hk hb => World.frozen?_of_block (w := w) (h.block k hk hb)

theorem At.lt {b : Nat} {s : ByteArray} {i : Nat} {w : World} (h : At b s i w) : b < w.heap.size := by
  rcases Nat.lt_or_ge b w.heap.size with k | k
  · exact k
  · have := h.txt; simp [World.cell?, Array.getElem?_eq_none k] at this
theorem At.drewN {b : Nat} {s : ByteArray} {i : Nat} {w : World} (h : At b s i w) (n : Nat) : At b s i (w.drewN n) := ⟨h.txt, h.pos, h.fz0, h.fz1⟩
theorem At.alloc {b : Nat} {s : ByteArray} {i : Nat} {w : World} (h : At b s i w) (o : Obj) : At b s i (w.alloc o) := by
  have hl := h.lt
  have e : (w.alloc o).heap[b]? = w.heap[b]? := Below.heap_alloc _ _ _ hl
  exact ⟨(World.cell?_of_block (w := w) (a := ⟨b, 0, none⟩) e).trans h.txt, (World.cell?_of_block (w := w) (a := ⟨b, 1, none⟩) e).trans h.pos,
    (World.frozen?_of_block (w := w) (a := ⟨b, 0, none⟩) e).trans h.fz0, (World.frozen?_of_block (w := w) (a := ⟨b, 1, none⟩) e).trans h.fz1⟩
theorem At.go {b : Nat} {s : ByteArray} {i : Nat} {w : World} (h : At b s i w) (j : Nat) : At b s j (w.setCell ⟨b, 1, none⟩ (.int .i64 (j : Int))) := by
  refine ⟨?_, ?_, ?_, ?_⟩
  · exact (World.cell?_setCell_other (w := w) (a := ⟨b, 1, none⟩) (b := ⟨b, 0, none⟩) (v := _) (h := by simp)).trans h.txt
  · exact World.cell?_setCell_same (w := w) (a := ⟨b, 1, none⟩) (v := _) (h := h.pos)
  · rw [World.frozen?_setCell]; exact h.fz0
  · rw [World.frozen?_setCell]; exact h.fz1

end Go.Proofs.YtpajdmhgonmgoaaDoor

namespace Go.Proofs.YtpajdmhgonmgoaaDoor
open Go.RowKit

end Go.Proofs.YtpajdmhgonmgoaaDoor

namespace Go.Proofs.YtpajdmhgonmgoaaDoor
open Go.RowKit

def posOf (b : Nat) (w : World) : Nat := match w.cell? ⟨b, 1, none⟩ with | some (.int _ q) => q.toNat | _ => 0
theorem At.posOf {b : Nat} {s : ByteArray} {i : Nat} {w : World} (h : At b s i w) : posOf b w = i := by
  unfold Go.Proofs.YtpajdmhgonmgoaaDoor.posOf; rw [h.pos]; simp

/-- The number as it is kept: right up to most, and above it whatever is above. -/
structure Cap (most v k : Nat) : Prop where
  eq : v ≤ most → k = v
  gt : most < v → most < k
  le : k ≤ 10 * most + 9

theorem Cap.below {most v k d : Nat} (h : Cap most v k) (hd : d ≤ 9) (hk : k ≤ most) : Cap most (v * 10 + d) (10 * k + d) := by
  have h1 := h.eq
  have h2 := h.gt
  refine ⟨?_, ?_, by omega⟩ <;> omega
theorem Cap.above {most v k d : Nat} (h : Cap most v k) (hk : most < k) : Cap most (v * 10 + d) k := by
  have h1 := h.eq
  have h2 := h.gt
  have h3 := h.le
  refine ⟨?_, ?_, by omega⟩ <;> omega

end Go.Proofs.YtpajdmhgonmgoaaDoor

namespace Go.Proofs.YtpajdmhgonmgoaaDoor
open Go.RowKit
set_option linter.unusedVariables false

theorem hide' {p : Prop} (h : p) : Hid p := h

end Go.Proofs.YtpajdmhgonmgoaaDoor

namespace Go.Proofs.YtpajdmhgonmgoaaDoor
open Go.RowKit

/-- A table in memory: a slice that reads as the numbers. -/
def Tab (w : World) (v : Value) (xs : List Int) : Prop :=
  (xs = [] ∧ v = .slice none 0 0) ∨ ∃ g cap, v = .slice (some ⟨g, 0, none⟩) xs.length cap ∧ g < w.heap.size ∧ ∀ k (h : k < xs.length), w.cell? ⟨g, k, none⟩ = some (.int .i64 xs[k])

/-- A slice whose block was made since. -/
def Fresh (w : World) (v : Value) : Prop := ∀ g k c, v = .slice (some ⟨g, 0, none⟩) k c → w.heap.size ≤ g
theorem Fresh.nil (w : World) : Fresh w (.slice none 0 0) := fun _ _ _ h => by injection h with h1; cases h1
theorem Fresh.mk {w : World} {g k c : Nat} (h : w.heap.size ≤ g) : Fresh w (.slice (some ⟨g, 0, none⟩) k c) := fun g' _ _ q => by
  injection q with q1; injection q1 with q2; injection q2 with q3; omega

/-- A rule as a value, its table at v. -/
def Out.val (o : Out) (v : Value) : Value := .agg #[.int .i64 o.kind, .int .i64 o.born, .int .i64 o.stay, .int .i64 o.states, .int .i64 o.radius, v, .string o.turns]

/-- A block that the call made ahead still lies there. -/
theorem Rd.made {b : Nat} {w w' : World} {C : Array Value} {t : TypeId} (h : Rd b (w.alloc (.cells C t)) w') (hb : b < w.heap.size) :
    (∀ j, w'.cell? ⟨w.heap.size, j, none⟩ = C[j]?) ∧ (∀ j, w'.frozen? ⟨w.heap.size, j, none⟩ = false) := by
  refine ⟨fun j => ?_, fun j => ?_⟩
  · rw [h.cell w.heap.size j (by simp) (by omega)]; simp
  · rw [h.frozen w.heap.size j (by simp) (by omega)]; simp

end Go.Proofs.YtpajdmhgonmgoaaDoor

namespace Go.Proofs.YtpajdmhgonmgoaaDoor
open Go.RowKit

/-- At block g a list of n numbers, the first k of which are f's. -/
structure Fill (g n k : Nat) (f : Nat → Int) (w : World) : Prop where
  lt : g < w.heap.size
  cells : ∀ j, j < n → ∃ v, w.cell? ⟨g, j, none⟩ = some v ∧ (j < k → v = .int .i64 (f j))
  fz : ∀ j, w.frozen? ⟨g, j, none⟩ = false

theorem Fill.start (w : World) (n : Nat) (f : Nat → Int) (z : Value) (t : TypeId) : Fill w.heap.size n 0 f (w.alloc (.cells (madeCells #[z] n) t)) := by
  refine ⟨by simp, fun j hj => ⟨(madeCells #[z] n)[j]'(by rw [size_madeCells]; exact hj), ?_, by omega⟩, fun j => by simp⟩
  rw [World.cell?_alloc_at _ _ _ _ rfl]
  exact Array.getElem?_eq_getElem (by rw [size_madeCells]; exact hj)
theorem Fill.step {g n k : Nat} {f : Nat → Int} {w : World} (h : Fill g n k f w) (hk : k < n) : Fill g n (k + 1) f (w.setCell ⟨g, k, none⟩ (.int .i64 (f k))) := by
  refine ⟨by rw [World.size_setCell]; exact h.lt, fun j hj => ?_, fun j => by rw [World.frozen?_setCell]; exact h.fz j⟩
  by_cases e : j = k
  · subst e
    obtain ⟨v, hv, -⟩ := h.cells j hj
    exact ⟨_, World.cell?_setCell_same (w := w) (a := ⟨g, j, none⟩) (v := _) (h := hv), fun _ => rfl⟩
  · obtain ⟨v, hv, hv'⟩ := h.cells j hj
    refine ⟨v, ?_, fun _ => hv' (by omega)⟩
    exact (World.cell?_setCell_other (w := w) (a := ⟨g, k, none⟩) (b := ⟨g, j, none⟩) (v := _) (h := fun q => e (congrArg Addr.off q).symm)).trans hv
theorem Fill.rd {b g n k : Nat} {f : Nat → Int} {w w' : World} (h : Fill g n k f w) (r : Rd b w w') (hb : g ≠ b) : Fill g n k f w' := by
  refine ⟨Nat.lt_of_lt_of_le h.lt r.size, fun j hj => ?_, fun j => ?_⟩
  · obtain ⟨v, hv, hv'⟩ := h.cells j hj
    exact ⟨v, by rw [r.cell g j h.lt hb]; exact hv, hv'⟩
  · rw [r.frozen g j h.lt hb]; exact h.fz j
end Go.Proofs.YtpajdmhgonmgoaaDoor

namespace Go.Proofs.YtpajdmhgonmgoaaDoor
open Go.RowKit
set_option linter.unusedVariables false

theorem Tab.parts {w : World} {v : Value} {xs : List Int} (h : Tab w v xs) :
    ∃ a c, v = .slice a xs.length c ∧ ∀ k (h : k < xs.length), ∃ g, a = some ⟨g, 0, none⟩ ∧ w.cell? ⟨g, k, none⟩ = some (.int .i64 xs[k]) := by
  rcases h with ⟨rfl, rfl⟩ | ⟨g, cap, rfl, hg, hc⟩
  · exact ⟨none, 0, rfl, fun k h => absurd h (by simp)⟩
  · exact ⟨_, cap, rfl, fun k h => ⟨g, rfl, hc k h⟩⟩

end Go.Proofs.YtpajdmhgonmgoaaDoor

namespace Go.Proofs.YtpajdmhgonmgoaaDoor
open Go.RowKit
set_option linter.unusedVariables false

theorem info_int : (Tryd.prog.info? 3).map (fun i => (i.zero, i.size, i.bytes)) = some (some (.int .i64 0), 1, 8) := by kernel_rfl
theorem Tab.slice {w : World} {v : Value} {xs : List Int} (h : Tab w v xs) : ∃ a n c, v = .slice a n c := by
  rcases h with ⟨-, h⟩ | ⟨g, cap, h, -, -⟩
  · exact ⟨_, _, _, h⟩
  · exact ⟨_, _, _, h⟩
end Go.Proofs.YtpajdmhgonmgoaaDoor

