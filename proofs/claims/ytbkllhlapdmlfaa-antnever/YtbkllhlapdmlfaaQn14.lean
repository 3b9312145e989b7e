/-
  What the last text of this claim leans on, part 14: Ac4, Ac5.
-/
import Derived.Test.YtbkllhlapdmlfaaQn13
namespace Go.Proofs.Ytbkllhlapdmlfaa
open Go.RowKit
set_option linter.unusedVariables false
theorem lists_eq {xs ys : List SpotT} (hl : xs.length = ys.length) (h : ∀ k (h1 : k < xs.length) (h2 : k < ys.length), xs[k] = ys[k]) : xs = ys := List.ext_getElem hl fun k h1 h2 => h k h1 h2
set_option maxRecDepth 100000 in
set_option maxHeartbeats 6400000 in
theorem spots_same (xs ys : List SpotT) (a b : Option Addr) (n c m d : Nat) (w : World) (hA : ArgS w xs a n c) (hB : ArgS w ys b m d) :
    Calls Try.prog 14 #[.slice a n c, .slice b m d] w fun e w' => e = .returned (.bool (decide (xs = ys))) ∧ Below w.heap.size w w' := by
  have la := hA.len
  have lb := hB.len
  have nm := hA.max
  by_cases e : n = m
  · subst e
    have HL := hide' (And.intro la lb)
    have AA := hide' hA
    have AB := hide' hB
    clear hA hB la lb
    go_enter Try.func14, Try.ntmps14
    go_wp2
    go_loopw [5] (fun iv wr => ∃ i : Nat, iv = .int .i64 (i : Int) ∧ i ≤ n ∧ Hid (Below w.heap.size w wr) ∧ Hid (∀ k (h1 : k < xs.length) (h2 : k < ys.length), k < i → xs[k] = ys[k])) (fun iv _ => ((n : Int) - intOf iv).toNat)
    case atStart => exact ⟨0, by go_num, by omega, hide' (Below.refl _ _), hide' (fun k h1 h2 h => by omega)⟩
    case round =>
      obtain ⟨i, rfl, hi, BW, HE⟩ := hrel
      by_cases di : (i : Int) < (n : Int)
      · have i1 : i < xs.length := by have := HL.out.1; omega
        have i2 : i < ys.length := by have := HL.out.2; omega
        obtain ⟨g, off, rfl, -, p0, p1, p2⟩ := (AA.out.below BW.out).cells i i1
        obtain ⟨g', off', rfl, -, q0, q1, q2⟩ := (AB.out.below BW.out).cells i i2
        obtain ⟨p, hp⟩ : ∃ p, xs[i] = p := ⟨_, rfl⟩
        obtain ⟨q, hq⟩ : ∃ q, ys[i] = q := ⟨_, rfl⟩
        rw [hp] at p0 p1 p2
        rw [hq] at q0 q1 q2
        have SE := fun V => spot_eq p q V
        have BD := hide' BW.out.drew
        have i0 : (0 : Int) ≤ (i : Int) := by omega
        have HP := hide' (And.intro hp hq)
        obtain ⟨u1, u2, u3⟩ := p
        obtain ⟨v1, v2, v3⟩ := q
        simp only at p0 p1 p2 q0 q1 q2 SE
        by_cases pq : (u1, u2, u3) = (v1, v2, v3)
        · have NE := hide' (show ∀ k (h1 : k < xs.length) (h2 : k < ys.length), k < i + 1 → xs[k] = ys[k] from fun k h1 h2 hk => by
            by_cases q : k = i
            · subst q; rw [HP.out.1, HP.out.2]; exact pq
            · exact HE.out k h1 h2 (by omega))
          have SE' := fun V => (SE V).trans (by rw [decide_eq_true pq])
          clear SE pq hp hq HE
          go_wp2
          go_region
          go_wp2
          exact ⟨⟨i + 1, by go_num, by omega, BD, NE⟩, by simp [intOf]; omega⟩
        · have NO := hide' (show decide (xs = ys) = false from decide_eq_false fun h => by subst h; exact pq (HP.out.1.symm.trans HP.out.2))
          have SE' := fun V => (SE V).trans (by rw [decide_eq_false pq])
          clear SE pq hp hq HE
          go_wp2
          go_region
          go_wp2
          go_ret
          rw [NO.out]
          exact ⟨rfl, BD.out⟩
      · have YE := hide' (show decide (xs = ys) = true from decide_eq_true (lists_eq (by have := HL.out; omega) fun k h1 h2 => HE.out k h1 h2 (by have := HL.out; omega)))
        go_wp2
        go_ret
        rw [YE.out]
        exact ⟨rfl, BW.out⟩
  · have NO := hide' (show decide (xs = ys) = false from decide_eq_false fun h => by subst h; omega)
    have nn : ((n : Int) == (m : Int)) = false := by simp; omega
    have ni : ¬ (n : Int) = (m : Int) := by omega
    clear hA hB la lb e
    go_enter Try.func14, Try.ntmps14
    go_wp2
    go_ret
    rw [NO.out]
    exact ⟨rfl, Below.refl _ _⟩
end Go.Proofs.Ytbkllhlapdmlfaa

namespace Go.Proofs.Ytbkllhlapdmlfaa
open Go.RowKit
set_option linter.unusedVariables false
def oRL : Out := ⟨3, 0, 0, 0, 0, [], ⟨#[82, 76]⟩⟩
theorem one_only {p : SpotT} {ys : List SpotT} (h1 : p ∈ ys) (h2 : ∀ q ∈ ys, q = p) (h3 : ys.Pairwise (fun p q => ¬ (p.1 = q.1 ∧ p.2.1 = q.2.1))) : ys.length = 1 := by
  match ys, h1, h2, h3 with
  | [], h1, _, _ => cases h1
  | [q], _, _, _ => rfl
  | a :: b :: r, _, h2, h3 =>
    have e1 := h2 a (by simp)
    have e2 := h2 b (by simp)
    have := List.rel_of_pairwise_cons h3 (show b ∈ b :: r by simp)
    rw [e1, e2] at this
    exact absurd ⟨rfl, rfl⟩ this
theorem trRL : trB ⟨#[82, 76]⟩ 0 = true := by decide
theorem okRL : AntOk oRL [] 0 0 ((0 : Nat) : Int) ((1 : Nat) : Int) := by
  refine ⟨Or.inr (Or.inr ⟨rfl, ⟨by decide, by decide, fun i hi => ?_⟩, by decide, by decide⟩), rfl, by decide, by decide, by decide, by decide, by decide, by decide⟩
  have : i = 0 ∨ i = 1 := by
    have h : i < 2 := hi
    omega
  rcases this with rfl | rfl
  · right; decide
  · left; decide
theorem fact_ant (w : World) : Calls Try.prog 11 #[.agg #[.int .i64 3, .int .i64 0, .int .i64 0, .int .i64 0, .int .i64 0, .slice none 0 0, .string ⟨#[82, 76]⟩], .slice none 0 0, .agg #[.int .i64 0, .int .i64 0, .int .i64 0], .int .i64 1] w fun e w' => ∃ g q, e = .returned (.tuple #[.slice (some ⟨g, 0, none⟩) 1 q, .agg #[.int .i64 1, .int .i64 0, .int .i64 1], .nilIface]) ∧ Below w.heap.size w w' := by
  refine (antRun_good oRL none 0 0 [] none 0 0 0 0 0 1 w ⟨rfl, by decide, by decide, fun k h => absurd h (by simp [oRL]), by decide⟩ ⟨rfl, by decide, fun k h => absurd h (by simp)⟩ okRL).mono ?_
  rintro e w' ⟨ys, g, q, rfl, -, so, b⟩
  have hs : runA (trB oRL.turns) oRL.turns.size ⟨colT [] 0, 0, 0, 0⟩ 1 = ⟨setA (fun _ _ => 0) 0 0 1, 1, 0, 1⟩ := by
    show stepA' (trB ⟨#[82, 76]⟩) 2 ⟨fun _ _ => 0, 0, 0, 0⟩ = _
    unfold stepA' trnA
    simp only [trRL]
    rfl
  rw [hs] at so ⊢
  have l1 : ys.length = 1 := one_only (p := (0, 0, 1)) ((so.2.1 0 0 1).2 ⟨by unfold inC; omega, by unfold inC; omega, by simp [setA], by simp [setA]⟩) (fun p hp => by
    obtain ⟨u, v, z⟩ := p
    obtain ⟨_, _, hne, hz⟩ := (so.2.1 u v z).1 hp
    simp only [setA] at hne hz
    by_cases q : u = 0 ∧ v = 0
    · obtain ⟨rfl, rfl⟩ := q
      simp at hz
      rw [hz]
    · rw [if_neg q] at hne; exact absurd rfl hne) so.2.2.1
  rw [l1]
  exact ⟨g, q, rfl, b⟩
end Go.Proofs.Ytbkllhlapdmlfaa

