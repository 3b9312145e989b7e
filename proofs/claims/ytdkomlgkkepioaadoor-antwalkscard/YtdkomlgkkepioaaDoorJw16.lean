/-
  What the last text of this claim leans on, part 16: Ac3, Ad4, Ae2, Af2, Ae3.
-/
import Derived.Test.YtdkomlgkkepioaaDoorJw15
import Derived.Test.YtdkomlgkkepioaaDoorJw8
import Derived.BigQuiet
namespace Go.Proofs.YtdkomlgkkepioaaDoor
open Go.RowKit Go.Shelf Go.Lib Go.Sort
set_option linter.unusedVariables false
theorem pn_lt {p q : SpotT} (hp : -1000000 ≤ p.1 ∧ p.1 ≤ 1000000 ∧ -1000000 ≤ p.2.1 ∧ p.2.1 ≤ 1000000) (hq : -1000000 ≤ q.1 ∧ q.1 ≤ 1000000 ∧ -1000000 ≤ q.2.1 ∧ q.2.1 ≤ 1000000) (h : ltOf plcA p q = true) : pnS p < pnS q := by
  rw [plc_neg] at h
  simp at h
  unfold pnS
  omega
theorem pn_mono {L : Int} {xs : List SpotT} (h : spotE L xs = 0) {i : Nat} : ∀ j (hi : i < xs.length) (hj : j < xs.length), i < j → pnS xs[i] < pnS xs[j]
  | 0, _, _, hij => by omega
  | j + 1, hi, hj, hij => by
    have s1 := pn_lt (spot_near h (show j < xs.length by omega)) (spot_near h hj) (spot_ris h hj)
    by_cases e : i = j
    · subst e; exact s1
    · have := pn_mono h j hi (by omega) (by omega)
      omega
theorem pn_place {p q : SpotT} (e : p.1 = q.1 ∧ p.2.1 = q.2.1) : pnS p = pnS q := by unfold pnS; rw [e.1, e.2]
/-- Spots that are right are the spots of the plane that they say. -/
theorem spots_self {L : Nat} {xs : List SpotT} (h : spotE (L : Int) xs = 0) : SpotsOut (colT xs xs.length) xs := by
  have fw : ∀ k, k ≤ xs.length → ∀ j (hj : j < xs.length), j < k → ∀ u v z, xs[j] = (u, v, z) → colT xs k u v = z.toNat := by
    intro k
    induction k with
    | zero => intro _ j hj hjk; omega
    | succ k ih =>
      intro hk j hj hjk u v z e
      rw [colT, getD_at (show k < xs.length by omega)]
      unfold setA
      by_cases q : j = k
      · subst q; rw [e, if_pos ⟨rfl, rfl⟩]
      · rw [if_neg]
        · exact ih (by omega) j hj (by omega) u v z e
        · rintro ⟨e1, e2⟩
          have := pn_mono h k hj (by omega) (by omega)
          rw [pn_place (p := xs[j]) (q := xs[k]) (by rw [e]; exact ⟨e1, e2⟩)] at this
          omega
  have bw : ∀ k, k ≤ xs.length → ∀ u v, colT xs k u v ≠ 0 → ∃ j, ∃ hj : j < xs.length, xs[j] = (u, v, (colT xs k u v : Int)) := by
    intro k
    induction k with
    | zero => intro _ u v hc; exact absurd rfl hc
    | succ k ih =>
      intro hk u v hc
      rw [colT, getD_at (show k < xs.length by omega)] at hc ⊢
      unfold setA at hc ⊢
      by_cases q : u = xs[k].1 ∧ v = xs[k].2.1
      · rw [if_pos q]
        obtain ⟨⟨a, b, c⟩, hp⟩ : ∃ p, xs[k] = p := ⟨_, rfl⟩
        obtain ⟨_, _, z1, _⟩ := spot_in h (show k < xs.length by omega) hp
        refine ⟨k, by omega, ?_⟩
        rw [hp] at q ⊢
        obtain ⟨rfl, rfl⟩ := q
        simp
        omega
      · rw [if_neg q] at hc ⊢
        exact ih (by omega) u v hc
  refine ⟨fun i j hi hj hij => ?_, fun u v z => ⟨fun hm => ?_, fun hm => ?_⟩, ?_, fun u v huv => ?_⟩
  · have := pn_mono h j hi hj hij
    cases q : ltOf plcA xs[j] xs[i]
    · rfl
    · have := pn_lt (spot_near h hj) (spot_near h hi) q
      omega
  · obtain ⟨j, hj, e⟩ := List.getElem_of_mem hm
    have f := fw xs.length (Nat.le_refl _) j hj hj u v z e
    obtain ⟨iu, iv, z1, _⟩ := spot_in h hj e
    exact ⟨iu, iv, by rw [f]; omega, by rw [f]; omega⟩
  · obtain ⟨_, _, hc, e⟩ := hm
    obtain ⟨j, hj, ej⟩ := bw xs.length (Nat.le_refl _) u v hc
    rw [e, ← ej]
    exact List.getElem_mem hj
  · refine List.pairwise_iff_getElem.2 fun i j hi hj hij e => ?_
    have := pn_mono h j hi hj hij
    rw [pn_place e] at this
    omega
  · rcases Nat.eq_zero_or_pos (colT xs xs.length u v) with q | q
    · exact q
    · obtain ⟨j, hj, ej⟩ := bw xs.length (Nat.le_refl _) u v (by omega)
      obtain ⟨iu, iv, _⟩ := spot_in h hj ej
      exact absurd ⟨iu, iv⟩ huv
theorem spot_eq (p q : SpotT) (w : World) : (Op.equalIn 10000 136 (.agg #[.int .i64 p.1, .int .i64 p.2.1, .int .i64 p.2.2]) (.agg #[.int .i64 q.1, .int .i64 q.2.1, .int .i64 q.2.2])).run Tryd.prog w = .ok (decide (p = q)) w := by
  have u3 := Tryd.underlying3
  have a3 := Tryd.isAgg3
  have z3 := Tryd.sizeOf3
  have hS : Tryd.prog.underlying 136 = some (.struct (Tryd.prog.fieldsOf 136)) := by kernel_rfl
  have hp : Tryd.prog.stoodInHeld 136 = false := by kernel_rfl
  rw [show (10000 : Nat) = 9999 + 1 from rfl, run_equalIn_agg w 9999 136 _ _ hS hp]
  simp only [Program.fieldsOf, Tryd.underlying136]
  go_simp
  obtain ⟨p1, p2, p3⟩ := p
  obtain ⟨q1, q2, q3⟩ := q
  by_cases h1 : p1 = q1 <;> by_cases h2 : p2 = q2 <;> by_cases h3 : p3 = q3 <;> simp [h1, h2, h3]
theorem walker_eq (p q : SpotT) (w : World) : (Op.equalIn 10000 50 (.agg #[.int .i64 p.1, .int .i64 p.2.1, .int .i64 p.2.2]) (.agg #[.int .i64 q.1, .int .i64 q.2.1, .int .i64 q.2.2])).run Tryd.prog w = .ok (decide (p = q)) w := by
  have u3 := Tryd.underlying3
  have a3 := Tryd.isAgg3
  have z3 := Tryd.sizeOf3
  have hS : Tryd.prog.underlying 50 = some (.struct (Tryd.prog.fieldsOf 50)) := by kernel_rfl
  have hp : Tryd.prog.stoodInHeld 50 = false := by kernel_rfl
  rw [show (10000 : Nat) = 9999 + 1 from rfl, run_equalIn_agg w 9999 50 _ _ hS hp]
  simp only [Program.fieldsOf, Tryd.underlying50]
  go_simp
  obtain ⟨p1, p2, p3⟩ := p
  obtain ⟨q1, q2, q3⟩ := q
  by_cases h1 : p1 = q1 <;> by_cases h2 : p2 = q2 <;> by_cases h3 : p3 = q3 <;> simp [h1, h2, h3]
end Go.Proofs.YtdkomlgkkepioaaDoor

namespace Go.Proofs.YtdkomlgkkepioaaDoor
open Go.RowKit Go.Shelf Go.Lib Go.Sort
set_option linter.unusedVariables false
def ltS (p q : SpotT) : Prop := p.2.1 < q.2.1 ∨ (p.2.1 = q.2.1 ∧ p.1 < q.1)
theorem sorted_one : ∀ (ys zs : List SpotT), ys.Pairwise ltS → zs.Pairwise ltS → (∀ p, p ∈ ys ↔ p ∈ zs) → ys = zs
  | [], [], _, _, _ => rfl
  | [], z :: zs, _, _, h => absurd ((h z).2 (by simp)) (by simp)
  | y :: ys, [], _, _, h => absurd ((h y).1 (by simp)) (by simp)
  | y :: ys, z :: zs, h1, h2, h => by
    obtain ⟨a1, b1⟩ := List.pairwise_cons.1 h1
    obtain ⟨a2, b2⟩ := List.pairwise_cons.1 h2
    have e : y = z := by
      rcases List.mem_cons.1 ((h y).1 (by simp)) with q | q
      · exact q
      · rcases List.mem_cons.1 ((h z).2 (by simp)) with r | r
        · exact r.symm
        · have l1 := a2 y q
          have l2 := a1 z r
          unfold ltS at l1 l2
          omega
    subst e
    congr 1
    refine sorted_one ys zs b1 b2 fun p => ⟨fun m => ?_, fun m => ?_⟩
    · rcases List.mem_cons.1 ((h p).1 (List.mem_cons_of_mem _ m)) with q | q
      · have l1 := a1 p m
        rw [q] at l1; unfold ltS at l1; omega
      · exact q
    · rcases List.mem_cons.1 ((h p).2 (List.mem_cons_of_mem _ m)) with q | q
      · have l1 := a2 p m
        rw [q] at l1; unfold ltS at l1; omega
      · exact q
theorem out_sorted {col : Int → Int → Nat} {ys : List SpotT} (h : SpotsOut col ys) : ys.Pairwise ltS := by
  refine List.pairwise_iff_getElem.2 fun i j hi hj hij => ?_
  have s := h.1 i j hi hj hij
  have d := List.pairwise_iff_getElem.1 h.2.2.1 i j hi hj hij
  rw [plc_neg] at s
  simp at s
  unfold ltS
  omega
theorem spots_one {col : Int → Int → Nat} {ys zs : List SpotT} (h : SpotsOut col ys) (g : SpotsOut col zs) : ys = zs :=
  sorted_one ys zs (out_sorted h) (out_sorted g) fun ⟨x, y, z⟩ => (h.2.1 x y z).trans (g.2.1 x y z).symm
end Go.Proofs.YtdkomlgkkepioaaDoor

namespace Go.Proofs.YtdkomlgkkepioaaDoor
open Go.RowKit Go.Shelf Go.Lib Go.Sort
set_option linter.unusedVariables false
/-- Where a cell's spot is, or should be, and whether it is there. -/
def findL (x y : Int) : List SpotT → Nat × Bool
  | [] => (0, false)
  | p :: r => if p.2.1 = y ∧ p.1 = x then (0, true) else if y < p.2.1 ∨ (p.2.1 = y ∧ x < p.1) then (0, false) else ((findL x y r).1 + 1, (findL x y r).2)
/-- The spots with one cell of another colour. -/
def paintL (x y c : Int) (l : List SpotT) : List SpotT := l.take (findL x y l).1 ++ (if 0 < c then [(x, y, c)] else []) ++ l.drop ((findL x y l).1 + if (findL x y l).2 then 1 else 0)
def colL (x y : Int) (l : List SpotT) : Int := if (findL x y l).2 then (l.getD (findL x y l).1 (0, 0, 0)).2.2 else 0
theorem find_le (x y : Int) : ∀ l : List SpotT, (findL x y l).1 ≤ l.length ∧ ((findL x y l).2 = true → (findL x y l).1 < l.length)
  | [] => by simp [findL]
  | p :: r => by
    have ih := find_le x y r
    unfold findL
    split
    · simp
    · split
      · simp
      · simp only [List.length_cons]
        exact ⟨by omega, fun h => by have := ih.2 h; omega⟩
theorem paint_nil (x y c : Int) : paintL x y c [] = if 0 < c then [(x, y, c)] else [] := by simp [paintL, findL]
theorem paint_at (x y c : Int) (p : SpotT) (r : List SpotT) (h : p.2.1 = y ∧ p.1 = x) : paintL x y c (p :: r) = (if 0 < c then [(x, y, c)] else []) ++ r := by
  unfold paintL findL; rw [if_pos h]; simp
theorem paint_ahead (x y c : Int) (p : SpotT) (r : List SpotT) (h : ¬ (p.2.1 = y ∧ p.1 = x)) (g : y < p.2.1 ∨ (p.2.1 = y ∧ x < p.1)) : paintL x y c (p :: r) = (if 0 < c then [(x, y, c)] else []) ++ (p :: r) := by
  unfold paintL findL; rw [if_neg h, if_pos g]; simp
theorem paint_on (x y c : Int) (p : SpotT) (r : List SpotT) (h : ¬ (p.2.1 = y ∧ p.1 = x)) (g : ¬ (y < p.2.1 ∨ (p.2.1 = y ∧ x < p.1))) : paintL x y c (p :: r) = p :: paintL x y c r := by
  unfold paintL
  rw [findL, if_neg h, if_neg g]
  simp only
  rw [List.take_succ_cons, show (findL x y r).1 + 1 + (if (findL x y r).2 = true then 1 else 0) = ((findL x y r).1 + (if (findL x y r).2 = true then 1 else 0)) + 1 by omega, List.drop_succ_cons]
  rfl
theorem paint_mem (x y c : Int) : ∀ l : List SpotT, l.Pairwise ltS → ∀ p, p ∈ paintL x y c l ↔ ((0 < c ∧ p = (x, y, c)) ∨ (p ∈ l ∧ ¬ (p.1 = x ∧ p.2.1 = y)))
  | [], _, p => by rw [paint_nil]; split <;> simp [*]
  | q :: r, h, p => by
    obtain ⟨h1, h2⟩ := List.pairwise_cons.1 h
    have lat : ∀ p ∈ r, ltS q p := h1
    by_cases a : q.2.1 = y ∧ q.1 = x
    · rw [paint_at x y c q r a, List.mem_append, List.mem_cons]
      have no : p ∈ r → ¬ (p.1 = x ∧ p.2.1 = y) := fun m e => by have := lat p m; unfold ltS at this; omega
      constructor
      · rintro (m | m)
        · split at m
          · exact Or.inl ⟨by assumption, by simpa using m⟩
          · cases m
        · exact Or.inr ⟨Or.inr m, no m⟩
      · rintro (⟨c0, rfl⟩ | ⟨rfl | m, e⟩)
        · left; rw [if_pos c0]; simp
        · exact absurd ⟨a.2, a.1⟩ e
        · exact Or.inr m
    · by_cases g : y < q.2.1 ∨ (q.2.1 = y ∧ x < q.1)
      · rw [paint_ahead x y c q r a g, List.mem_append]
        have no : p ∈ q :: r → ¬ (p.1 = x ∧ p.2.1 = y) := fun m e => by
          rcases List.mem_cons.1 m with rfl | m
          · omega
          · have := lat p m; unfold ltS at this; omega
        constructor
        · rintro (m | m)
          · split at m
            · exact Or.inl ⟨by assumption, by simpa using m⟩
            · cases m
          · exact Or.inr ⟨m, no m⟩
        · rintro (⟨c0, rfl⟩ | ⟨m, e⟩)
          · left; rw [if_pos c0]; simp
          · exact Or.inr m
      · rw [paint_on x y c q r a g, List.mem_cons, paint_mem x y c r h2 p, List.mem_cons]
        constructor
        · rintro (rfl | m | ⟨m, e⟩)
          · exact Or.inr ⟨Or.inl rfl, fun e => a ⟨e.2, e.1⟩⟩
          · exact Or.inl m
          · exact Or.inr ⟨Or.inr m, e⟩
        · rintro (m | ⟨rfl | m, e⟩)
          · exact Or.inr (Or.inl m)
          · exact Or.inl rfl
          · exact Or.inr (Or.inr ⟨m, e⟩)
theorem paint_sorted (x y c : Int) : ∀ l : List SpotT, l.Pairwise ltS → (paintL x y c l).Pairwise ltS
  | [], _ => by rw [paint_nil]; split <;> simp
  | q :: r, h => by
    obtain ⟨h1, h2⟩ := List.pairwise_cons.1 h
    by_cases a : q.2.1 = y ∧ q.1 = x
    · rw [paint_at x y c q r a]
      split
      · refine List.pairwise_cons.2 ⟨fun p m => ?_, h2⟩
        have := h1 p (by simpa using m); unfold ltS at this ⊢; simp only; omega
      · exact h2
    · by_cases g : y < q.2.1 ∨ (q.2.1 = y ∧ x < q.1)
      · rw [paint_ahead x y c q r a g]
        split
        · refine List.pairwise_cons.2 ⟨fun p m => ?_, h⟩
          rcases List.mem_cons.1 (show p ∈ q :: r by simpa using m) with rfl | m
          · unfold ltS; simp only; omega
          · have := h1 p m; unfold ltS at this ⊢; simp only; omega
        · exact h
      · rw [paint_on x y c q r a g]
        refine List.pairwise_cons.2 ⟨fun p m => ?_, paint_sorted x y c r h2⟩
        rcases (paint_mem x y c r h2 p).1 m with ⟨_, rfl⟩ | ⟨m, _⟩
        · unfold ltS; simp only; omega
        · exact h1 p m
end Go.Proofs.YtdkomlgkkepioaaDoor

namespace Go.Proofs.YtdkomlgkkepioaaDoor
open Go.RowKit
set_option linter.unusedVariables false
theorem find_step {x y : Int} {l : List SpotT} {k : Nat} (hk : k < l.length) (h : ∀ j (hj : j < l.length), j < k → ¬ (l[j].2.1 = y ∧ l[j].1 = x) ∧ ¬ (y < l[j].2.1 ∨ (l[j].2.1 = y ∧ x < l[j].1))) : findL x y l = ((findL x y (l.drop k)).1 + k, (findL x y (l.drop k)).2) := by
  induction k with
  | zero => simp
  | succ k ih =>
    rw [ih (by omega) (fun j hj hjk => h j hj (by omega))]
    have hk' : k < l.length := by omega
    rw [List.drop_eq_getElem_cons hk', findL]
    obtain ⟨h1, h2⟩ := h k hk' (by omega)
    rw [if_neg h1, if_neg h2]
    simp only [Prod.mk.injEq, and_true]
    omega
theorem find_hit {x y : Int} {l : List SpotT} {k : Nat} (hk : k < l.length) (h : ∀ j (hj : j < l.length), j < k → ¬ (l[j].2.1 = y ∧ l[j].1 = x) ∧ ¬ (y < l[j].2.1 ∨ (l[j].2.1 = y ∧ x < l[j].1))) (e : l[k].2.1 = y ∧ l[k].1 = x) : findL x y l = (k, true) := by
  rw [find_step hk h, List.drop_eq_getElem_cons hk, findL, if_pos e]
  simp
theorem find_miss {x y : Int} {l : List SpotT} {k : Nat} (hk : k < l.length) (h : ∀ j (hj : j < l.length), j < k → ¬ (l[j].2.1 = y ∧ l[j].1 = x) ∧ ¬ (y < l[j].2.1 ∨ (l[j].2.1 = y ∧ x < l[j].1))) (e : ¬ (l[k].2.1 = y ∧ l[k].1 = x)) (g : y < l[k].2.1 ∨ (l[k].2.1 = y ∧ x < l[k].1)) : findL x y l = (k, false) := by
  rw [find_step hk h, List.drop_eq_getElem_cons hk, findL, if_neg e, if_pos g]
  simp
theorem find_end {x y : Int} : ∀ {l : List SpotT}, (∀ j (hj : j < l.length), ¬ (l[j].2.1 = y ∧ l[j].1 = x) ∧ ¬ (y < l[j].2.1 ∨ (l[j].2.1 = y ∧ x < l[j].1))) → findL x y l = (l.length, false)
  | [], _ => rfl
  | p :: r, h => by
    have h0 : ¬ (p.2.1 = y ∧ p.1 = x) ∧ ¬ (y < p.2.1 ∨ (p.2.1 = y ∧ x < p.1)) := h 0 (by simp)
    rw [findL, if_neg h0.1, if_neg h0.2, find_end (l := r) (fun j hj => by have := h (j + 1) (by simp; omega); simpa using this)]
    simp
set_option maxRecDepth 100000 in
set_option maxHeartbeats 6400000 in
theorem refFind_any (x y : Int) (xs : List SpotT) (a : Option Addr) (n c : Nat) (w : World) (hP : ArgS w xs a n c) :
    Calls Tryd.prog 122 #[.slice a n c, .int .i64 x, .int .i64 y] w fun e w' => e = .returned (.tuple #[.int .i64 ((findL x y xs).1 : Int), .bool (findL x y xs).2]) ∧ w' = w := by
  have HL := hide' hP.len
  have nm := hP.max
  have HP := hide' hP
  clear hP
  go_enter Tryd.func122, Tryd.ntmps122
  go_wp2
  go_loopw [8] (fun kv wr => ∃ k : Nat, kv = .int .i64 (k : Int) ∧ k ≤ n ∧ w = wr ∧ Hid (∀ j (hj : j < xs.length), j < k → ¬ (xs[j].2.1 = y ∧ xs[j].1 = x) ∧ ¬ (y < xs[j].2.1 ∨ (xs[j].2.1 = y ∧ x < xs[j].1)))) (fun kv _ => n - (intOf kv).toNat)
  case atStart => exact ⟨0, rfl, by omega, rfl, hide' (fun j h hj => by omega)⟩
  case round =>
    obtain ⟨k, rfl, hk, rfl, HA⟩ := hrel
    by_cases d : (k : Int) < (n : Int)
    · have hkl : k < xs.length := by have := HL.out; omega
      obtain ⟨g, off, rfl, hg, c0, c1, c2⟩ := HP.out.cells k hkl
      obtain ⟨⟨u, v, z⟩, hx⟩ : ∃ x, xs[k] = x := ⟨_, rfl⟩
      rw [hx] at c0 c1 c2
      simp only at c0 c1 c2
      have i0 : (0 : Int) ≤ (k : Int) := by omega
      have HX := hide' hx
      clear hx
      by_cases q1 : v = y
      · have p1 : (v == y) = true := by simpa using q1
        have p0 : decide (y < v) = false := by simp; omega
        by_cases q2 : u = x
        · have p2 : (u == x) = true := by simpa using q2
          have F := hide' (find_hit hkl HA.out (by rw [HX.out]; exact ⟨q1, q2⟩))
          clear q1 q2
          go_wp2
          go_ret2
          rw [F.out]
          exact ⟨rfl, rfl⟩
        · have p2 : (u == x) = false := by simpa using q2
          by_cases q3 : x < u
          · have p3 : decide (x < u) = true := by simpa using q3
            have F := hide' (find_miss hkl HA.out (by rw [HX.out]; simp only; omega) (by rw [HX.out]; simp only; omega))
            clear q1 q2 q3
            go_wp2
            go_ret2
            rw [F.out]
            exact ⟨rfl, rfl⟩
          · have p3 : decide (x < u) = false := by simpa using q3
            have F := hide' (show ¬ (xs[k].2.1 = y ∧ xs[k].1 = x) ∧ ¬ (y < xs[k].2.1 ∨ (xs[k].2.1 = y ∧ x < xs[k].1)) by rw [HX.out]; simp only; omega)
            clear q1 q2 q3
            go_wp2
            refine ⟨⟨k + 1, by go_num, by omega, by simp, hide' fun j h hj => ?_⟩, by simp [intOf]; omega⟩
            by_cases e : j = k
            · subst e; exact F.out
            · exact HA.out j h (by omega)
      · have p1 : (v == y) = false := by simpa using q1
        by_cases q3 : y < v
        · have p3 : decide (y < v) = true := by simpa using q3
          have F := hide' (find_miss hkl HA.out (by rw [HX.out]; simp only; omega) (by rw [HX.out]; simp only; omega))
          clear q1 q3
          go_wp2
          go_ret2
          rw [F.out]
          exact ⟨rfl, rfl⟩
        · have p3 : decide (y < v) = false := by simpa using q3
          have F := hide' (show ¬ (xs[k].2.1 = y ∧ xs[k].1 = x) ∧ ¬ (y < xs[k].2.1 ∨ (xs[k].2.1 = y ∧ x < xs[k].1)) by rw [HX.out]; simp only; omega)
          clear q1 q3
          go_wp2
          refine ⟨⟨k + 1, by go_num, by omega, by simp, hide' fun j h hj => ?_⟩, by simp [intOf]; omega⟩
          by_cases e : j = k
          · subst e; exact F.out
          · exact HA.out j h (by omega)
    · have F := hide' (find_end (x := x) (y := y) (l := xs) (fun j hj => HA.out j hj (by have := HL.out; omega)))
      go_wp2
      go_ret2
      rw [F.out, ← HL.out]
      exact ⟨rfl, rfl⟩
end Go.Proofs.YtdkomlgkkepioaaDoor

namespace Go.Proofs.YtdkomlgkkepioaaDoor
open Go.RowKit Go.Shelf Go.Lib Go.Sort
set_option linter.unusedVariables false
theorem sorted_out {col : Int → Int → Nat} {ys : List SpotT} (h : ys.Pairwise ltS) (m : ∀ x y z, (x, y, z) ∈ ys ↔ (inC x ∧ inC y ∧ col x y ≠ 0 ∧ z = (col x y : Int))) (o : ∀ u v, ¬ (inC u ∧ inC v) → col u v = 0) : SpotsOut col ys := by
  refine ⟨fun i j hi hj hij => ?_, m, h.imp fun {p q} l e => ?_, o⟩
  · have l := List.pairwise_iff_getElem.1 h i j hi hj hij
    rw [plc_neg]
    unfold ltS at l
    simp
    omega
  · unfold ltS at l
    omega
theorem paint_out {col : Int → Int → Nat} {ys : List SpotT} (h : SpotsOut col ys) {x y : Int} (hx : inC x) (hy : inC y) (c : Nat) : SpotsOut (setA col x y c) (paintL x y (c : Int) ys) := by
  have s := out_sorted h
  refine sorted_out (paint_sorted x y c ys s) (fun u v z => ?_) (fun u v ho => ?_)
  · rw [paint_mem x y c ys s (u, v, z), h.2.1 u v z]
    unfold setA
    by_cases e : u = x ∧ v = y
    · obtain ⟨rfl, rfl⟩ := e
      simp only [and_self, if_true]
      constructor
      · rintro (⟨c0, e⟩ | ⟨_, q⟩)
        · simp only [Prod.mk.injEq, true_and] at e
          exact ⟨hx, hy, by omega, e⟩
        · exact absurd trivial q
      · rintro ⟨_, _, c0, e⟩
        exact Or.inl ⟨by omega, by rw [e]⟩
    · rw [if_neg e]
      constructor
      · rintro (⟨_, q⟩ | ⟨q, _⟩)
        · simp only [Prod.mk.injEq] at q
          exact absurd ⟨q.1, q.2.1⟩ e
        · exact q
      · intro q
        exact Or.inr ⟨q, e⟩
  · unfold setA
    rw [if_neg]
    · exact h.2.2.2 u v ho
    · rintro ⟨rfl, rfl⟩
      exact ho ⟨hx, hy⟩
theorem find_mem (x y : Int) : ∀ l : List SpotT, l.Pairwise ltS → ((findL x y l).2 = true → (l.getD (findL x y l).1 (0, 0, 0)) ∈ l ∧ (l.getD (findL x y l).1 (0, 0, 0)).1 = x ∧ (l.getD (findL x y l).1 (0, 0, 0)).2.1 = y) ∧ ((findL x y l).2 = false → ∀ p ∈ l, ¬ (p.1 = x ∧ p.2.1 = y))
  | [], _ => by simp [findL]
  | q :: r, h => by
    obtain ⟨h1, h2⟩ := List.pairwise_cons.1 h
    have ih := find_mem x y r h2
    unfold findL
    by_cases a : q.2.1 = y ∧ q.1 = x
    · rw [if_pos a]
      exact ⟨fun _ => ⟨by simp, a.2, a.1⟩, fun h => by cases h⟩
    · rw [if_neg a]
      by_cases g : y < q.2.1 ∨ (q.2.1 = y ∧ x < q.1)
      · rw [if_pos g]
        refine ⟨(fun h => nomatch h), fun _ p m e => ?_⟩
        rcases List.mem_cons.1 m with rfl | m
        · omega
        · have := h1 p m; unfold ltS at this; omega
      · rw [if_neg g]
        simp only [List.getD_cons_succ]
        refine ⟨fun t => ?_, fun t p m e => ?_⟩
        · obtain ⟨i1, i2⟩ := ih.1 t
          exact ⟨List.mem_cons_of_mem _ i1, i2⟩
        · rcases List.mem_cons.1 m with rfl | m
          · exact a ⟨e.2, e.1⟩
          · exact ih.2 t p m e
theorem colL_is {col : Int → Int → Nat} {ys : List SpotT} (h : SpotsOut col ys) {x y : Int} (hx : inC x) (hy : inC y) : colL x y ys = (col x y : Int) := by
  obtain ⟨f1, f2⟩ := find_mem x y ys (out_sorted h)
  unfold colL
  cases t : (findL x y ys).2
  · rw [if_neg (by simp)]
    rcases Nat.eq_zero_or_pos (col x y) with z | z
    · rw [z]; rfl
    · exact absurd ⟨rfl, rfl⟩ (f2 t _ ((h.2.1 x y (col x y : Int)).2 ⟨hx, hy, by omega, rfl⟩))
  · rw [if_pos rfl]
    obtain ⟨m, e1, e2⟩ := f1 t
    revert m e1 e2
    generalize ys.getD (findL x y ys).1 (0, 0, 0) = p
    obtain ⟨u, v, z⟩ := p
    rintro m rfl rfl
    exact ((h.2.1 u v z).1 m).2.2.2
end Go.Proofs.YtdkomlgkkepioaaDoor

