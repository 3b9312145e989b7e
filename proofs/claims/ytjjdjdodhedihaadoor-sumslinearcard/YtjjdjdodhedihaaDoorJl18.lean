/-
  What the last text of this claim leans on, part 18: Sd1.
-/
import Derived.Test.YtjjdjdodhedihaaDoorJl16
import Derived.Test.YtjjdjdodhedihaaDoorJl14
import Derived.Test.YtjjdjdodhedihaaDoorJl10
namespace Go.Proofs.YtjjdjdodhedihaaDoor
open Go.RowKit
set_option linter.unusedVariables false

/-- The numbers that a sum must have. -/
def numL (S R : Nat) (T : List Int) : List Int := (List.range (2 * R + 1)).map fun i => T.getD (S ^ (2 * R - i)) 0
theorem numL_length (S R : Nat) (T : List Int) : (numL S R T).length = 2 * R + 1 := by simp [numL]
theorem numL_at {S R : Nat} {T : List Int} {i : Nat} (h : i < 2 * R + 1) : (numL S R T).getD i 0 = T.getD (S ^ (2 * R - i)) 0 := by simp [numL, List.getD, h]
theorem numL_ok {S R : Nat} {T : List Int} (hL : LineOk S R T) : cellsOk S (numL S R T) := fun x hx => by
  obtain ⟨i, _, rfl⟩ := List.mem_map.1 hx
  have hl : S ^ (2 * R - i) < T.length := by rw [hL.len]; exact Nat.pow_lt_pow_right (by have := hL.s2; omega) (by omega)
  exact cellsOk_at hL.ok hl
/-- The numbers, laid down to a place. -/
def numD (S R : Nat) (T : List Int) (j : Nat) : List Int := (List.range (2 * R + 1)).map fun i => if j ≤ i then T.getD (S ^ (2 * R - i)) 0 else 0
theorem numD_length (S R : Nat) (T : List Int) (j : Nat) : (numD S R T j).length = 2 * R + 1 := by simp [numD]
theorem numD_zero (S R : Nat) (T : List Int) : numD S R T 0 = numL S R T := by simp [numD, numL]
theorem numD_none (S R : Nat) (T : List Int) : numD S R T (2 * R + 1) = List.replicate (2 * R + 1) 0 := by
  apply List.ext_getElem (by simp [numD])
  intro k h1 h2
  simp only [numD, List.getElem_map, List.getElem_range, List.getElem_replicate]
  rw [if_neg (by simpa [numD] using h1)]
theorem numD_set {S R : Nat} {T : List Int} {j : Nat} (hj : j < 2 * R + 1) : (numD S R T (j + 1)).set j (T.getD (S ^ (2 * R - j)) 0) = numD S R T j := by
  apply List.ext_getElem (by simp [numD])
  intro k h1 h2
  rw [List.getElem_set]
  simp only [numD, List.getElem_map, List.getElem_range]
  by_cases e : j = k
  · subst e; rw [if_pos rfl, if_pos (Nat.le_refl _)]
  · rw [if_neg e]
    by_cases d : j ≤ k
    · rw [if_pos (by omega), if_pos d]
    · rw [if_neg (by omega), if_neg d]
/-- What a window adds at a cell. -/
def addF (S m : Nat) (cs : List Int) (x i : Nat) : Int := cs.getD i 0 * ((x / S ^ (m - 1 - i) % S : Nat) : Int)
/-- A rule is a sum of these numbers. -/
def LinP (S R : Nat) (T : List Int) : Prop := ∀ x, x < T.length → sumF (addF S (2 * R + 1) (numL S R T) x) (2 * R + 1) % S = T.getD x 0
theorem addF_bound {S m : Nat} {cs : List Int} (hs : S ≤ 4) (h : cellsOk S cs) (x i : Nat) (hi : i < cs.length) : 0 ≤ addF S m cs x i ∧ addF S m cs x i ≤ 16 := by
  have a := cellsOk_at h hi
  unfold addF
  rcases Nat.eq_zero_or_pos S with z | z
  · omega
  · have b := Nat.mod_lt (x / S ^ (m - 1 - i)) z
    obtain ⟨y, hy⟩ : ∃ y, x / S ^ (m - 1 - i) % S = y := ⟨_, rfl⟩
    obtain ⟨c, hc⟩ : ∃ c : Nat, cs.getD i 0 = (c : Int) := ⟨(cs.getD i 0).toNat, by omega⟩
    rw [hy] at b ⊢
    rw [hc] at a ⊢
    have : c * y ≤ 4 * 4 := Nat.mul_le_mul (by omega) (by omega)
    rw [← Int.natCast_mul]
    omega
theorem sumF_tail {f : Nat → Int} {m : Nat} (h : ∀ i, i < m → 0 ≤ f i ∧ f i ≤ 16) : ∀ d, d ≤ m → 0 ≤ sumF f m - sumF f (m - d) ∧ sumF f m - sumF f (m - d) ≤ 16 * d
  | 0, _ => by simp
  | d + 1, hd => by
    have ih := sumF_tail h d (by omega)
    have e : sumF f (m - d) = sumF f (m - (d + 1)) + f (m - (d + 1)) := by rw [show m - d = m - (d + 1) + 1 by omega, sumF]
    have b := h (m - (d + 1)) (by omega)
    push_cast
    omega

set_option maxRecDepth 100000 in
set_option maxHeartbeats 6400000 in
theorem numbersOf_any (S R : Nat) (T : List Int) (ta : Option Addr) (tn tc : Nat) (w : World) (hL : LineOk S R T) (hT : ArgP w T ta tn tc) :
    Calls Tryd.prog 48 #[.agg #[.int .i64 2, .int .i64 0, .int .i64 0, .int .i64 (S : Int), .int .i64 (R : Int), .slice ta tn tc, .string ⟨#[]⟩]] w fun e w' => ∃ g, e = .returned (.slice (some ⟨g, 0, none⟩) (2 * R + 1) (2 * R + 1)) ∧ Cel w' g (numL S R T) ∧ w.heap.size ≤ g ∧ Below w.heap.size w w' := by
  obtain ⟨w1, hw1⟩ : ∃ w1, w.alloc (.cells #[.int .i64 2, .int .i64 0, .int .i64 0, .int .i64 (S : Int), .int .i64 (R : Int), .slice ta tn tc, .string ⟨#[]⟩] 24) = w1 := ⟨_, rfl⟩
  have BB := hide' (show Below w.heap.size w w1 by rw [← hw1]; exact (Below.refl _ _).alloc (Nat.le_refl _) _)
  have RX := hide' (show RB w.heap.size S R (.slice ta tn tc) w1 by rw [← hw1]; exact RB.new w S R _ _)
  have AT := hide' hT
  have s2 := hL.s2
  have s4 := hL.s4
  have r10 := hL.r10
  obtain ⟨m, hm⟩ : ∃ m, 2 * R + 1 = m := ⟨_, rfl⟩
  have qm : 2 * (R : Int) + 1 = (m : Int) := by omega
  have HM := hide' hm
  have TL := hide' (show tn = S ^ m by rw [hT.len, hL.len, hm])
  have t4 : tn ≤ 4096 := by rw [hT.len]; exact hL.max
  have PB := hide' (show ∀ j, j ≤ m → S ^ j ≤ 4096 from fun j hj => by
    have : S ^ j ≤ S ^ m := Nat.pow_le_pow_right (by omega) hj
    have := TL.out
    omega)
  have PL := hide' (show ∀ j, j < m → S ^ j < tn from fun j hj => by rw [TL.out]; exact Nat.pow_lt_pow_right (by omega) hj)
  have N0 := hide' (numD_zero S R T)
  have NN := hide' (numD_none S R T)
  have NS := hide' (fun j (hj : j < 2 * R + 1) => numD_set (S := S) (T := T) hj)
  have NL := hide' (fun j => numD_length S R T j)
  rw [hm] at NN NS NL ⊢
  have hmk := run_make_row' (P := Tryd.prog) 22 3 (.int .i64 0) 8 Tryd.underlying22 info_int rfl .i64 .i64 m (by omega) (by omega)
  obtain ⟨g, hg⟩ : ∃ g, w1.heap.size = g := ⟨_, rfl⟩
  have GW := hide' (show w.heap.size < g by rw [← hg, ← hw1]; simp)
  have P0 := hide' (show Cel (w1.alloc (.cells (madeCells #[.int .i64 0] m) 3)) g (numD S R T m) ∧ RB w.heap.size S R (.slice ta tn tc) (w1.alloc (.cells (madeCells #[.int .i64 0] m) 3)) ∧ Below w.heap.size w (w1.alloc (.cells (madeCells #[.int .i64 0] m) 3)) from ⟨by rw [NN.out, ← hg]; exact Cel.made w1 m _, RX.out.alloc _, BB.out.alloc BB.out.size _⟩)
  clear hL hT hm
  obtain ⟨x0, x1, x2, x3, x4, x5, x6⟩ := RX.out
  go_enter Tryd.func48, Tryd.ntmps48
  go_wp2
  try rw [hg]
  clear x0 x1 x2 x3 x4 x5 x6 hw1 hg
  go_loopw [4, 5] (fun xv iv wr => ∃ (j y : Nat), iv = .int .i64 ((j : Int) - 1) ∧ xv = .int .i64 (y : Int) ∧ j ≤ m ∧ y ≤ 4096 ∧ Hid (y = S ^ (m - j) ∧ Cel wr g (numD S R T j) ∧ RB w.heap.size S R (.slice ta tn tc) wr ∧ Below w.heap.size w wr)) (fun _ iv _ => (intOf iv + 1).toNat)
  case atStart => exact ⟨m, 1, rfl, rfl, by omega, by omega, hide' ⟨by simp, P0.out⟩⟩
  case round =>
    clear P0
    obtain ⟨j, y, rfl, rfl, hj, hy, H⟩ := hrel
    by_cases d : (0 : Int) ≤ (j : Int) - 1
    · obtain ⟨i, rfl⟩ : ∃ i, j = i + 1 := ⟨j - 1, by omega⟩
      have qi : ((i + 1 : Nat) : Int) - 1 = (i : Int) := by omega
      obtain ⟨x0, x1, x2, x3, x4, x5, x6⟩ := H.out.2.2.1
      have yt : y < tn := by rw [H.out.1]; exact PL.out _ (by omega)
      obtain ⟨gt, ot, rfl, ht⟩ := (AT.out.below H.out.2.2.2).at (k := y) yt
      have ci := H.out.2.1.cells i (by rw [NL.out]; omega)
      have fi := H.out.2.1.fz i
      obtain ⟨z, hz⟩ : ∃ z, y * S = z := ⟨_, rfl⟩
      have e1 : (y : Int) * (S : Int) = (z : Int) := by rw [← hz]; simp
      have ZP := hide' (show z = S ^ (m - i) by rw [← hz, H.out.1, show m - i = m - (i + 1) + 1 by omega, Nat.pow_succ])
      have zl : z ≤ 4096 := by rw [ZP.out]; exact PB.out _ (by omega)
      have NX := hide' (show (numD S R T (i + 1)).set i (T.getD y 0) = numD S R T i by
        have := NS.out i (by omega)
        rw [show 2 * R - i = m - (i + 1) by have := HM.out; omega, ← H.out.1] at this
        exact this)
      have gne : ¬ g = w.heap.size := by have := GW.out; omega
      have gne' : ¬ w.heap.size = g := by have := GW.out; omega
      clear hz
      rw [qi] at d ⊢
      clear qi
      go_wp2
      refine ⟨⟨i, z, by go_num, rfl, by omega, zl, hide' ⟨ZP.out, ?_, ?_, ?_⟩⟩, by simp [intOf]⟩
      · rw [← NX.out]; exact H.out.2.1.set i _ (by rw [NL.out]; omega)
      · exact H.out.2.2.1.block (heap_setCell_other _ _ _ _ _ (by have := GW.out; omega))
      · exact H.out.2.2.2.setCell (p := ⟨g, i, none⟩) (by show w.heap.size ≤ g; have := GW.out; omega) _
    · have j0 : j = 0 := by omega
      subst j0
      have FI := hide' (show Cel wr g (numL S R T) by rw [← N0.out]; exact H.out.2.1)
      have BF := hide' H.out.2.2.2
      clear H
      go_wp2
      go_ret
      exact ⟨g, rfl, FI.out, Nat.le_of_lt GW.out, BF.out⟩

/-- What isSum answers. -/
def SumPost (S m : Nat) (T cs : List Int) (w : World) (e : Ending) (w' : World) : Prop := (∃ β : Bool, e = .returned (.bool β) ∧ (β = true ↔ ∀ x, x < T.length → sumF (addF S m cs x) m % S = T.getD x 0)) ∧ Below w.heap.size w w'

set_option maxRecDepth 100000 in
set_option maxHeartbeats 6400000 in
theorem isSum_any (S R : Nat) (T cs : List Int) (ta : Option Addr) (tn tc : Nat) (ca : Option Addr) (m cc : Nat) (w : World) (hL : LineOk S R T) (hT : ArgP w T ta tn tc) (hC : ArgP w cs ca m cc) (hm : m = 2 * R + 1) (hok : cellsOk S cs) :
    Calls Tryd.prog 49 #[.agg #[.int .i64 2, .int .i64 0, .int .i64 0, .int .i64 (S : Int), .int .i64 (R : Int), .slice ta tn tc, .string ⟨#[]⟩], .slice ca m cc] w (SumPost S m T cs w) := by
  obtain ⟨w1, hw1⟩ : ∃ w1, w.alloc (.cells #[.int .i64 2, .int .i64 0, .int .i64 0, .int .i64 (S : Int), .int .i64 (R : Int), .slice ta tn tc, .string ⟨#[]⟩] 24) = w1 := ⟨_, rfl⟩
  have BB := hide' (show Below w.heap.size w w1 by rw [← hw1]; exact (Below.refl _ _).alloc (Nat.le_refl _) _)
  have RX := hide' (show RB w.heap.size S R (.slice ta tn tc) w1 by rw [← hw1]; exact RB.new w S R _ _)
  have AT := hide' (hT.below BB.out)
  have AC := hide' (hC.below BB.out)
  have s2 := hL.s2
  have s4 := hL.s4
  have m21 : m ≤ 21 := by have := hL.r10; omega
  have t4 : tn ≤ 4096 := by rw [hT.len]; exact hL.max
  have TL := hide' hT.len
  have CB := hide' (fun x i (hi : i < m) => addF_bound (m := m) s4 hok x i (by rw [← hC.len]; exact hi))
  have TO := hide' hL.ok
  have n2 : ¬ (S : Int) = 0 := by omega
  have COK := hide' hok
  have CL := hide' hC.len
  clear hL hT hC hm hok
  obtain ⟨x0, x1, x2, x3, x4, x5, x6⟩ := RX.out
  go_enter Tryd.func49, Tryd.ntmps49
  go_wp2
  clear x0 x1 x2 x3 x4 x5 x6 hw1
  go_loopw [12] (fun kv wr => ∃ k q : Nat, kv = .int .i64 (k : Int) ∧ k ≤ tn ∧ wr = w1.drewN q ∧ Hid (∀ x, x < k → sumF (addF S m cs x) m % S = T.getD x 0)) (fun kv _ => tn - (intOf kv).toNat)
  case atStart => exact ⟨0, 0, rfl, by omega, rfl, fun x hx => by omega⟩
  case round =>
    obtain ⟨k, q, rfl, hk, rfl, HK⟩ := hrel
    obtain ⟨x0, x1, x2, x3, x4, x5, x6⟩ := RX.out
    by_cases d : (k : Int) < (tn : Int)
    · obtain ⟨gt, ot, rfl, ht⟩ := AT.out.at (k := k) (by omega)
      have tk := cellsOk_at TO.out (k := k) (by have := TL.out; omega)
      obtain ⟨v, hv⟩ : ∃ v, T.getD k 0 = v := ⟨_, rfl⟩
      rw [hv] at ht tk
      have HV := hide' hv
      clear hv
      go_wp2
      go_loopw [5, 7, 8] (fun xv sv iv wr => ∃ (j y q : Nat) (u : Int), iv = .int .i64 ((j : Int) - 1) ∧ xv = .int .i64 (y : Int) ∧ sv = .int .i64 u ∧ j ≤ m ∧ y ≤ 4096 ∧ 0 ≤ u ∧ u ≤ 16 * 21 ∧ wr = w1.drewN q ∧ Hid (y = k / S ^ (m - j) ∧ u = sumF (addF S m cs k) m - sumF (addF S m cs k) j)) (fun _ _ iv _ => (intOf iv + 1).toNat)
      case atStart => exact ⟨m, k, q, 0, rfl, rfl, rfl, by omega, by omega, by omega, by omega, rfl, hide' ⟨by simp, by omega⟩⟩
      case round =>
        obtain ⟨j, y, q, u, rfl, rfl, rfl, hj, hy, hu0, hu1, rfl, HJ⟩ := hrel
        by_cases dj : (0 : Int) ≤ (j : Int) - 1
        · obtain ⟨i, rfl⟩ : ∃ i, j = i + 1 := ⟨j - 1, by omega⟩
          have qi : ((i + 1 : Nat) : Int) - 1 = (i : Int) := by omega
          obtain ⟨gc, oc, rfl, hc⟩ := AC.out.at (k := i) (by omega)
          obtain ⟨z, hz⟩ : ∃ z, y % S = z := ⟨_, rfl⟩
          obtain ⟨y2, hy2⟩ : ∃ y2, y / S = y2 := ⟨_, rfl⟩
          have e1 : (y : Int).tmod (S : Int) = (z : Int) := by rw [Int.tmod_eq_emod_of_nonneg (by omega), ← hz]; simp
          have e2 : (y : Int).tdiv (S : Int) = (y2 : Int) := by rw [Int.tdiv_eq_ediv_of_nonneg (by omega), ← hy2]; simp
          have y2l : y2 ≤ 4096 := by rw [← hy2]; exact Nat.le_trans (Nat.div_le_self _ _) hy
          have AF := hide' (show addF S m cs k i = cs.getD i 0 * (z : Int) by unfold addF; rw [← hz, HJ.out.1, show m - 1 - i = m - (i + 1) by omega])
          have ab := CB.out k i (by omega)
          rw [AF.out] at ab
          obtain ⟨a, ha⟩ : ∃ a, cs.getD i 0 * (z : Int) = a := ⟨_, rfl⟩
          obtain ⟨cv, hcv⟩ : ∃ cv, cs.getD i 0 = cv := ⟨_, rfl⟩
          rw [ha] at ab
          rw [hcv] at hc ha
          have NU := hide' (show u + a = sumF (addF S m cs k) m - sumF (addF S m cs k) i by rw [HJ.out.2, sumF, AF.out, hcv, ha]; omega)
          have ub : 0 ≤ u + a ∧ u + a ≤ 16 * 21 := by
            have := sumF_tail (m := m) (CB.out k) (m - i) (by omega)
            rw [show m - (m - i) = i by omega, ← NU.out] at this
            omega
          have NY := hide' (show y2 = k / S ^ (m - i) by rw [← hy2, HJ.out.1, show m - i = (m - (i + 1)) + 1 by omega, Nat.pow_succ, Nat.div_div_eq_div_mul])
          rw [qi] at dj ⊢
          clear qi hz hy2 hcv
          go_wp2
          go_quiet (fail)
          go_wp2
          exact ⟨⟨i, y2, q + nq, u + a, by go_num, rfl, rfl, by omega, y2l, ub.1, ub.2, rfl, hide' ⟨NY.out, NU.out⟩⟩, by simp [intOf]⟩
        · have j0 : j = 0 := by omega
          subst j0
          have FU := hide' (show u = sumF (addF S m cs k) m by have := HJ.out.2; rw [sumF] at this; omega)
          have e3 : u.tmod (S : Int) = u % (S : Int) := Int.tmod_eq_emod_of_nonneg hu0
          obtain ⟨r, hr⟩ : ∃ r, u % (S : Int) = r := ⟨_, rfl⟩
          rw [hr] at e3
          have rb : 0 ≤ r ∧ r < (S : Int) := by rw [← hr]; exact ⟨Int.emod_nonneg _ n2, Int.emod_lt_of_pos _ (by omega)⟩
          by_cases eq : r = v
          · have q1 : (r != v) = false := by simp [eq]
            have NK := hide' (show ∀ x, x < k + 1 → sumF (addF S m cs x) m % S = T.getD x 0 from fun x hx => by
              by_cases e : x = k
              · subst e; rw [← FU.out, hr, HV.out]; exact eq
              · exact HK.out x (by omega))
            clear hr eq
            go_wp2
            exact ⟨⟨k + 1, q, by go_num, by omega, rfl, NK⟩, by simp [intOf]; omega⟩
          · have q1 : (r != v) = true := by simp [eq]
            have NO := hide' (show ¬ ∀ x, x < T.length → sumF (addF S m cs x) m % S = T.getD x 0 from fun h => eq (by have := h k (by have := TL.out; omega); rw [← FU.out, hr, HV.out] at this; exact this))
            clear hr eq
            go_wp2
            go_ret
            exact ⟨⟨false, rfl, ⟨fun h => (by cases h), fun h => absurd h NO.out⟩⟩, below_drewN BB.out _⟩
    · have YS := hide' (show ∀ x, x < T.length → sumF (addF S m cs x) m % S = T.getD x 0 from fun x hx => HK.out x (by have := TL.out; omega))
      go_wp2
      go_ret
      exact ⟨⟨true, rfl, ⟨fun _ => YS.out, fun _ => rfl⟩⟩, below_drewN BB.out _⟩
end Go.Proofs.YtjjdjdodhedihaaDoor

