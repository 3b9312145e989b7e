/-
  What the last text of this claim leans on, part 2: Sp1, Sp2, Sp3, Sp4.
-/
import Derived.Test.YtopcgkncmhhkmaaDoorChecked
import Derived.Test.YtopcgkncmhhkmaaDoorZc1
namespace Go.Proofs.YtopcgkncmhhkmaaDoor
open Go.RowKit
set_option linter.unusedVariables false
set_option linter.unusedSimpArgs false
/-- What is wrong with sides. -/
def ntF (W H : Int) (m : Nat) : Nat := if W < 1 ∨ 6 < W ∨ H < 1 ∨ 6 < H then 1 else if (m : Int) < W * H then 4 else 0
set_option maxRecDepth 100000 in
theorem refNet_any (W H : Int) (m : Nat) (w : World) (hm : m ≤ 100) : Calls Tryd.prog 5 #[.int .i64 W, .int .i64 H, .int .i64 (m : Int)] w fun e w' => e = .returned (.int .i64 (ntF W H m : Int)) ∧ w' = w := by
  go_enter Tryd.func5, Tryd.ntmps5
  by_cases w1 : W < 1
  · have F := hide' (show ntF W H m = 1 by unfold ntF; rw [if_pos (by omega)])
    go_wp2
    go_ret
    exact ⟨by rw [F.out]; rfl, rfl⟩
  · by_cases w2 : 6 < W
    · have F := hide' (show ntF W H m = 1 by unfold ntF; rw [if_pos (by omega)])
      go_wp2
      go_ret
      exact ⟨by rw [F.out]; rfl, rfl⟩
    · by_cases w3 : H < 1
      · have F := hide' (show ntF W H m = 1 by unfold ntF; rw [if_pos (by omega)])
        go_wp2
        go_ret
        exact ⟨by rw [F.out]; rfl, rfl⟩
      · by_cases w4 : 6 < H
        · have F := hide' (show ntF W H m = 1 by unfold ntF; rw [if_pos (by omega)])
          go_wp2
          go_ret
          exact ⟨by rw [F.out]; rfl, rfl⟩
        · obtain ⟨v, rfl⟩ : ∃ v : Nat, W = (v : Int) := ⟨W.toNat, by omega⟩
          obtain ⟨h, rfl⟩ : ∃ v : Nat, H = (v : Int) := ⟨H.toNat, by omega⟩
          have NF := hide' (show ntF v h m = if (m : Int) < (v : Int) * (h : Int) then 4 else 0 by unfold ntF; rw [if_neg (by omega)])
          obtain ⟨N, hN⟩ : ∃ N, v * h = N := ⟨_, rfl⟩
          have eN : (v : Int) * (h : Int) = (N : Int) := by rw [← hN]; push_cast; rfl
          have N36 : N ≤ 36 := by rw [← hN]; exact Nat.le_trans (Nat.mul_le_mul (show v ≤ 6 by omega) (show h ≤ 6 by omega)) (by decide)
          rw [eN] at NF
          clear hN
          by_cases q : (m : Int) < (N : Int)
          · rw [if_pos q] at NF
            go_wp2
            go_ret
            exact ⟨by rw [NF.out]; rfl, rfl⟩
          · rw [if_neg q] at NF
            go_wp2
            go_ret
            exact ⟨by rw [NF.out]; rfl, rfl⟩
/-- A bit of a number. -/
def btC (r x : Nat) : Nat := r / 2 ^ x % 2
set_option maxRecDepth 100000 in
set_option maxHeartbeats 3200000 in
theorem refCell_any (r x : Nat) (w : World) (hr : r < 1099511627776) (hx : x ≤ 40) : Calls Tryd.prog 29 #[.int .i64 (r : Int), .int .i64 (x : Int)] w fun e w' => e = .returned (.int .i64 (btC r x : Int)) ∧ w' = w := by
  go_enter Tryd.func29, Tryd.ntmps29
  go_wp2
  go_loopw [0, 5] (fun rv iv wr => ∃ i : Nat, rv = .int .i64 ((r / 2 ^ i : Nat) : Int) ∧ iv = .int .i64 (i : Int) ∧ i ≤ x ∧ wr = w) (fun _ iv _ => x - (intOf iv).toNat)
  case atStart => exact ⟨0, by simp, rfl, by omega, rfl⟩
  case round =>
    obtain ⟨i, rfl, rfl, hi, rfl⟩ := hrel
    have NX := hide' (show r / 2 ^ (i + 1) = r / 2 ^ i / 2 by rw [Nat.pow_succ, Nat.div_div_eq_div_mul])
    have BT := hide' (show btC r i = r / 2 ^ i % 2 from rfl)
    have le : r / 2 ^ i < 1099511627776 := Nat.lt_of_le_of_lt (Nat.div_le_self _ _) hr
    obtain ⟨u, hu⟩ : ∃ u, r / 2 ^ i = u := ⟨_, rfl⟩
    rw [hu] at NX BT le ⊢
    clear hu
    obtain ⟨u2, hu2⟩ : ∃ v, u / 2 = v := ⟨_, rfl⟩
    obtain ⟨u1, hu1⟩ : ∃ v, u % 2 = v := ⟨_, rfl⟩
    have q2 : ((u : Nat) : Int).tdiv 2 = (u2 : Int) := by rw [← hu2]; exact (Int.ofNat_tdiv u 2).symm
    have m2 : ((u : Nat) : Int).tmod 2 = (u1 : Int) := by rw [← hu1]; exact (Int.ofNat_tmod u 2).symm
    rw [hu2] at NX
    rw [hu1] at BT
    have u2l : u2 < 1099511627776 := by omega
    have u1l : u1 < 2 := by omega
    clear hu1 hu2
    by_cases d : (i : Int) < (x : Int)
    · go_wp2
      exact ⟨⟨i + 1, by rw [NX.out], by go_num, by omega, trivial⟩, by simp [intOf]; omega⟩
    · obtain rfl : i = x := by omega
      go_wp2
      go_ret
      exact ⟨by rw [BT.out]; rfl, rfl⟩
/-- How many of the first n bits differ. -/
def unB (a b : Nat) : Nat → Nat
  | 0 => 0
  | n + 1 => unB a b n + if btC a n = btC b n then 0 else 1
theorem unB_le (a b : Nat) : ∀ n, unB a b n ≤ n
  | 0 => Nat.le_refl _
  | n + 1 => by have := unB_le a b n; rw [unB]; split <;> omega
theorem unB_far {a b i : Nat} (ha : a / 2 ^ i = 0) (hb : b / 2 ^ i = 0) : ∀ d, unB a b (i + d) = unB a b i
  | 0 => rfl
  | d + 1 => by
    have h2 : ∀ x : Nat, x / 2 ^ i = 0 → btC x (i + d) = 0 := fun x hx => by
      unfold btC
      rw [Nat.pow_add, ← Nat.div_div_eq_div_mul, hx]
      simp
    rw [← Nat.add_assoc, unB, h2 a ha, h2 b hb, if_pos rfl, unB_far ha hb d]
    rfl
set_option maxRecDepth 100000 in
set_option maxHeartbeats 3200000 in
theorem refUnlike_any (a b : Nat) (w : World) (ha : a < 1099511627776) (hb : b < 1099511627776) : Calls Tryd.prog 19 #[.int .i64 (a : Int), .int .i64 (b : Int)] w fun e w' => e = .returned (.int .i64 (unB a b 40 : Int)) ∧ w' = w := by
  have ZZ := hide' (show ∀ x : Nat, x < 1099511627776 → x / 2 ^ 40 = 0 from fun x h => Nat.div_eq_of_lt (by exact h))
  have HA := hide' ha
  have HB := hide' hb
  go_enter Tryd.func19, Tryd.ntmps19
  go_wp2
  go_loopw [0, 1, 5] (fun av bv nv wr => ∃ i : Nat, av = .int .i64 ((a / 2 ^ i : Nat) : Int) ∧ bv = .int .i64 ((b / 2 ^ i : Nat) : Int) ∧ nv = .int .i64 ((unB a b i : Nat) : Int) ∧ i ≤ 40 ∧ wr = w) (fun av bv _ _ => (intOf av).toNat + (intOf bv).toNat)
  case atStart => exact ⟨0, by simp, by simp, rfl, by omega, rfl⟩
  case round =>
    obtain ⟨i, rfl, rfl, rfl, hi, rfl⟩ := hrel
    have NA := hide' (show a / 2 ^ (i + 1) = a / 2 ^ i / 2 by rw [Nat.pow_succ, Nat.div_div_eq_div_mul])
    have NB := hide' (show b / 2 ^ (i + 1) = b / 2 ^ i / 2 by rw [Nat.pow_succ, Nat.div_div_eq_div_mul])
    have UN := hide' (show unB a b (i + 1) = unB a b i + if a / 2 ^ i % 2 = b / 2 ^ i % 2 then 0 else 1 from rfl)
    have UF := hide' (fun (h1 : a / 2 ^ i = 0) (h2 : b / 2 ^ i = 0) => show unB a b 40 = unB a b i by have := unB_far h1 h2 (40 - i); rw [show i + (40 - i) = 40 by omega] at this; exact this)
    have I4 := hide' (fun (h : i = 40) => show a / 2 ^ i = 0 ∧ b / 2 ^ i = 0 by rw [h]; exact ⟨ZZ.out a HA.out, ZZ.out b HB.out⟩)
    have la : a / 2 ^ i < 1099511627776 := Nat.lt_of_le_of_lt (Nat.div_le_self _ _) ha
    have lb : b / 2 ^ i < 1099511627776 := Nat.lt_of_le_of_lt (Nat.div_le_self _ _) hb
    have nl := unB_le a b i
    obtain ⟨n, hn⟩ : ∃ n, unB a b i = n := ⟨_, rfl⟩
    obtain ⟨u, hu⟩ : ∃ u, a / 2 ^ i = u := ⟨_, rfl⟩
    obtain ⟨v, hv⟩ : ∃ u, b / 2 ^ i = u := ⟨_, rfl⟩
    rw [hu] at NA la
    rw [hv] at NB lb
    rw [hn, hu, hv] at UN
    rw [hn, hu, hv] at UF
    rw [hu, hv] at I4
    rw [hn] at nl
    rw [hu, hv, hn]
    clear hu hv hn ha hb
    obtain ⟨u2, hu2⟩ : ∃ x, u / 2 = x := ⟨_, rfl⟩
    obtain ⟨u1, hu1⟩ : ∃ x, u % 2 = x := ⟨_, rfl⟩
    obtain ⟨v2, hv2⟩ : ∃ x, v / 2 = x := ⟨_, rfl⟩
    obtain ⟨v1, hv1⟩ : ∃ x, v % 2 = x := ⟨_, rfl⟩
    have qu : ((u : Nat) : Int).tdiv 2 = (u2 : Int) := by rw [← hu2]; exact (Int.ofNat_tdiv u 2).symm
    have mu : ((u : Nat) : Int).tmod 2 = (u1 : Int) := by rw [← hu1]; exact (Int.ofNat_tmod u 2).symm
    have qv : ((v : Nat) : Int).tdiv 2 = (v2 : Int) := by rw [← hv2]; exact (Int.ofNat_tdiv v 2).symm
    have mv : ((v : Nat) : Int).tmod 2 = (v1 : Int) := by rw [← hv1]; exact (Int.ofNat_tmod v 2).symm
    rw [hu2] at NA
    rw [hv2] at NB
    rw [hu1, hv1] at UN
    have lt : 0 < u ∨ 0 < v → u2 + v2 < u + v := fun h => by omega
    have u2l : u2 < 1099511627776 := by omega
    have v2l : v2 < 1099511627776 := by omega
    have u1l : u1 < 2 := by omega
    have v1l : v1 < 2 := by omega
    have LT := hide' lt
    have HU := hide' (And.intro hu1 hu2)
    clear hu1 hu2 hv1 hv2 lt
    by_cases d : u = 0 ∧ v = 0
    · obtain ⟨rfl, rfl⟩ := d
      have E := hide' (UF.out rfl rfl)
      go_wp2
      go_ret
      exact ⟨by rw [E.out]; rfl, rfl⟩
    · have i4 : i < 40 := by
        rcases Nat.lt_or_ge i 40 with q | q
        · exact q
        · exact absurd (I4.out (by omega)) d
      have dd : 0 < u ∨ 0 < v := by omega
      have ll := LT.out dd
      by_cases du : (0 : Int) < (u : Int)
      · by_cases q : u1 = v1
        · rw [if_pos q] at UN
          subst q
          clear d dd
          go_wp2
          exact ⟨⟨i + 1, by rw [NA.out], by rw [NB.out], by rw [UN.out]; rfl, by omega, trivial⟩, by simp [intOf]; omega⟩
        · rw [if_neg q] at UN
          have qb : ((u1 : Int) == (v1 : Int)) = false := by simp; omega
          have qi : ¬ (u1 : Int) = (v1 : Int) := by omega
          clear d dd
          go_wp2
          exact ⟨⟨i + 1, by rw [NA.out], by rw [NB.out], by rw [UN.out]; go_num, by omega, trivial⟩, by simp [intOf]; omega⟩
      · have dv : (0 : Int) < (v : Int) := by omega
        obtain rfl : u = 0 := by omega
        have a1 : u1 = 0 := by rw [← HU.out.1]
        have a2 : u2 = 0 := by rw [← HU.out.2]
        subst a1 a2
        clear qu mu HU du
        by_cases q : 0 = v1
        · rw [if_pos q] at UN
          subst q
          clear d dd
          go_wp2
          exact ⟨⟨i + 1, by rw [NA.out]; rfl, by rw [NB.out], by rw [UN.out]; rfl, by omega, trivial⟩, by simp [intOf]; omega⟩
        · rw [if_neg q] at UN
          obtain rfl : v1 = 1 := by omega
          clear d dd q
          go_wp2
          exact ⟨⟨i + 1, by rw [NA.out]; rfl, by rw [NB.out], by rw [UN.out]; go_num, by omega, trivial⟩, by simp [intOf]; omega⟩
end Go.Proofs.YtopcgkncmhhkmaaDoor

namespace Go.Proofs.YtopcgkncmhhkmaaDoor
open Go.RowKit
set_option linter.unusedVariables false
set_option linter.unusedSimpArgs false
/-- How many of the first pairs of a row are unlike. -/
def wiB (r W : Nat) : Nat → Nat
  | 0 => 0
  | x + 1 => wiB r W x + if btC r x = btC r ((x + 1) % W) then 0 else 1
theorem wiB_le (r W : Nat) : ∀ x, wiB r W x ≤ x
  | 0 => Nat.le_refl _
  | x + 1 => by have := wiB_le r W x; rw [wiB]; split <;> omega
def wiN (W r : Nat) (ring : Bool) : Nat := wiB r W (if ring = true then W else W - 1)
set_option maxRecDepth 100000 in
set_option maxHeartbeats 6400000 in
theorem refWithin_any (W r : Nat) (ring : Bool) (w : World) (hW1 : 1 ≤ W) (hW : W ≤ 6) (hr : r < 1099511627776) : Calls Tryd.prog 18 #[.int .i64 (W : Int), .int .i64 (r : Int), .bool ring] w fun e w' => e = .returned (.int .i64 (wiN W r ring : Int)) ∧ w' = w := by
  have CE := hide' (fun (x : Nat) (V : World) (hx : x ≤ 40) => refCell_any r x V hr hx)
  obtain ⟨W', eW⟩ : ∃ v, W - 1 = v := ⟨_, rfl⟩
  have EW : (W : Int) - 1 = (W' : Int) := by omega
  have WZ : ((W : Int) == 0) = false := by simp; omega
  have WN : ¬ W = 0 := by omega
  unfold wiN
  rw [eW]
  go_enter Tryd.func18, Tryd.ntmps18
  cases ring with
  | true =>
    rw [if_pos rfl]
    go_wp2
    go_loopw [7, 8, 9, 10] (fun nv xv _ _ wr => ∃ x : Nat, nv = .int .i64 ((wiB r W x : Nat) : Int) ∧ xv = .int .i64 (x : Int) ∧ x ≤ W ∧ x ≤ W ∧ wr = w) (fun _ xv _ _ _ => W - (intOf xv).toNat)
    case atStart => exact ⟨0, rfl, rfl, by omega, by omega, rfl⟩
    case round =>
      obtain ⟨x, rfl, rfl, hx, hx2, rfl⟩ := hrel
      have nl := wiB_le r W x
      have NX := hide' (show wiB r W (x + 1) = wiB r W x + if btC r x = btC r ((x + 1) % W) then 0 else 1 from rfl)
      obtain ⟨y, hy⟩ : ∃ y, (x + 1) % W = y := ⟨_, rfl⟩
      have yl : y < W := by rw [← hy]; exact Nat.mod_lt _ (by omega)
      obtain ⟨X, hX⟩ : ∃ X, x + 1 = X := ⟨_, rfl⟩
      have eX : (x : Int) + 1 = (X : Int) := by omega
      have ty : ((X : Nat) : Int).tmod (W : Int) = (y : Int) := by rw [← hy, hX]; exact (Int.ofNat_tmod X W).symm
      rw [hy] at NX
      obtain ⟨n, hn⟩ : ∃ n, wiB r W x = n := ⟨_, rfl⟩
      have HN := hide' hn
      rw [hn] at NX nl ⊢
      clear hn hy
      by_cases d : (x : Int) < (W : Int)
      · by_cases q : (x : Int) = (W' : Int)
        · have qb : ((x : Int) == (W' : Int)) = true := by simp; omega
          have QH := hide' q
          clear q
          go_wp2_with fail
          refine (CE.out x wr (by omega)).mono ?_
          rintro o w3 ⟨rfl, rfl⟩
          go_wp2_with fail
          refine (CE.out y w3 (by omega)).mono ?_
          rintro o w4 ⟨rfl, rfl⟩
          obtain ⟨p, hp⟩ : ∃ p, btC r x = p := ⟨_, rfl⟩
          obtain ⟨s, hs⟩ : ∃ p, btC r y = p := ⟨_, rfl⟩
          rw [hp, hs] at NX
          rw [hp, hs]
          have BL := hide' (And.intro hp hs)
          clear hp hs
          by_cases e : p = s
          · subst e
            rw [if_pos rfl] at NX
            go_wp2
            exact ⟨⟨x + 1, by rw [NX.out]; rfl, by go_num, by omega, by omega, trivial⟩, by simp [intOf]; omega⟩
          · rw [if_neg e] at NX
            have eb : ((p : Int) == (s : Int)) = false := by simp; omega
            have ei : ¬ (p : Int) = (s : Int) := by omega
            go_wp2
            exact ⟨⟨x + 1, by rw [NX.out]; go_num, by go_num, by omega, by omega, trivial⟩, by simp [intOf]; omega⟩
        · have qb : ((x : Int) == (W' : Int)) = false := by simp; omega
          go_wp2_with fail
          refine (CE.out x wr (by omega)).mono ?_
          rintro o w3 ⟨rfl, rfl⟩
          go_wp2_with fail
          refine (CE.out y w3 (by omega)).mono ?_
          rintro o w4 ⟨rfl, rfl⟩
          obtain ⟨p, hp⟩ : ∃ p, btC r x = p := ⟨_, rfl⟩
          obtain ⟨s, hs⟩ : ∃ p, btC r y = p := ⟨_, rfl⟩
          rw [hp, hs] at NX
          rw [hp, hs]
          have BL := hide' (And.intro hp hs)
          clear hp hs
          by_cases e : p = s
          · subst e
            rw [if_pos rfl] at NX
            go_wp2
            exact ⟨⟨x + 1, by rw [NX.out]; rfl, by go_num, by omega, by omega, trivial⟩, by simp [intOf]; omega⟩
          · rw [if_neg e] at NX
            have eb : ((p : Int) == (s : Int)) = false := by simp; omega
            have ei : ¬ (p : Int) = (s : Int) := by omega
            go_wp2
            exact ⟨⟨x + 1, by rw [NX.out]; go_num, by go_num, by omega, by omega, trivial⟩, by simp [intOf]; omega⟩
      · obtain rfl : x = W := by omega
        go_wp2
        go_ret
        exact ⟨by rw [HN.out]; rfl, rfl⟩
  | false =>
    rw [if_neg (by decide)]
    go_wp2
    go_loopw [7, 8, 9, 10] (fun nv xv _ _ wr => ∃ x : Nat, nv = .int .i64 ((wiB r W x : Nat) : Int) ∧ xv = .int .i64 (x : Int) ∧ x ≤ W ∧ x ≤ W' ∧ wr = w) (fun _ xv _ _ _ => W - (intOf xv).toNat)
    case atStart => exact ⟨0, rfl, rfl, by omega, by omega, rfl⟩
    case round =>
      obtain ⟨x, rfl, rfl, hx, hx2, rfl⟩ := hrel
      have nl := wiB_le r W x
      have NX := hide' (show wiB r W (x + 1) = wiB r W x + if btC r x = btC r ((x + 1) % W) then 0 else 1 from rfl)
      obtain ⟨y, hy⟩ : ∃ y, (x + 1) % W = y := ⟨_, rfl⟩
      have yl : y < W := by rw [← hy]; exact Nat.mod_lt _ (by omega)
      obtain ⟨X, hX⟩ : ∃ X, x + 1 = X := ⟨_, rfl⟩
      have eX : (x : Int) + 1 = (X : Int) := by omega
      have ty : ((X : Nat) : Int).tmod (W : Int) = (y : Int) := by rw [← hy, hX]; exact (Int.ofNat_tmod X W).symm
      rw [hy] at NX
      obtain ⟨n, hn⟩ : ∃ n, wiB r W x = n := ⟨_, rfl⟩
      have HN := hide' hn
      rw [hn] at NX nl ⊢
      clear hn hy
      by_cases q : (x : Int) = (W' : Int)
      · obtain rfl : x = W' := by omega
        have d : (x : Int) < (W : Int) := by omega
        go_wp2
        go_ret
        exact ⟨by rw [HN.out]; rfl, rfl⟩
      · have qb : ((x : Int) == (W' : Int)) = false := by simp; omega
        have d : (x : Int) < (W : Int) := by omega
        go_wp2_with fail
        refine (CE.out x wr (by omega)).mono ?_
        rintro o w3 ⟨rfl, rfl⟩
        go_wp2_with fail
        refine (CE.out y w3 (by omega)).mono ?_
        rintro o w4 ⟨rfl, rfl⟩
        obtain ⟨p, hp⟩ : ∃ p, btC r x = p := ⟨_, rfl⟩
        obtain ⟨s, hs⟩ : ∃ p, btC r y = p := ⟨_, rfl⟩
        rw [hp, hs] at NX
        rw [hp, hs]
        have BL := hide' (And.intro hp hs)
        clear hp hs
        by_cases e : p = s
        · subst e
          rw [if_pos rfl] at NX
          go_wp2
          exact ⟨⟨x + 1, by rw [NX.out]; rfl, by go_num, by omega, by omega, trivial⟩, by simp [intOf]; omega⟩
        · rw [if_neg e] at NX
          have eb : ((p : Int) == (s : Int)) = false := by simp; omega
          have ei : ¬ (p : Int) = (s : Int) := by omega
          go_wp2
          exact ⟨⟨x + 1, by rw [NX.out]; go_num, by go_num, by omega, by omega, trivial⟩, by simp [intOf]; omega⟩
end Go.Proofs.YtopcgkncmhhkmaaDoor

namespace Go.Proofs.YtopcgkncmhhkmaaDoor
set_option linter.unusedVariables false
/-- Two cells stand side by side (with corners: or meet there), or are the same. -/
def nbD (W : Nat) (cor : Bool) (a b : Nat) : Bool :=
  decide (a % W ≤ b % W + 1) && decide (b % W ≤ a % W + 1) && decide (a / W ≤ b / W + 1) && decide (b / W ≤ a / W + 1) && (cor || decide (a % W = b % W) || decide (a / W = b / W))
def anyD (f : Nat → Bool) : Nat → Bool
  | 0 => false
  | k + 1 => anyD f k || f k
theorem any_ext {f g : Nat → Bool} : ∀ {k : Nat}, (∀ j, j < k → f j = g j) → anyD f k = anyD g k
  | 0, _ => rfl
  | k + 1, h => by rw [anyD, anyD, any_ext (fun j hj => h j (by omega)), h k (by omega)]
theorem any_iff {f : Nat → Bool} : ∀ {k : Nat}, anyD f k = true ↔ ∃ j, j < k ∧ f j = true
  | 0 => by simp [anyD]
  | k + 1 => by
    rw [anyD, Bool.or_eq_true, any_iff]
    constructor
    · rintro (⟨j, hj, h⟩ | h)
      · exact ⟨j, by omega, h⟩
      · exact ⟨k, by omega, h⟩
    · rintro ⟨j, hj, h⟩
      by_cases e : j = k
      · subst e; exact Or.inr h
      · exact Or.inl ⟨j, by omega, h⟩
/-- Who is wet behind t steps: of one set; of all at once. -/
def wetS (W N : Nat) (cor : Bool) (st inS : Nat → Bool) : Nat → Nat → Bool
  | 0, i => st i && inS i
  | t + 1, i => inS i && anyD (fun j => nbD W cor i j && wetS W N cor st inS t j) N
end Go.Proofs.YtopcgkncmhhkmaaDoor

namespace Go.Proofs.YtopcgkncmhhkmaaDoor
set_option linter.unusedVariables false
end Go.Proofs.YtopcgkncmhhkmaaDoor

