/-
  What the last text of this claim leans on, part 15: Bkc, Bkg, Bkh, In1.
-/
import Derived.Test.YtfeddccbhmbkmaaDoorZr11
import Derived.Test.YtfeddccbhmbkmaaDoorZr13
import Derived.Test.YtfeddccbhmbkmaaDoorZr8
import Derived.Test.YtfeddccbhmbkmaaDoorZr4
namespace Go.Proofs.YtfeddccbhmbkmaaDoor
open Go.RowKit
set_option linter.unusedVariables false
set_option maxRecDepth 100000 in
set_option maxHeartbeats 3200000 in
theorem refTable_any (t : List Int) (a : Option Addr) (n c : Nat) (w : World) (hP : ArgP w t a n c) : Calls Tryd.prog 22 #[.slice a n c] w fun e w' => e = .returned (.int .i64 (tabE t : Int)) ∧ w' = w := by
  have hlen := hP.len
  by_cases l16 : n = 16
  · subst l16
    have HC := hide' (fun k (hk : k < 16) => hP.cells k (by omega))
    obtain ⟨g, off, rfl, hg, -⟩ := hP.cells 0 (by omega)
    have HCC := hide' (fun k (hk : k < t.length) => show w.cell? ⟨g, off + k, none⟩ = some (.int .i64 t[k]) from by
      obtain ⟨g', off', e, hg', h⟩ := HC.out k (by omega)
      cases e
      exact h)
    have HL := hide' hlen
    clear hlen hP HC
    go_enter Tryd.func22, Tryd.ntmps22
    go_wp2
    go_loopw [3] (fun iv wr => ∃ (i : Nat), iv = .int .i64 (i : Int) ∧ i ≤ 16 ∧ wr = w ∧ Hid (∀ k (hk : k < t.length), k < i → in16 t[k] = true)) (fun iv _ => 16 - (intOf iv).toNat)
    case atStart => exact ⟨0, rfl, by omega, rfl, hide' (fun k hk h => by omega)⟩
    case round =>
      obtain ⟨i, rfl, hi, rfl, HA⟩ := hrel
      by_cases d : (i : Int) < 16
      · have il : i < 16 := by omega
        have hit : i < t.length := by have := HL.out; omega
        have ci := HCC.out i hit
        obtain ⟨x, hx⟩ : ∃ x, t[i] = x := ⟨_, rfl⟩
        rw [hx] at ci
        have HX := hide' hx
        clear hx
        by_cases x0 : x < 0
        · have TE := hide' (show tabE t = 1 from tabE_bad HL.out.symm hit (by rw [HX.out]; unfold in16; simp; omega))
          go_wp2
          go_ret
          exact ⟨by rw [TE.out]; rfl, rfl⟩
        · by_cases x16 : 15 < x
          · have TE := hide' (show tabE t = 1 from tabE_bad HL.out.symm hit (by rw [HX.out]; unfold in16; simp; omega))
            go_wp2
            go_ret
            exact ⟨by rw [TE.out]; rfl, rfl⟩
          · have TE := hide' (show in16 t[i] = true by rw [HX.out]; unfold in16; simp; omega)
            go_wp2
            exact ⟨⟨i + 1, by go_num, by omega, by simp, hide' (all_take_next hit HA.out TE.out)⟩, by simp [intOf]; omega⟩
      · have i16 : i = 16 := by omega
        subst i16
        have TE := hide' (tabE_good HL.out.symm HA.out)
        go_wp2
        go_ret
        exact ⟨by rw [TE.out]; rfl, rfl⟩
  · have TE := hide' (show tabE t = 3 by unfold tabE; rw [if_neg (by omega)])
    have nn : ((n : Int) == 16) = false := by simp; omega
    have nm : ¬ (n : Int) = 16 := by omega
    clear l16
    go_enter Tryd.func22, Tryd.ntmps22
    go_wp2
    go_ret
    exact ⟨by rw [TE.out]; rfl, rfl⟩
theorem ones4_half {m : Nat} (h : m < 16) : ones4 m = m % 2 + ones4 (m / 2) := by unfold ones4 dg; omega
theorem ones4_le (m : Nat) : ones4 m ≤ 4 := by unfold ones4; have := dg_le m 0; have := dg_le m 1; have := dg_le m 2; have := dg_le m 3; omega
set_option maxRecDepth 100000 in
theorem refOnes_any (n : Nat) (w : World) (hn : n < 16) : Calls Tryd.prog 70 #[.int .i64 (n : Int)] w fun e w' => e = .returned (.int .i64 (ones4 n : Int)) ∧ w' = w := by
  go_enter Tryd.func70, Tryd.ntmps70
  go_wp2
  go_loopw [0, 3] (fun nv kv wr => ∃ (m s : Nat), nv = .int .i64 (m : Int) ∧ kv = .int .i64 (s : Int) ∧ m < 16 ∧ wr = w ∧ Hid (ones4 n = s + ones4 m)) (fun nv _ _ => (intOf nv).toNat)
  case atStart => exact ⟨n, 0, rfl, rfl, hn, rfl, hide' (by omega)⟩
  case round =>
    obtain ⟨m, s, rfl, rfl, hm, rfl, HO⟩ := hrel
    have s4 : s ≤ 4 := by have := HO.out; have := ones4_le n; omega
    by_cases m0 : 0 < m
    · have m0i : (0 : Int) < (m : Int) := by omega
      obtain ⟨r, hr⟩ : ∃ r, m % 2 = r := ⟨_, rfl⟩
      obtain ⟨h, hh⟩ : ∃ h, m / 2 = h := ⟨_, rfl⟩
      have f1 : (m : Int) % 2 = (r : Int) := by omega
      have f2 : (m : Int) / 2 = (h : Int) := by omega
      have f3 : wrap64 (h : Int) = (h : Int) := by simp [wrap64]; omega
      have NX := hide' (show ones4 n = (s + r) + ones4 h by rw [HO.out, ones4_half hm, hr, hh]; omega)
      have hl : h < m := by omega
      have r2 : r ≤ 1 := by omega
      clear hr hh
      go_wp2
      exact ⟨⟨h, s + r, rfl, by go_num, by omega, by simp, NX⟩, by simp [intOf]; omega⟩
    · have mz : m = 0 := by omega
      subst mz
      have FI := hide' (show s = ones4 n by rw [HO.out]; simp [ones4, dg])
      go_wp2
      go_ret
      exact ⟨by rw [← FI.out]; rfl, rfl⟩
set_option maxRecDepth 100000 in
set_option maxHeartbeats 3200000 in
theorem refQuarter_any (n : Nat) (w : World) (hn : n < 16) : Calls Tryd.prog 71 #[.int .i64 (n : Int)] w fun e w' => e = .returned (.int .i64 (qtrN n : Int)) ∧ w' = w := by
  have : n = 0 ∨ n = 1 ∨ n = 2 ∨ n = 3 ∨ n = 4 ∨ n = 5 ∨ n = 6 ∨ n = 7 ∨ n = 8 ∨ n = 9 ∨ n = 10 ∨ n = 11 ∨ n = 12 ∨ n = 13 ∨ n = 14 ∨ n = 15 := by omega
  rcases this with rfl | rfl | rfl | rfl | rfl | rfl | rfl | rfl | rfl | rfl | rfl | rfl | rfl | rfl | rfl | rfl
  all_goals (
    go_enter Tryd.func71, Tryd.ntmps71
    go_wp2
    go_ret
    exact ⟨rfl, rfl⟩)
set_option maxRecDepth 100000 in
set_option maxHeartbeats 3200000 in
theorem refKeeps_any (a : Option Addr) (c : Nat) (tv : Nat → Nat) (w : World) (hT : TbB w a tv) : Calls Tryd.prog 30 #[.slice a 16 c] w fun e w' => e = .returned (.bool (keepB tv)) ∧ w' = w := by
  obtain ⟨g, off, rfl, hg, hc⟩ := hT.cells
  have HC := hide' hc
  have HL := hide' hT.lt
  clear hT hc
  go_enter Tryd.func30, Tryd.ntmps30
  go_wp2
  go_loopw [3] (fun iv wr => ∃ (i : Nat), iv = .int .i64 (i : Int) ∧ i ≤ 16 ∧ wr = w ∧ Hid (∀ j, j < i → ones4 j = ones4 (tv j))) (fun iv _ => 16 - (intOf iv).toNat)
  case atStart => exact ⟨0, rfl, by omega, rfl, hide' (fun j h => by omega)⟩
  case round =>
    obtain ⟨i, rfl, hi, rfl, HA⟩ := hrel
    by_cases d : (i : Int) < 16
    · have il : i < 16 := by omega
      have ci := HC.out i il
      have tl := HL.out i il
      have C1 := hide' (fun V => refOnes_any i V il)
      obtain ⟨x, hx⟩ : ∃ x, tv i = x := ⟨_, rfl⟩
      rw [hx] at ci tl
      have C2 := hide' (fun V => refOnes_any x V tl)
      obtain ⟨sz, hsz⟩ : ∃ s, ones4 i = s := ⟨_, rfl⟩
      obtain ⟨sy, hsy⟩ : ∃ s, ones4 x = s := ⟨_, rfl⟩
      rw [hsz] at C1
      rw [hsy] at C2
      have QI := hide' (show sz = sy ↔ ones4 i = ones4 (tv i) from by rw [hx, hsz, hsy])
      clear hx hsz hsy
      by_cases eq : sz = sy
      · have HN := hide' (show ∀ j, j < i + 1 → ones4 j = ones4 (tv j) from fun j hj => by
          by_cases ji : j = i
          · rw [ji]; exact QI.out.1 eq
          · exact HA.out j (by omega))
        have ne : ((sz : Int) == (sy : Int)) = true := by simp [eq]
        have nn : ((sz : Int) != (sy : Int)) = false := by simp [eq]
        clear eq
        go_wp2_with fail
        refine (C1.out _).mono ?_
        rintro e' u1 ⟨rfl, rfl⟩
        go_wp2_with fail
        refine (C2.out _).mono ?_
        rintro e' u2 ⟨rfl, rfl⟩
        go_wp2
        exact ⟨⟨i + 1, by go_num, by omega, by simp, HN⟩, by simp [intOf]; omega⟩
      · have KF := hide' (keep_false il (fun h => eq (QI.out.2 h)))
        have ne : ((sz : Int) == (sy : Int)) = false := by simp; omega
        have nn : ((sz : Int) != (sy : Int)) = true := by simp; omega
        clear eq
        go_wp2_with fail
        refine (C1.out _).mono ?_
        rintro e' u1 ⟨rfl, rfl⟩
        go_wp2_with fail
        refine (C2.out _).mono ?_
        rintro e' u2 ⟨rfl, rfl⟩
        go_wp2
        go_ret
        exact ⟨by rw [KF.out]; rfl, rfl⟩
    · have i16 : i = 16 := by omega
      subst i16
      have KT := hide' (keep_true HA.out)
      go_wp2
      go_ret
      exact ⟨by rw [KT.out]; rfl, rfl⟩
set_option maxRecDepth 100000 in
set_option maxHeartbeats 3200000 in
theorem refTurns_any (a : Option Addr) (c : Nat) (tv : Nat → Nat) (w : World) (hT : TbB w a tv) : Calls Tryd.prog 31 #[.slice a 16 c] w fun e w' => e = .returned (.bool (turnB tv)) ∧ w' = w := by
  obtain ⟨g, off, rfl, hg, hc⟩ := hT.cells
  have HC := hide' hc
  have HL := hide' hT.lt
  clear hT hc
  go_enter Tryd.func31, Tryd.ntmps31
  go_wp2
  go_loopw [3] (fun iv wr => ∃ (i : Nat), iv = .int .i64 (i : Int) ∧ i ≤ 16 ∧ wr = w ∧ Hid (∀ j, j < i → tv (qtrN j) = qtrN (tv j))) (fun iv _ => 16 - (intOf iv).toNat)
  case atStart => exact ⟨0, rfl, by omega, rfl, hide' (fun j h => by omega)⟩
  case round =>
    obtain ⟨i, rfl, hi, rfl, HA⟩ := hrel
    by_cases d : (i : Int) < 16
    · have il : i < 16 := by omega
      have ci := HC.out i il
      have tl := HL.out i il
      have C1 := hide' (fun V => refQuarter_any i V il)
      have q16 := qtrN_lt i
      obtain ⟨qn, hqn⟩ : ∃ q, qtrN i = q := ⟨_, rfl⟩
      rw [hqn] at C1 q16
      have cq := HC.out qn q16
      obtain ⟨x, hx⟩ : ∃ x, tv i = x := ⟨_, rfl⟩
      rw [hx] at ci tl
      have C2 := hide' (fun V => refQuarter_any x V tl)
      obtain ⟨sz, hsz⟩ : ∃ s, tv qn = s := ⟨_, rfl⟩
      obtain ⟨sy, hsy⟩ : ∃ s, qtrN x = s := ⟨_, rfl⟩
      rw [hsz] at cq
      rw [hsy] at C2
      have QI := hide' (show sz = sy ↔ tv (qtrN i) = qtrN (tv i) from by rw [hx, hqn, hsz, hsy])
      have qli : (qn : Int) < 16 := by omega
      clear hx hsz hsy hqn
      by_cases eq : sz = sy
      · have HN := hide' (show ∀ j, j < i + 1 → tv (qtrN j) = qtrN (tv j) from fun j hj => by
          by_cases ji : j = i
          · rw [ji]; exact QI.out.1 eq
          · exact HA.out j (by omega))
        have ne : ((sz : Int) == (sy : Int)) = true := by simp [eq]
        have nn : ((sz : Int) != (sy : Int)) = false := by simp [eq]
        clear eq
        go_wp2_with fail
        refine (C1.out _).mono ?_
        rintro e' u1 ⟨rfl, rfl⟩
        go_wp2_with fail
        refine (C2.out _).mono ?_
        rintro e' u2 ⟨rfl, rfl⟩
        go_wp2
        exact ⟨⟨i + 1, by go_num, by omega, by simp, HN⟩, by simp [intOf]; omega⟩
      · have KF := hide' (turn_false il (fun h => eq (QI.out.2 h)))
        have ne : ((sz : Int) == (sy : Int)) = false := by simp; omega
        have nn : ((sz : Int) != (sy : Int)) = true := by simp; omega
        clear eq
        go_wp2_with fail
        refine (C1.out _).mono ?_
        rintro e' u1 ⟨rfl, rfl⟩
        go_wp2_with fail
        refine (C2.out _).mono ?_
        rintro e' u2 ⟨rfl, rfl⟩
        go_wp2
        go_ret
        exact ⟨by rw [KF.out]; rfl, rfl⟩
    · have i16 : i = 16 := by omega
      subst i16
      have KT := hide' (turn_true HA.out)
      go_wp2
      go_ret
      exact ⟨by rw [KT.out]; rfl, rfl⟩
end Go.Proofs.YtfeddccbhmbkmaaDoor

namespace Go.Proofs.YtfeddccbhmbkmaaDoor
open Go.RowKit
set_option linter.unusedVariables false
end Go.Proofs.YtfeddccbhmbkmaaDoor

namespace Go.Proofs.YtfeddccbhmbkmaaDoor
open Go.RowKit
set_option linter.unusedVariables false
/-- The undoing table, as a list. -/
def backL (tv : Nat → Nat) : List Int := (List.range 16).map fun v => (backF tv 16 v : Int)
end Go.Proofs.YtfeddccbhmbkmaaDoor

namespace Go.Proofs.YtfeddccbhmbkmaaDoor
open Go.RowKit
set_option linter.unusedVariables false

theorem list_ne_len {xs ys : List Int} (h : xs.length ≠ ys.length) : decide (xs = ys) = false := by
  simp; intro e; exact h (by rw [e])
theorem list_ne_at {xs ys : List Int} {k : Nat} (hx : k < xs.length) (hy : k < ys.length) (h : xs[k] ≠ ys[k]) : decide (xs = ys) = false := by
  simp; intro e; subst e; exact h rfl

set_option maxHeartbeats 1600000 in
theorem Ints_any (xs ys : List Int) (a b : Option Addr) (n c m d : Nat) (w : World) (hA : ArgP w xs a n c) (hB : ArgP w ys b m d) :
    Calls Tryd.prog 27 #[.slice a n c, .slice b m d] w fun e w' => e = .returned (.bool (decide (xs = ys))) ∧ ∃ q, w' = w.drewN q := by
  have HA := hide' hA
  have HB := hide' hB
  have hlx := hA.len
  have hly := hB.len
  have hma := hA.max
  have hmb := hB.max
  have LX := hide' hlx
  have LY := hide' hly
  unfold maxLen at hma hmb
  by_cases hnm : n = m
  · subst hnm
    clear hA hB hlx hly
    have EQ := hide' (fun (h : ∀ j (h1 : j < xs.length) (h2 : j < ys.length), xs[j] = ys[j]) => show decide (xs = ys) = true by
      simp; exact List.ext_getElem (by rw [← LX.out, ← LY.out]) fun j h1 h2 => h j h1 h2)
    go_enter Tryd.func27, Tryd.ntmps27
    go_wp2
    go_loopw [5] (fun iv wr => ∃ k q : Nat, iv = .int .i64 (k : Int) ∧ k ≤ n ∧ wr = w.drewN q ∧ Hid (∀ j (h1 : j < xs.length) (h2 : j < ys.length), j < k → xs[j] = ys[j])) (fun iv _ => n - (intOf iv).toNat)
    case atStart => exact ⟨0, 0, rfl, by omega, rfl, fun j h1 h2 h => by omega⟩
    case round =>
      obtain ⟨k, q, rfl, hk, rfl, HK⟩ := hrel
      by_cases hkn : (k : Int) < (n : Int)
      · have l1 : k < xs.length := by have := LX.out; omega
        have l2 : k < ys.length := by have := LY.out; omega
        obtain ⟨ga, oa, rfl, -, c1⟩ := HA.out.cells k l1
        obtain ⟨gb, ob, rfl, -, c2⟩ := HB.out.cells k l2
        obtain ⟨x, hx⟩ : ∃ x, xs[k] = x := ⟨_, rfl⟩
        obtain ⟨y, hy⟩ : ∃ y, ys[k] = y := ⟨_, rfl⟩
        rw [hx] at c1
        rw [hy] at c2
        have HX := hide' hx
        have HY := hide' hy
        clear hx hy
        by_cases e : x = y
        · subst e
          have m1 : (x != x) = false := by simp
          go_wp2
          go_quiet (fail)
          go_wp2
          refine ⟨⟨k + 1, q + nq, by go_num, by omega, rfl, fun j h1 h2 h => ?_⟩, by simp [intOf]; omega⟩
          by_cases ej : j = k
          · subst ej; rw [HX.out, HY.out]
          · exact HK.out j h1 h2 (by omega)
        · have m1 : (x != y) = true := by simp [e]
          have F := hide' (list_ne_at l1 l2 (by rw [HX.out, HY.out]; exact e))
          clear e
          go_wp2
          go_quiet (fail)
          go_wp2
          go_ret
          exact ⟨by rw [F.out]; rfl, q + nq, by simp [World.drewN, Nat.add_assoc]⟩
      · have F := hide' (EQ.out fun j h1 h2 => HK.out j h1 h2 (by have := LX.out; omega))
        go_wp2
        go_ret
        exact ⟨by rw [F.out]; rfl, q, rfl⟩
  · have m1 : ((n : Int) != (m : Int)) = true := by simp; omega
    have F := hide' (list_ne_len (xs := xs) (ys := ys) (by rw [← hlx, ← hly]; exact hnm))
    clear hA hB hlx hly hnm
    go_enter Tryd.func27, Tryd.ntmps27
    go_wp2
    go_ret
    exact ⟨by rw [F.out]; rfl, 0, rfl⟩

set_option maxHeartbeats 1600000 in
theorem Alike_any (W H W' H' : Int) (xs ys : List Int) (a b : Option Addr) (n c m d : Nat) (w : World) (hA : ArgP w xs a n c) (hB : ArgP w ys b m d) :
    Calls Tryd.prog 12 #[.agg #[.int .i64 W, .int .i64 H, .slice a n c], .agg #[.int .i64 W', .int .i64 H', .slice b m d]] w fun e w' => e = .returned (.bool (decide (xs = ys) && (W == W') && (H == H'))) ∧ Below w.heap.size w w' := by
  have B := hide' (((Below.refl w.heap.size w).alloc (Nat.le_refl _) (.cells #[.int .i64 W, .int .i64 H, .slice a n c] 26)).alloc (by simp) (.cells #[.int .i64 W', .int .i64 H', .slice b m d] 26))
  have AA := hide' (hA.below B.out)
  have AB := hide' (hB.below B.out)
  obtain ⟨r, hr⟩ : ∃ r, decide (xs = ys) = r := ⟨_, rfl⟩
  have HR := hide' hr
  clear hA hB hr
  cases r
  · go_enter Tryd.func12, Tryd.ntmps12
    go_wp2_with fail
    refine (Ints_any xs ys a b n c m d _ AA.out AB.out).mono ?_
    rw [HR.out]
    rintro e w1 ⟨rfl, q, rfl⟩
    go_wp2
    go_ret
    exact ⟨by rw [HR.out]; simp, below_drewN B.out q⟩
  · cases e1 : (W == W')
    · go_enter Tryd.func12, Tryd.ntmps12
      go_wp2_with fail
      refine (Ints_any xs ys a b n c m d _ AA.out AB.out).mono ?_
      rw [HR.out]
      rintro e w1 ⟨rfl, q, rfl⟩
      go_wp2
      go_ret
      exact ⟨by rw [HR.out]; simp, below_drewN B.out q⟩
    · go_enter Tryd.func12, Tryd.ntmps12
      go_wp2_with fail
      refine (Ints_any xs ys a b n c m d _ AA.out AB.out).mono ?_
      rw [HR.out]
      rintro e w1 ⟨rfl, q, rfl⟩
      go_wp2
      go_ret
      exact ⟨by rw [HR.out]; simp, below_drewN B.out q⟩
end Go.Proofs.YtfeddccbhmbkmaaDoor

