/-
  What the last text of this claim leans on, part 23: LawWpB, LawWp, LawWy, As, Err, OpenP.
-/
import Derived.Test.YthmeapplnocfjaaDoorZp22
import Derived.Test.YthmeapplnocfjaaDoorZp21
import Derived.Test.YthmeapplnocfjaaDoorProg
import Derived.Test.YthmeapplnocfjaaDoorZp1
import Derived.Test.YthmeapplnocfjaaDoorRows
import Derived.Test.YthmeapplnocfjaaDoorCards
import Derived.Test.YthmeapplnocfjaaDoorTie
import Derived.WalkKit
import Derived.LaidEql
import Derived.Stop.Asserts
import Derived.RowKitTokens
import Derived.WalkSpells
import Derived.WalkLawsBesides
import Derived.ProofKit
import Derived.OpenShut
import Derived.ChangeSame
import Derived.ChangeSlices
import Derived.ChangeVars
import Derived.JoinedOf
import Derived.RowKit
import Derived.LaidLaws
import Derived.LaidHandle
import Derived.LaidSub
import Derived.Lay
import Derived.Carry
import Derived.Stop.Joined
import Derived.SevenTiedAt
namespace Go.Proofs.YthmeapplnocfjaaDoor
open Go.RowKit
set_option linter.unusedVariables false
set_option linter.unusedSimpArgs false
set_option maxRecDepth 100000 in
set_option maxHeartbeats 102400000 in
theorem law_wp_in (xs : List TlT) (a : Option Addr) (n c : Nat) (most W H rt dn : Int) (zs : List Int) (za : Option Addr) (zn zc : Nat) (w : World) (hA : ArgT w xs a n c) (hZ : ArgP w zs za zn zc) (hr : (1 ≤ W ∧ W ≤ 5 ∧ 1 ≤ H ∧ H ≤ 5 ∧ 0 ≤ rt ∧ rt ≤ 1000000 ∧ 0 ≤ dn ∧ dn ≤ 1000000))
    (hD : ∀ (ys : List TlT) (b : Option Addr) (m d : Nat) (M : Int) (V : World), Below w.heap.size w V → ArgT V ys b m d → Calls Tryd.prog 17 #[.slice b m d, .int .i64 M] V (WdA ys m M V))
    (hF : ∀ (X Y : Int) (ys : List Int) (b : Option Addr) (m d : Nat) (ring : Bool) (V : World), Below w.heap.size w V → ArgP V ys b m d → Calls Tryd.prog 11 #[.slice a n c, .int .i64 X, .int .i64 Y, .slice b m d, .bool ring] V fun e w' => FtA xs n X Y ys ring e ∧ Below V.heap.size V w') :
    Calls Tryd.prog 5 #[.slice a n c, .int .i64 most, .int .i64 W, .int .i64 H, .int .i64 rt, .int .i64 dn, .slice za zn zc] w fun e w' => e = .returned (.bool true) ∧ Below w.heap.size w w' := by
  have KL := hide' hA.len
  have D1 := hide' (hD oneT (some ⟨w.heap.size, 0, none⟩) 1 1 1 _ ((Below.refl _ _).alloc (Nat.le_refl _) _) (argT_one w))
  have DD := hide' (fun (V : World) (h : Below w.heap.size w V) => hD xs a n c most V h (hA.below h))
  have FF := hide' hF
  have HZ := hide' hZ
  obtain ⟨i0, hi, hzz⟩ := Option.map_eq_some_iff.1 infoP
  simp only [Prod.mk.injEq] at hzz
  obtain ⟨hz0, hz1, hz2⟩ := hzz
  have HI := hide' (And.intro hi (And.intro hz0 (And.intro hz1 hz2)))
  clear hA hZ hD hF hi hz0 hz1 hz2
  go_enter Tryd.func5, Tryd.ntmps5
  go_wp2_with fail
  refine D1.out.mono ?_
  intro e w1 r1
  obtain ⟨⟨a1, c1, rfl⟩, b1⟩ := one_dec r1
  have B1 := hide' (show Below w.heap.size w w1 from ((Below.refl _ w).alloc (Nat.le_refl _) _).trans (b1.mono (by simp)))
  clear b1 r1 D1
  go_wp2_with fail
  obtain ⟨V1, hV1⟩ : ∃ V, w1.alloc (.cells #[.bool true, .int .i64 1, .int .i64 1, .slice a1 1 c1] 40) = V := ⟨_, rfl⟩
  have BV1 := hide' (show Below w.heap.size w V1 by rw [← hV1]; exact B1.out.alloc B1.out.size _)
  try rw [hV1]
  clear hV1 B1
  refine (DD.out V1 BV1.out).mono ?_
  intro e w2 r2
  rcases r2 with ⟨q, a2, n2, c2, rfl, A2, b2⟩ | ⟨q, hl, a2, n2, c2, rfl, A2, b2⟩ | ⟨q, s, hs, a2, n2, c2, rfl, A2, b2⟩ | ⟨q, v, h, d, ht, hd, a2, n2, c2, rfl, A2, b2⟩
  · have B2 := hide' (BV1.out.trans (b2.out.mono BV1.out.size))
    rw [show errOf (sdF xs most most) = .iface 49 (.int .i64 ((sdF xs most most : Nat) : Int)) by unfold errOf; rw [if_neg q]]
    clear b2 A2 q
    obtain ⟨V2, hV2⟩ : ∃ V, w2.alloc (.cells #[.bool false, .int .i64 0, .int .i64 0, .slice a2 n2 c2] 40) = V := ⟨_, rfl⟩
    have BV2 := hide' (show Below w.heap.size w V2 by rw [← hV2]; exact B2.out.alloc B2.out.size _)
    go_wp2
    go_ret
    exact ⟨rfl, by first | (rw [hV2]; exact BV2.out) | exact BV2.out⟩
  · have B2 := hide' (BV1.out.trans (b2.out.mono BV1.out.size))
    rw [show errOf 6 = .iface 49 (.int .i64 6) from rfl]
    clear b2 A2 q hl
    obtain ⟨V2, hV2⟩ : ∃ V, w2.alloc (.cells #[.bool false, .int .i64 0, .int .i64 0, .slice a2 n2 c2] 40) = V := ⟨_, rfl⟩
    have BV2 := hide' (show Below w.heap.size w V2 by rw [← hV2]; exact B2.out.alloc B2.out.size _)
    go_wp2
    go_ret
    exact ⟨rfl, by first | (rw [hV2]; exact BV2.out) | exact BV2.out⟩
  · have B2 := hide' (BV1.out.trans (b2.out.mono BV1.out.size))
    have NN := hide' hs.2.2.2.2
    clear b2 A2 q hs
    obtain ⟨V2, hV2⟩ : ∃ V, w2.alloc (.cells #[.bool false, .int .i64 ((s : Nat) : Int), .int .i64 ((s : Nat) : Int), .slice a2 n2 c2] 40) = V := ⟨_, rfl⟩
    have BV2 := hide' (show Below w.heap.size w V2 by rw [← hV2]; exact B2.out.alloc B2.out.size _)
    have P2 : V2.heap[w2.heap.size]? = some (.cells #[.bool false, .int .i64 ((s : Nat) : Int), .int .i64 ((s : Nat) : Int), .slice a2 n2 c2] 40 (0, 0)) := by rw [← hV2]; exact heap_alloc_new _ _
    have y0 : V2.cell? ⟨w2.heap.size, 0, none⟩ = some (.bool false) := by rw [cell_of_row V2 _ _ _ _ _ P2]; rfl
    have y1 : V2.cell? ⟨w2.heap.size, 1, none⟩ = some (.int .i64 ((s : Nat) : Int)) := by rw [cell_of_row V2 _ _ _ _ _ P2]; rfl
    have y2 : V2.cell? ⟨w2.heap.size, 2, none⟩ = some (.int .i64 ((s : Nat) : Int)) := by rw [cell_of_row V2 _ _ _ _ _ P2]; rfl
    have FC := hide' (FF.out (s : Int) (s : Int) zs za zn zc false V2 BV2.out (HZ.out.below BV2.out))
    clear P2
    go_wp2_with fail
    try rw [hV2]
    refine FC.out.mono ?_
    rintro e w3 ⟨r3, b3⟩
    have B3 := hide' (BV2.out.trans (b3.mono BV2.out.size))
    have RR := hide' (fits_no NN.out r3)
    clear b3 r3 y0 y1 y2 hV2
    rcases RR.out with ⟨b, f, hf, rfl⟩ | rfl
    · clear hf RR
      go_wp2
      go_ret
      exact ⟨rfl, B3.out⟩
    · clear RR
      go_wp2
      go_ret
      exact ⟨rfl, B3.out⟩
  · have B2 := hide' (BV1.out.trans (b2.out.mono BV1.out.size))
    obtain ⟨t0, nn1, n16, ms, mu, eM, eM', m1, m5, -, -⟩ := sdF_ok q
    have HT := hide' ht
    have v1 : 1 ≤ v ∧ v ≤ 5 ∧ 1 ≤ h ∧ h ≤ 5 := by
      obtain ⟨s, q1, q2, q3, q4, q5, q6, q7, q8, q9, q10⟩ := ht
      rw [eM, Int.toNat_natCast] at q2
      omega
    obtain ⟨v1, v5, h1, h5⟩ := v1
    have hv : 0 < v := by omega
    have hh : 0 < h := by omega
    have SOL := hide' hd.1
    have LN := hide' A2.out.len
    obtain ⟨N, hN⟩ : ∃ N, v * h = N := ⟨_, rfl⟩
    have n2N : n2 = N := by rw [LN.out, ← hN]; simp
    have N25 : N ≤ 25 := by rw [← hN]; exact Nat.le_trans (Nat.mul_le_mul v5 h5) (by decide)
    have eN : ((v : Nat) : Int) * ((h : Nat) : Int) = (N : Int) := by rw [← hN]; push_cast; rfl
    subst n2N
    clear ht hd q eM eM' m1 m5 LN
    obtain ⟨V2, hV2⟩ : ∃ V, w2.alloc (.cells #[.bool true, .int .i64 ((v : Nat) : Int), .int .i64 ((h : Nat) : Int), .slice a2 n2 c2] 40) = V := ⟨_, rfl⟩
    have bv2 : Below w2.heap.size w2 V2 := by rw [← hV2]; exact (Below.refl _ _).alloc (Nat.le_refl _) _
    have BV2 := hide' (B2.out.trans (bv2.mono B2.out.size))
    have A22 := hide' (A2.out.below bv2)
    have P2 := hide' (show V2.heap[w2.heap.size]? = some (.cells #[.bool true, .int .i64 ((v : Nat) : Int), .int .i64 ((h : Nat) : Int), .slice a2 n2 c2] 40 (0, 0)) by rw [← hV2]; exact heap_alloc_new _ _)
    obtain ⟨p, hp⟩ : ∃ p, w2.heap.size = p := ⟨_, rfl⟩
    have CP := hide' (fun (V : World) (b : Below V2.heap.size V2 V) => show V.cell? ⟨p, 0, none⟩ = some (.bool true) ∧ V.cell? ⟨p, 1, none⟩ = some (.int .i64 ((v : Nat) : Int)) ∧ V.cell? ⟨p, 2, none⟩ = some (.int .i64 ((h : Nat) : Int)) ∧ V.cell? ⟨p, 3, none⟩ = some (.slice a2 n2 c2) by
      have P3 := blkP P2.out b
      rw [hp] at P3
      exact ⟨by rw [cell_of_row V _ _ _ _ _ P3]; rfl, by rw [cell_of_row V _ _ _ _ _ P3]; rfl, by rw [cell_of_row V _ _ _ _ _ P3]; rfl, by rw [cell_of_row V _ _ _ _ _ P3]; rfl⟩)
    obtain ⟨y0, y1, y2, y3⟩ := CP.out V2 (Below.refl _ _)
    have HN := hide' hN
    clear hN bv2 A2 b2
    have nb : ((n2 : Int) == (n2 : Int)) = true := by simp
    obtain ⟨r1, r2, r3, r4, r5', r6, r7, r8⟩ := hr
    obtain ⟨x5, rfl⟩ : ∃ x : Nat, W = (x : Int) := ⟨W.toNat, by omega⟩
    obtain ⟨y5, rfl⟩ : ∃ x : Nat, H = (x : Int) := ⟨H.toNat, by omega⟩
    obtain ⟨r5, rfl⟩ : ∃ x : Nat, rt = (x : Int) := ⟨rt.toNat, by omega⟩
    obtain ⟨d5, rfl⟩ : ∃ x : Nat, dn = (x : Int) := ⟨dn.toNat, by omega⟩
    have WF := hide' (fun N' K => win_fits (xs := xs) (n := n) (v := v) (h := h) (W := x5) (rt := r5) (dn := d5) hv hh (by omega) SOL.out N' K)
    go_wp2
    try rw [hV2]
    try rw [hp]
    clear hV2 y0 y1 y2 y3
    go_loopw [22, 23, 24, 25] (fun sv yv _ _ wr => ∃ y : Nat, yv = .int .i64 (y : Int) ∧ y ≤ y5 ∧ Hid (wr.ownsRow V2.heap.size 3 1 sv (y * x5) (wnL (winW d v h x5 r5 d5) (y * x5))) ∧ Hid (Below V2.heap.size V2 wr)) (fun _ yv _ _ _ => y5 - (intOf yv).toNat)
    case atStart => exact ⟨0, rfl, by omega, hide' (by rw [Nat.zero_mul]; exact World.ownsRow_nil _ _ _ _), hide' (Below.refl _ _)⟩
    case round =>
      obtain ⟨y, rfl, hy, OW, BW⟩ := hrel
      by_cases e : (y : Int) < (y5 : Int)
      · go_wp2
        obtain ⟨VV, rfl⟩ : ∃ VV, VV = wr := ⟨_, rfl⟩
        go_loopw [22, 24, 25] (fun sv xv _ wr => ∃ x : Nat, xv = .int .i64 (x : Int) ∧ x ≤ x5 ∧ Hid (wr.ownsRow V2.heap.size 3 1 sv (y * x5 + x) (wnL (winW d v h x5 r5 d5) (y * x5 + x))) ∧ Hid (Below V2.heap.size V2 wr)) (fun _ xv _ _ => x5 - (intOf xv).toNat)
        case atStart => exact ⟨0, rfl, by omega, by rw [Nat.add_zero]; exact OW, BW⟩
        case round =>
          obtain ⟨x, rfl, hx, OX, BX'⟩ := hrel
          by_cases f : (x : Int) < (x5 : Int)
          · obtain ⟨u0, u1, u2, u3⟩ := CP.out wr BX'.out
            obtain ⟨A, hA1⟩ : ∃ A, d5 + y = A := ⟨_, rfl⟩
            obtain ⟨B, hB1⟩ : ∃ B, r5 + x = B := ⟨_, rfl⟩
            obtain ⟨A', hA2⟩ : ∃ A', A % h = A' := ⟨_, rfl⟩
            obtain ⟨B', hB2⟩ : ∃ B', B % v = B' := ⟨_, rfl⟩
            have Al : A' < h := by rw [← hA2]; exact Nat.mod_lt _ hh
            have Bl : B' < v := by rw [← hB2]; exact Nat.mod_lt _ hv
            obtain ⟨k0, hk0⟩ : ∃ k0, A' * v = k0 := ⟨_, rfl⟩
            obtain ⟨k1, hk1⟩ : ∃ k1, k0 + B' = k1 := ⟨_, rfl⟩
            have k1l : k1 < n2 := by rw [← hk1, ← hk0, ← HN.out]; exact place_lt Bl Al
            have eA : (d5 : Int) + (y : Int) = (A : Int) := by omega
            have eB : (r5 : Int) + (x : Int) = (B : Int) := by omega
            have tA : ((A : Nat) : Int).tmod (h : Int) = (A' : Int) := by rw [← hA2]; exact (Int.ofNat_tmod A h).symm
            have tB : ((B : Nat) : Int).tmod (v : Int) = (B' : Int) := by rw [← hB2]; exact (Int.ofNat_tmod B v).symm
            have mA : ((A' : Nat) : Int) * (v : Int) = (k0 : Int) := by rw [← hk0]; push_cast; rfl
            have e1 : (k0 : Int) + (B' : Int) = (k1 : Int) := by omega
            have wA : IntKind.i64.wrap (A : Int) = (A : Int) := wrapW (by omega)
            have wB : IntKind.i64.wrap (B : Int) = (B : Int) := wrapW (by omega)
            have wA' : IntKind.i64.wrap (A' : Int) = (A' : Int) := wrapW (by omega)
            have wB' : IntKind.i64.wrap (B' : Int) = (B' : Int) := wrapW (by omega)
            have wk0 : IntKind.i64.wrap (k0 : Int) = (k0 : Int) := wrapW (by omega)
            have wk1 : IntKind.i64.wrap (k1 : Int) = (k1 : Int) := wrapW (by omega)
            have hz : ((h : Int) == 0) = false := by simp; omega
            have vz : ((v : Int) == 0) = false := by simp; omega
            have vzn : ¬ v = 0 := by omega
            have hzn : ¬ h = 0 := by omega
            have k10 : (0 : Int) ≤ (k1 : Int) := by omega
            have k1N : (k1 : Int) < (n2 : Int) := by omega
            have WK := hide' (show winW d v h x5 r5 d5 (y * x5 + x) = d k1 by
              unfold winW
              rw [div_at (by omega) (by omega), mod_at (by omega) (by omega), hA1, hB1, hA2, hB2, hk0, hk1])
            obtain ⟨g, off, ea, hg, hc⟩ := (A22.out.below BX'.out).cells k1 (by simp; rw [HN.out]; exact k1l)
            have hc1 : ((List.range (v * h)).map fun i => ((d i : Nat) : Int))[k1]'(by simp; rw [HN.out]; exact k1l) = ((d k1 : Nat) : Int) := by simp
            rw [hc1] at hc
            subst ea
            obtain ⟨z, hz'⟩ : ∃ z, d k1 = z := ⟨_, rfl⟩
            rw [hz'] at hc WK
            have HAB := hide' (And.intro hA1 (And.intro hB1 (And.intro hA2 (And.intro hB2 (And.intro hk0 (And.intro hk1 hz'))))))
            clear hA1 hB1 hA2 hB2 hk0 hk1 hz' hc1 hg
            go_wp2
            go_quiet (fail)
            go_wp2
            obtain ⟨sa, sn, sc, rfl⟩ := ownsRow_slice OX.out
            have BY' := hide' (drewW BX'.out nq)
            have OY := hide' (show (wr.drewN nq).ownsRow V2.heap.size 3 1 (.slice sa sn sc) (y * x5 + x) (wnL (winW d v h x5 r5 d5) (y * x5 + x)) from OX.out)
            have v1' : (wr.drewN nq).cell? ⟨p, 1, none⟩ = some (.int .i64 ((v : Nat) : Int)) := u1
            have v3' : (wr.drewN nq).cell? ⟨p, 3, none⟩ = some (.slice (some ⟨g, off, none⟩) n2 c2) := u3
            have vc' : (wr.drewN nq).cell? ⟨g, off + k1, none⟩ = some (.int .i64 ((z : Nat) : Int)) := hc
            obtain ⟨Y, hY⟩ : ∃ Y, wr.drewN nq = Y := ⟨_, rfl⟩
            rw [hY] at BY' OY v1' v3' vc'
            rw [hY]
            clear hY u0 u1 u2 u3 hc
            have LL := hide' (show y * x5 + x ≤ 100 by have : y * x5 ≤ 5 * 5 := Nat.mul_le_mul (by omega) (by omega); omega)
            have YB := hide' BY'.out.size
            have OD := hide' (show Y.drew.ownsRow V2.heap.size 3 1 (.slice sa sn sc) (y * x5 + x) (wnL (winW d v h x5 r5 d5) (y * x5 + x)) from OY.out)
            go_region_law (refine step_append_own rfl (.tmp 166) (.tmp 179) 23 rfl V2.heap.size 3 i0 (.int .i64 0) 1 8 Tryd.underlying23 HI.out.1 HI.out.2.1 HI.out.2.2.1 HI.out.2.2.2 rfl (by decide) (.slice sa sn sc) (y * x5 + x) (wnL (winW d v h x5 r5 d5) (y * x5 + x)) (by simp [Act.eval, Act.put]) (OD.out.alloc _) ⟨Y.heap.size, 0, none⟩ 1 1 [.int .i64 ((z : Nat) : Int)] (by simp [Act.eval, Act.put]) rfl (one_newW Y.drew _ _) (fun u hu => by simp at hu; subst hu; rfl) (by have := LL.out; unfold maxLen; omega) (by have := LL.out; omega) (by simp; have := YB.out; omega) ?_; intro v' w' ho hgr hnil)
            all_goals
              have OZ := hide' (show w'.ownsRow V2.heap.size 3 1 v' (y * x5 + (x + 1)) (wnL (winW d v h x5 r5 d5) (y * x5 + (x + 1))) by rw [← Nat.add_assoc, wnL_next, WK.out]; exact ho)
              have BZ := hide' (show Below V2.heap.size V2 w' from (((⟨BY'.out.os, BY'.out.tape, BY'.out.output, BY'.out.size, BY'.out.block⟩ : Below V2.heap.size V2 Y.drew).alloc YB.out _).grown hgr (by simp; have := YB.out; omega) (fun k hk => (OD.out.lt k hk).1)))
              clear ho hgr hnil
              go_wp2
              exact ⟨⟨x + 1, by go_num, by omega, OZ, BZ⟩, by simp [intOf]; omega⟩
          · obtain rfl : x = x5 := by omega
            have OY := hide' OX.out
            rw [show y * x + x = (y + 1) * x by rw [Nat.succ_mul]] at OY
            go_wp2
            exact ⟨⟨y + 1, by go_num, by omega, OY, BX'⟩, by simp [intOf]; omega⟩
      · obtain rfl : y = y5 := by omega
        obtain ⟨sa, sc, rfl, AW⟩ := own_arg OW.out (Nat.mul_pos (by omega) (by omega)) (Nat.le_trans (Nat.mul_le_mul (show y ≤ 5 by omega) (show x5 ≤ 5 by omega)) (by decide))
        have BQ := hide' (BV2.out.trans (BW.out.mono BV2.out.size))
        have FC := hide' (FF.out (x5 : Int) (y : Int) _ sa (y * x5) sc false wr BQ.out AW)
        have FY := hide' (fun e (r : FtA xs n (x5 : Int) (y : Int) ((List.range (y * x5)).map fun i => ((winW d v h x5 r5 d5 i : Nat) : Int)) false e) => fits_yes (xs := xs) (n := n) (W := x5) (H := y) (ring := false) (c := winW d v h x5 r5 d5) t0 (by omega) (by omega) (by omega) (by omega) (WF.out _ _) (by rw [Nat.mul_comm]; exact r))
        have FZ := hide' (fun e (r : FtA xs n (v : Int) (h : Int) ((List.range (v * h)).map fun i => ((d i : Nat) : Int)) true e) => fits_yes (xs := xs) (n := n) (W := v) (H := h) (ring := true) (c := d) t0 (by omega) (by omega) (by omega) (by omega) SOL.out r)
        have AR := hide' (A22.out.below BW.out)
        clear AW OW
        go_wp2_with fail
        refine FC.out.mono ?_
        rintro o w6 ⟨r6, b6⟩
        obtain rfl := FY.out _ r6
        have B6 := hide' (BQ.out.trans (b6.mono BQ.out.size))
        have FD := hide' (FF.out (v : Int) (h : Int) _ a2 n2 c2 true w6 B6.out (AR.out.below b6))
        obtain ⟨u0, u1, u2, u3⟩ := CP.out w6 (BW.out.trans (b6.mono BW.out.size))
        clear r6 b6
        go_wp2_with fail
        refine FD.out.mono ?_
        rintro o w7 ⟨r7, b7⟩
        obtain rfl := FZ.out _ r7
        have B7 := hide' (B6.out.trans (b7.mono B6.out.size))
        clear r7 b7 u0 u1 u2 u3
        go_wp2
        go_ret
        exact ⟨rfl, B7.out⟩
end Go.Proofs.YthmeapplnocfjaaDoor

namespace Go.Proofs.YthmeapplnocfjaaDoor
open Go.RowKit
set_option linter.unusedVariables false
set_option linter.unusedSimpArgs false
set_option maxRecDepth 100000 in
set_option maxHeartbeats 102400000 in
theorem law_wang_plane (xs : List TlT) (a : Option Addr) (n c : Nat) (most W H rt dn : Int) (zs : List Int) (za : Option Addr) (zn zc : Nat) (w : World) (hA : ArgT w xs a n c) (hZ : ArgP w zs za zn zc)
    (hD : ∀ (ys : List TlT) (b : Option Addr) (m d : Nat) (M : Int) (V : World), Below w.heap.size w V → ArgT V ys b m d → Calls Tryd.prog 17 #[.slice b m d, .int .i64 M] V (WdA ys m M V))
    (hF : ∀ (X Y : Int) (ys : List Int) (b : Option Addr) (m d : Nat) (ring : Bool) (V : World), Below w.heap.size w V → ArgP V ys b m d → Calls Tryd.prog 11 #[.slice a n c, .int .i64 X, .int .i64 Y, .slice b m d, .bool ring] V fun e w' => FtA xs n X Y ys ring e ∧ Below V.heap.size V w') :
    Calls Tryd.prog 5 #[.slice a n c, .int .i64 most, .int .i64 W, .int .i64 H, .int .i64 rt, .int .i64 dn, .slice za zn zc] w fun e w' => e = .returned (.bool true) ∧ Below w.heap.size w w' := by
  by_cases hr : (1 ≤ W ∧ W ≤ 5 ∧ 1 ≤ H ∧ H ≤ 5 ∧ 0 ≤ rt ∧ rt ≤ 1000000 ∧ 0 ≤ dn ∧ dn ≤ 1000000)
  · exact law_wp_in xs a n c most W H rt dn zs za zn zc w hA hZ hr hD hF
  · exact law_wp_out xs a n c most W H rt dn zs za zn zc w hA hZ hr hD hF
end Go.Proofs.YthmeapplnocfjaaDoor

namespace Go.Proofs.YthmeapplnocfjaaDoor
open Go.RowKit
set_option linter.unusedVariables false
theorem law_wp_all (xs : List TlT) (a : Option Addr) (n c : Nat) (most W H rt dn : Int) (zs : List Int) (za : Option Addr) (zn zc : Nat) (w : World) (hA : ArgT w xs a n c) (hZ : ArgP w zs za zn zc) (hT : TzTab w) :
    Calls Tryd.prog 5 #[.slice a n c, .int .i64 most, .int .i64 W, .int .i64 H, .int .i64 rt, .int .i64 dn, .slice za zn zc] w fun e w' => e = .returned (.bool true) ∧ Below w.heap.size w w' :=
  law_wang_plane xs a n c most W H rt dn zs za zn zc w hA hZ (fun ys b m d M V h hv => wangDecide_any ys b m d M V hv (hT.below h)) (fun X Y ys b m d ring V h hv => wangFits_any xs a n c X Y ys b m d ring V (hA.below h) hv)
end Go.Proofs.YthmeapplnocfjaaDoor

namespace Go.Proofs.YthmeapplnocfjaaDoor
open Go.RowKit Go.Extern.Stop Go.Stop Go.Extern

end Go.Proofs.YthmeapplnocfjaaDoor

namespace Go.Proofs.YthmeapplnocfjaaDoor
open Go.RowKit

/-- The cell of errors.errorType holds the handle of the type error. -/
def Handle (w : World) : Prop := w.cell? ⟨0, 0, none⟩ = some (.iface 113 (.agg #[.pointer (some ⟨3, 26, none⟩)]))

theorem Handle.lt {w : World} (hg : Handle w) : 0 < w.heap.size := by
  unfold Handle at hg
  rcases Nat.lt_or_ge 0 w.heap.size with h | h
  · exact h
  · simp [World.cell?, Array.getElem?_eq_none h] at hg

end Go.Proofs.YthmeapplnocfjaaDoor

namespace Go.Proofs.YthmeapplnocfjaaDoor
open Go.ChangeShapes Go.WideShapes Go.ChangeAt Go.RowKit
open Go.ChangeMaps (setBlock shut_map_nil open_string shut_string keptBut_setBlock frozen?_setBlock heap_setBlock_same)
set_option linter.unusedVariables false

theorem laidOutP : laidOutB Tryd.prog = true := by kernel_rfl
theorem ownP : ownKnob Tryd.prog.godebug = none := by kernel_rfl
end Go.Proofs.YthmeapplnocfjaaDoor

