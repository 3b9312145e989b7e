/-
  What the last text of this claim leans on, part 13: LawSd.
-/
import Derived.Test.YtopcgkncmhhkmaaDoorZd12
import Derived.BigQuiet
import Derived.Deep.DeepCutAuto
namespace Go.Proofs.YtopcgkncmhhkmaaDoor
open Go.RowKit
set_option linter.unusedVariables false
set_option linter.unusedSimpArgs false
theorem ints_rowsD {V : World} {g h L : Nat} {F : Nat → Nat} (hL : L ≤ 100) (a : ArV V g L 3 (iQ F)) (b : ArV V h L 3 (iQ F)) : Calls Tryd.prog 10 #[.slice (some ⟨g, 0, none⟩) L L, .slice (some ⟨h, 0, none⟩) L L] V fun e w' => e = .returned (.bool true) ∧ Below V.heap.size V w' := by
  refine (Ints_any (rwL L F) (rwL L F) _ _ L L L L V (a.arg hL) (b.arg hL)).mono ?_
  rintro e w' ⟨rfl, q, rfl⟩
  exact ⟨by rw [decide_eq_true rfl], below_drewN (Below.refl _ _) q⟩
theorem ntF_okD {W H : Int} {m : Nat} (h : ntF W H m = 0) : ∃ v u : Nat, W = (v : Int) ∧ H = (u : Int) ∧ 1 ≤ v ∧ v ≤ 6 ∧ 1 ≤ u ∧ u ≤ 6 ∧ v * u ≤ m := by
  unfold ntF at h
  by_cases q : W < 1 ∨ 6 < W ∨ H < 1 ∨ 6 < H
  · rw [if_pos q] at h; cases h
  · rw [if_neg q] at h
    by_cases q2 : (m : Int) < W * H
    · rw [if_pos q2] at h; cases h
    · obtain ⟨v, rfl⟩ : ∃ v : Nat, W = (v : Int) := ⟨W.toNat, by omega⟩
      obtain ⟨u, rfl⟩ : ∃ v : Nat, H = (v : Int) := ⟨H.toNat, by omega⟩
      refine ⟨v, u, rfl, rfl, by omega, by omega, by omega, by omega, ?_⟩
      have : (v : Int) * (u : Int) = ((v * u : Nat) : Int) := by push_cast; rfl
      rw [this] at q2
      omega
theorem two_one : prG 2 1 false + 1 = 2 ∧ wayN (wgU 2 1 false) (2 * 1) 0 = 2 ∧ wayN (wgU 2 1 false) (2 * 1) 1 = 2 := by decide +kernel
/-- Free of 2 by 1. -/
theorem free_fact (w : World) : Calls Tryd.prog 6 #[.int .i64 2, .int .i64 1] w fun e w' => (∃ g, e = .returned (.tuple #[.slice (some ⟨g, 0, none⟩) 2 2, .nilIface]) ∧ w'.cell? ⟨g, 0, none⟩ = some (.int .i64 2) ∧ w'.cell? ⟨g, 1, none⟩ = some (.int .i64 2) ∧ g < w'.heap.size) ∧ Below w.heap.size w w' := by
  refine (free_ok 2 1 w (by decide) (by decide) (by decide) (by decide) (by decide)).mono ?_
  rintro e w' ⟨g, rfl, a, g2, b⟩
  obtain ⟨e1, e2, e3⟩ := two_one
  rw [e1] at a
  refine ⟨⟨g, by rw [e1], ?_, ?_, a.lt⟩, b⟩
  · rw [a.cell (by decide)]; unfold iQ; rw [e2]; rfl
  · rw [a.cell (by decide)]; unfold iQ; rw [e3]; rfl
theorem wg_le {W H : Nat} (rg : Bool) (h1 : 1 ≤ W) (h3 : 1 ≤ H) (s : Nat) : wgU W H rg s ≤ prG W H rg := by
  cases rg with
  | true => exact en_le W H s
  | false => exact fr_le (by omega) (by omega) s
theorem wg_sum {W H : Nat} (rg : Bool) (h1 : 1 ≤ W) (h3 : 1 ≤ H) : sumN (wayN (wgU W H rg) (W * H)) (prG W H rg + 1) = 2 ^ (W * H) := way_sum (wg_le rg h1 h3)
theorem wg_turnF {W H k : Nat} (h1 : 1 ≤ W) (h3 : 1 ≤ H) (hk : k ≤ prG W H false) : wayN (wgU W H false) (W * H) (prG W H false - k) = wayN (wgU W H false) (W * H) k := fr_turn (by omega) (by omega) hk
theorem wg_turnT {W H k : Nat} (h1 : 1 ≤ W) (h3 : 1 ≤ H) (e1 : W % 2 = 0) (e2 : H % 2 = 0) (hk : k ≤ prG W H true) : wayN (wgU W H true) (W * H) (prG W H true - k) = wayN (wgU W H true) (W * H) k := en_turn (by omega) (by omega) e1 e2 hk
theorem way_le (U : Nat → Nat) (N k : Nat) : wayN U N k ≤ 2 ^ N := cnt_le _ _
theorem bin_le (n k : Nat) : binD n k ≤ 2 ^ n := by rw [← cnt_pop]; exact cnt_le _ _
set_option maxRecDepth 100000 in
set_option maxHeartbeats 3200000 in
theorem law_sd_bad (W H : Int) (w : World) (h : ntF W H 30 ≠ 0) : Calls Tryd.prog 4 #[.int .i64 W, .int .i64 H] w fun e w' => e = .returned (.bool true) ∧ Below w.heap.size w w' := by
  have FF := hide' (free_fact w)
  have FC := hide' (fun V => free_bad W H V h)
  obtain ⟨f, hf⟩ : ∃ f, ntF W H 30 = f := ⟨_, rfl⟩
  rw [hf] at FC
  clear hf h
  go_enter Tryd.func4, Tryd.ntmps4
  go_wp2_with fail
  refine FF.out.mono ?_
  rintro o w1 ⟨⟨g, rfl, c0, c1, gl⟩, b1⟩
  go_wp2_with fail
  refine (FC.out w1).mono ?_
  rintro o w2 ⟨rfl, b2⟩
  have B2 := hide' (b1.trans (b2.mono b1.size))
  clear b1 b2 c0 c1 gl
  go_wp2
  go_ret
  exact ⟨rfl, B2.out⟩
set_option maxRecDepth 100000 in
set_option maxHeartbeats 12800000 in
theorem law_sd_ok (W H : Nat) (w : World) (hz : TzTab w) (h1 : 1 ≤ W) (hW : W ≤ 6) (h3 : 1 ≤ H) (hH : H ≤ 6) (hN : W * H ≤ 30) : Calls Tryd.prog 4 #[.int .i64 (W : Int), .int .i64 (H : Int)] w fun e w' => e = .returned (.bool true) ∧ Below w.heap.size w w' := by
  have hN' : H * W ≤ 30 := by rw [Nat.mul_comm]; exact hN
  have FF := hide' (free_fact w)
  have FC := hide' (fun V => free_ok W H V h1 hW h3 hH hN)
  have EC := hide' (fun V => energies_ok W H V h1 hW h3 hH hN)
  have FD := hide' (fun V => free_ok H W V h3 hH h1 hW hN')
  have ED := hide' (fun V => energies_ok H W V h3 hH h1 hW hN')
  rw [pr_lies false h1 hW h3 hH, show wayN (wgU H W false) (H * W) = wayN (wgU W H false) (W * H) from funext fun k => wg_lies false h1 h3 k] at FD
  rw [pr_lies true h1 hW h3 hH, show wayN (wgU H W true) (H * W) = wayN (wgU W H true) (W * H) from funext fun k => wg_lies true h1 h3 k] at ED
  have pf := pr_le72 (W := W) (H := H) false h1 hW h3 hH
  have pt := pr_le72 (W := W) (H := H) true h1 hW h3 hH
  have p30 : 2 ^ (W * H) ≤ 1073741824 := Nat.le_trans (Nat.pow_le_pow_right (by decide) hN) (by decide)
  have SA := hide' (wg_sum (W := W) (H := H) false h1 h3)
  have SB := hide' (wg_sum (W := W) (H := H) true h1 h3)
  have TA := hide' (fun k => wg_turnF (W := W) (H := H) (k := k) h1 h3)
  have TB := hide' (fun k e1 e2 => wg_turnT (W := W) (H := H) (k := k) h1 h3 e1 e2)
  have LA := hide' (fun k => Nat.le_trans (way_le (wgU W H false) (W * H) k) p30)
  have LB := hide' (fun k => Nat.le_trans (way_le (wgU W H true) (W * H) k) p30)
  obtain ⟨PA, hPA⟩ : ∃ p, prG W H false = p := ⟨_, rfl⟩
  obtain ⟨PB, hPB⟩ : ∃ p, prG W H true = p := ⟨_, rfl⟩
  rw [hPA] at FC FD pf SA TA
  rw [hPB] at EC ED pt SB TB
  obtain ⟨FA, hFA⟩ : ∃ F, wayN (wgU W H false) (W * H) = F := ⟨_, rfl⟩
  obtain ⟨FB, hFB⟩ : ∃ F, wayN (wgU W H true) (W * H) = F := ⟨_, rfl⟩
  rw [hFA] at FC FD SA TA LA
  rw [hFB] at EC ED SB TB LB
  obtain ⟨La, hLa⟩ : ∃ L, PA + 1 = L := ⟨_, rfl⟩
  obtain ⟨Lb, hLb⟩ : ∃ L, PB + 1 = L := ⟨_, rfl⟩
  rw [hLa] at FC FD SA
  rw [hLb] at EC ED SB
  have la : La ≤ 100 := by omega
  have lb : Lb ≤ 100 := by omega
  have ea : (La : Int) - 1 = (PA : Int) := by omega
  have eb : (Lb : Int) - 1 = (PB : Int) := by omega
  have CX := hide' (fun V (b : Below w.heap.size w V) (h : W * H ≤ 16) => crossings_ok W H false V h1 hW h3 hH h (hz.below b))
  have CY := hide' (fun V (b : Below w.heap.size w V) (h : H * W ≤ 16) => crossings_ok H W true V h3 hH h1 hW h (hz.below b))
  have CN := hide' (fun V (h : ntF W H 16 ≠ 0) => crossings_bad W H false V h)
  have FAR := hide' (fun (h : ¬ W * H ≤ 16) (e : ntF W H 16 = 0) => show False from by
    obtain ⟨v', u', e1, e2, _, _, _, _, le⟩ := ntF_okD e
    obtain rfl : W = v' := by omega
    obtain rfl : H = u' := by omega
    exact h le)
  have DU := hide' (fun i (h : W * H ≤ 16) (hi : i ≤ W * H) => dual_count (W := W) (H := H) (i := i) h1 hW h3 hH h hi)
  have BN := hide' (fun i (h : W * H ≤ 16) (hi : i ≤ W * H) => bin_next (k := W * H) (i := i) h hi)
  have BL := hide' (fun i (h : W * H ≤ 16) => Nat.le_trans (bin_le (W * H) i) (Nat.le_trans (Nat.pow_le_pow_right (by decide) h) (show 2 ^ 16 ≤ 65536 by decide)))
  have CLX := hide' (fun i (h : W * H ≤ 16) => show croN W H false i ≤ 65536 from Nat.le_trans (cnt_le _ _) (Nat.le_trans (Nat.pow_le_pow_right (by decide) h) (show 2 ^ 16 ≤ 65536 by decide)))
  have CLY := hide' (fun i (h : W * H ≤ 16) => show croN H W true i ≤ 65536 from Nat.le_trans (cnt_le _ _) (Nat.le_trans (Nat.pow_le_pow_right (by decide) (show H * W ≤ 16 by rw [Nat.mul_comm]; exact h)) (show 2 ^ 16 ≤ 65536 by decide)))
  rw [Nat.mul_comm H W] at CY
  obtain ⟨N, hNN⟩ : ∃ N, W * H = N := ⟨_, rfl⟩
  have eN : (W : Int) * (H : Int) = (N : Int) := by rw [← hNN]; push_cast; rfl
  rw [hNN] at SA SB CX CY FAR DU BN BL CLX CLY hN p30
  have B0 : binD N 0 = 1 := by cases N <;> rfl
  have BZ := hide' B0
  have HLA := hide' hLa
  have HLB := hide' hLb
  clear hPA hPB hFA hFB hLa hLb hNN hN' hz B0
  go_enter Tryd.func4, Tryd.ntmps4
  go_wp2_with fail
  refine FF.out.mono ?_
  rintro o w1 ⟨⟨g, rfl, c0, c1, gl⟩, b1⟩
  have B1 := hide' b1
  go_wp2_with fail
  refine (FC.out w1).mono ?_
  rintro o w2 ⟨ga, rfl, a2, g2, b2⟩
  have A2 := hide' a2
  have B2 := hide' (B1.out.trans (b2.mono B1.out.size))
  clear c0 c1 gl b1 B1 a2 g2 b2
  go_wp2_with fail
  refine (EC.out w2).mono ?_
  rintro o w3 ⟨gb, rfl, a3, g3, b3⟩
  have C3 := hide' a3
  have A3 := hide' (A2.out.below b3 A2.out.lt)
  have B3 := hide' (B2.out.trans (b3.mono B2.out.size))
  clear a3 g3 b3 A2 B2
  go_wp2_with fail
  refine (FD.out w3).mono ?_
  rintro o w4 ⟨gc, rfl, a4, g4, b4⟩
  have D4 := hide' a4
  have C4 := hide' (C3.out.below b4 C3.out.lt)
  have A4 := hide' (A3.out.below b4 A3.out.lt)
  have B4 := hide' (B3.out.trans (b4.mono B3.out.size))
  clear a4 g4 b4 A3 B3 C3
  go_wp2_with fail
  refine (ED.out w4).mono ?_
  rintro o w5 ⟨gd, rfl, a5, g5, b5⟩
  have E5 := hide' a5
  have D5 := hide' (D4.out.below b5 D4.out.lt)
  have C5 := hide' (C4.out.below b5 C4.out.lt)
  have A5 := hide' (A4.out.below b5 A4.out.lt)
  have B5 := hide' (B4.out.trans (b5.mono B4.out.size))
  clear a5 g5 b5 A4 B4 C4 D4
  go_wp2_with fail
  refine (ints_rowsD la A5.out D5.out).mono ?_
  rintro o w6 ⟨rfl, b6⟩
  have E6 := hide' (E5.out.below b6 E5.out.lt)
  have C6 := hide' (C5.out.below b6 C5.out.lt)
  have A6 := hide' (A5.out.below b6 A5.out.lt)
  have B6 := hide' (B5.out.trans (b6.mono B5.out.size))
  clear b6 A5 B5 C5 D5 E5
  go_wp2_with fail
  refine (ints_rowsD lb C6.out E6.out).mono ?_
  rintro o w7 ⟨rfl, b7⟩
  have C7 := hide' (C6.out.below b7 C6.out.lt)
  have A7 := hide' (A6.out.below b7 A6.out.lt)
  have B7 := hide' (B6.out.trans (b7.mono B6.out.size))
  clear b7 A6 B6 C6 E6
  go_wp2
  go_loopw [17, 18] (fun av xv wr => ∃ (x : Nat), av = .int .i64 ((2 ^ x : Nat) : Int) ∧ xv = .int .i64 (x : Int) ∧ x ≤ N ∧ wr = w7) (fun _ xv _ => N - (intOf xv).toNat)
  case atStart => exact ⟨0, rfl, rfl, by omega, rfl⟩
  case round =>
    obtain ⟨x, rfl, rfl, hx, rfl⟩ := hrel
    have px : 2 ^ x ≤ 1073741824 := Nat.le_trans (Nat.pow_le_pow_right (by decide) (show x ≤ 30 by omega)) (by decide)
    by_cases dx : (x : Int) < (N : Int)
    · have NX := hide' (show 2 ^ (x + 1) = 2 ^ x * 2 from Nat.pow_succ 2 x)
      obtain ⟨z, hz⟩ : ∃ z, 2 ^ x = z := ⟨_, rfl⟩
      rw [hz] at px NX ⊢
      clear hz p30
      go_wp2
      exact ⟨⟨x + 1, by rw [NX.out]; go_num, by go_num, by omega, trivial⟩, by simp [intOf]; omega⟩
    · obtain ⟨N', rfl⟩ : ∃ N', N' = N := ⟨_, rfl⟩
      obtain rfl : x = N' := by omega
      have SMA := hide' (fun V (h : ArV V ga La 3 (iQ FA)) => sum_anyS ga La FA V la h (fun k hk => Nat.le_trans (sum_mono FA hk) (by rw [SA.out]; exact p30)) (fun k _ => LA.out k))
      have SMB := hide' (fun V (h : ArV V gb Lb 3 (iQ FB)) => sum_anyS gb Lb FB V lb h (fun k hk => Nat.le_trans (sum_mono FB hk) (by rw [SB.out]; exact p30)) (fun k _ => LB.out k))
      rw [SA.out] at SMA
      rw [SB.out] at SMB
      obtain ⟨P2, hP2⟩ : ∃ p, 2 ^ x = p := ⟨_, rfl⟩
      rw [hP2] at SMA SMB px ⊢
      clear hP2 p30 dx hx
      obtain ⟨w7, rfl⟩ : ∃ V, V = wr := ⟨_, rfl⟩
      go_wp2_with fail
      refine (SMA.out w7 A7.out).mono ?_
      rintro o w8 ⟨rfl, rfl⟩
      go_wp2_with fail
      refine (SMB.out w8 C7.out).mono ?_
      rintro o w9 ⟨rfl, rfl⟩
      go_wp2
      clear SMA SMB
      go_loopw [21] (fun iv wr => ∃ (i : Nat), iv = .int .i64 (i : Int) ∧ i ≤ La ∧ Hid (ArV wr ga La 3 (iQ FA)) ∧ Hid (ArV wr gb Lb 3 (iQ FB)) ∧ Hid (Below w.heap.size w wr)) (fun iv _ => La - (intOf iv).toNat)
      case atStart => exact ⟨0, rfl, by omega, A7, C7, B7⟩
      case round =>
        clear A7 C7 B7
        obtain ⟨i, rfl, hi, A7, C7, B7⟩ := hrel
        by_cases d : (i : Int) < (La : Int)
        · have il : i < La := by omega
          have i0 : (0 : Int) ≤ (i : Int) := by omega
          have tn := TA.out i (by have := HLA.out; omega)
          obtain ⟨j, hj⟩ : ∃ j, PA - i = j := ⟨_, rfl⟩
          have ej : (PA : Int) - (i : Int) = (j : Int) := by have := HLA.out; omega
          have jl : j < La := by have := HLA.out; omega
          have j0 : (0 : Int) ≤ (j : Int) := by omega
          have jI : (j : Int) < (La : Int) := by omega
          rw [hj] at tn
          have ci := A7.out.cell il
          have cj := A7.out.cell jl
          have gl := A7.out.lt
          unfold iQ at ci cj
          rw [tn] at cj
          have vl := LA.out i
          obtain ⟨v, hv⟩ : ∃ v, FA i = v := ⟨_, rfl⟩
          rw [hv] at ci cj vl
          have wpa : IntKind.i64.wrap (PA : Int) = (PA : Int) := wrap_i64S (by omega)
          have wj : IntKind.i64.wrap (j : Int) = (j : Int) := wrap_i64S (by omega)
          clear hj hv tn
          go_upto_region 26 with fail
          go_quiet (fail)
          have A8 := hide' (show ArV (wr.drewN nq) ga La 3 (iQ FA) from A7.out)
          have C8 := hide' (show ArV (wr.drewN nq) gb Lb 3 (iQ FB) from C7.out)
          have B8 := hide' (below_drewN B7.out nq)
          obtain ⟨V, hV⟩ : ∃ V, wr.drewN nq = V := ⟨_, rfl⟩
          rw [hV] at A8 C8 B8 ⊢
          clear hV ci cj gl
          go_wp2
          exact ⟨⟨i + 1, by go_num, by omega, A8, C8, B8⟩, by simp [intOf]; omega⟩
        · go_wp2
          go_loopw [22] (fun iv wr => ∃ (i : Nat), iv = .int .i64 (i : Int) ∧ i ≤ Lb ∧ Hid (ArV wr gb Lb 3 (iQ FB)) ∧ Hid (Below w.heap.size w wr)) (fun iv _ => Lb - (intOf iv).toNat)
          case atStart => exact ⟨0, rfl, by omega, C7, B7⟩
          case round =>
            clear A7 C7 B7
            obtain ⟨i, rfl, hi, C7, B7⟩ := hrel
            by_cases d2 : (i : Int) < (Lb : Int)
            · have il : i < Lb := by omega
              have i0 : (0 : Int) ≤ (i : Int) := by omega
              have tn := fun e1 e2 => TB.out i e1 e2 (by have := HLB.out; omega)
              obtain ⟨j, hj⟩ : ∃ j, PB - i = j := ⟨_, rfl⟩
              have ej : (PB : Int) - (i : Int) = (j : Int) := by have := HLB.out; omega
              have jl : j < Lb := by have := HLB.out; omega
              have j0 : (0 : Int) ≤ (j : Int) := by omega
              have jI : (j : Int) < (Lb : Int) := by omega
              rw [hj] at tn
              have TN := hide' tn
              have ci := C7.out.cell il
              have cj := C7.out.cell jl
              have gl := C7.out.lt
              unfold iQ at ci cj
              have wpa : IntKind.i64.wrap (PB : Int) = (PB : Int) := wrap_i64S (by omega)
              have wj : IntKind.i64.wrap (j : Int) = (j : Int) := wrap_i64S (by omega)
              clear hj tn
              obtain ⟨pw, hpw⟩ : ∃ p, W % 2 = p := ⟨_, rfl⟩
              obtain ⟨ph, hph⟩ : ∃ p, H % 2 = p := ⟨_, rfl⟩
              have rw' : ((W : Nat) : Int).tmod 2 = (pw : Int) := by rw [← hpw]; exact (Int.ofNat_tmod W 2).symm
              have rh' : ((H : Nat) : Int).tmod 2 = (ph : Int) := by rw [← hph]; exact (Int.ofNat_tmod H 2).symm
              have pw1 : pw < 2 := by omega
              have ph1 : ph < 2 := by omega
              have wpw : IntKind.i64.wrap (pw : Int) = (pw : Int) := wrap_i64S (by omega)
              have wph : IntKind.i64.wrap (ph : Int) = (ph : Int) := wrap_i64S (by omega)
              have HPP := hide' (And.intro hpw hph)
              clear hpw hph
              by_cases e1 : pw = 0
              · subst e1
                by_cases e2 : ph = 0
                · subst e2
                  rw [TN.out HPP.out.1 HPP.out.2] at cj
                  have vl := LB.out i
                  obtain ⟨v, hv⟩ : ∃ v, FB i = v := ⟨_, rfl⟩
                  rw [hv] at ci cj vl
                  clear hv TN
                  go_upto_region 31 with fail
                  go_quiet (fail)
                  have C8 := hide' (show ArV (wr.drewN nq) gb Lb 3 (iQ FB) from C7.out)
                  have B8 := hide' (below_drewN B7.out nq)
                  obtain ⟨V, hV⟩ : ∃ V, wr.drewN nq = V := ⟨_, rfl⟩
                  rw [hV] at C8 B8 ⊢
                  clear hV ci cj gl
                  go_wp2
                  exact ⟨⟨i + 1, by go_num, by omega, C8, B8⟩, by simp [intOf]; omega⟩
                · have nb : ((ph : Int) == 0) = false := by simp; omega
                  clear e2 ci cj TN
                  go_upto_region 31 with fail
                  go_quiet (fail)
                  have C8 := hide' (show ArV (wr.drewN nq) gb Lb 3 (iQ FB) from C7.out)
                  have B8 := hide' (below_drewN B7.out nq)
                  obtain ⟨V, hV⟩ : ∃ V, wr.drewN nq = V := ⟨_, rfl⟩
                  rw [hV] at C8 B8 ⊢
                  clear hV gl
                  go_wp2
                  exact ⟨⟨i + 1, by go_num, by omega, C8, B8⟩, by simp [intOf]; omega⟩
              · have nb : ((pw : Int) == 0) = false := by simp; omega
                clear e1 ci cj TN
                go_upto_region 31 with fail
                go_quiet (fail)
                have C8 := hide' (show ArV (wr.drewN nq) gb Lb 3 (iQ FB) from C7.out)
                have B8 := hide' (below_drewN B7.out nq)
                obtain ⟨V, hV⟩ : ∃ V, wr.drewN nq = V := ⟨_, rfl⟩
                rw [hV] at C8 B8 ⊢
                clear hV gl
                go_wp2
                exact ⟨⟨i + 1, by go_num, by omega, C8, B8⟩, by simp [intOf]; omega⟩
            · by_cases hC : x ≤ 16
              · have x17 : x + 1 ≤ 100 := by omega
                have DUX := hide' (fun i (hi : i ≤ x) => DU.out i hC hi)
                have BNX := hide' (fun i (hi : i ≤ x) => BN.out i hC hi)
                have BLX := hide' (fun i => BL.out i hC)
                have CX2 := hide' (fun V b => CX.out V b hC)
                have CY2 := hide' (fun V b => CY.out V b hC)
                have CA := hide' (fun i => CLX.out i hC)
                have CB := hide' (fun i => CLY.out i hC)
                obtain ⟨L, hL⟩ : ∃ L, x + 1 = L := ⟨_, rfl⟩
                rw [hL] at CX2 CY2
                have eL : (x : Int) + 1 = (L : Int) := by omega
                obtain ⟨GX, hGX⟩ : ∃ G, croN W H false = G := ⟨_, rfl⟩
                obtain ⟨GY, hGY⟩ : ∃ G, croN H W true = G := ⟨_, rfl⟩
                rw [hGX] at CX2 CA DUX
                rw [hGY] at CY2 CB DUX
                have HL := hide' hL
                clear hGX hGY DU BN BL CX CY CLX CLY CN FAR C7 hL
                go_wp2_with fail
                refine (CX2.out wr B7.out).mono ?_
                rintro o w11 ⟨gx, rfl, a11, g11, b11⟩
                have X11 := hide' a11
                have B11 := hide' (B7.out.trans (b11.mono B7.out.size))
                clear a11 g11 b11 B7
                go_wp2_with fail
                refine (CY2.out w11 B11.out).mono ?_
                rintro o w12 ⟨gy, rfl, a12, g12, b12⟩
                have Y12 := hide' a12
                have X12 := hide' (X11.out.below b12 X11.out.lt)
                have B12 := hide' (B11.out.trans (b12.mono B11.out.size))
                clear a12 g12 b12 B11 X11
                go_wp2
                go_loopw [26, 27] (fun cv iv wr => ∃ (i : Nat), cv = .int .i64 ((binD x i : Nat) : Int) ∧ iv = .int .i64 (i : Int) ∧ i ≤ L ∧ Hid (ArV wr gx L 3 (iQ GX)) ∧ Hid (ArV wr gy L 3 (iQ GY)) ∧ Hid (Below w.heap.size w wr)) (fun _ iv _ => L - (intOf iv).toNat)
                case atStart => exact ⟨0, by rw [BZ.out]; rfl, rfl, by omega, X12, Y12, B12⟩
                case round =>
                  clear X12 Y12 B12
                  obtain ⟨i, rfl, rfl, hi, X12, Y12, B12⟩ := hrel
                  by_cases d3 : (i : Int) ≤ (x : Int)
                  · have ix : i ≤ x := by omega
                    have il : i < L := by have := HL.out; omega
                    have iI : (i : Int) < (L : Int) := by omega
                    have i0 : (0 : Int) ≤ (i : Int) := by omega
                    obtain ⟨j, hj⟩ : ∃ j, x - i = j := ⟨_, rfl⟩
                    have ej : (x : Int) - (i : Int) = (j : Int) := by omega
                    have jl : j < L := by have := HL.out; omega
                    have j0 : (0 : Int) ≤ (j : Int) := by omega
                    have jI : (j : Int) < (L : Int) := by omega
                    have du := DUX.out i ix
                    have bn := BNX.out i ix
                    have bl := BLX.out i
                    have bl2 := BLX.out (i + 1)
                    have ga' := CA.out i
                    have gb' := CB.out j
                    rw [hj] at du bn
                    have ci := X12.out.cell il
                    have cj := Y12.out.cell jl
                    have gl1 := X12.out.lt
                    have gl2 := Y12.out.lt
                    unfold iQ at ci cj
                    obtain ⟨u, hu⟩ : ∃ v, GX i = v := ⟨_, rfl⟩
                    obtain ⟨v, hv⟩ : ∃ v, GY j = v := ⟨_, rfl⟩
                    rw [hu] at ci ga' du
                    rw [hv] at cj gb' du
                    have NB := hide' bn
                    obtain ⟨c, hc⟩ : ∃ c, binD x i = c := ⟨_, rfl⟩
                    rw [hc] at du bl NB ⊢
                    have eu : (u : Int) + (v : Int) = (c : Int) := by omega
                    have wj : IntKind.i64.wrap (j : Int) = (j : Int) := wrap_i64S (by omega)
                    have wc : IntKind.i64.wrap (c : Int) = (c : Int) := wrap_i64S (by omega)
                    have cm : c * j ≤ 65536 * 16 := Nat.mul_le_mul bl (by omega)
                    obtain ⟨m, hm⟩ : ∃ m, c * j = m := ⟨_, rfl⟩
                    have em : (c : Int) * (j : Int) = (m : Int) := by rw [← hm]; push_cast; rfl
                    rw [hm] at cm NB
                    obtain ⟨I, hI⟩ : ∃ I, i + 1 = I := ⟨_, rfl⟩
                    have eI : (i : Int) + 1 = (I : Int) := by omega
                    rw [hI] at NB bl2
                    have qd : ((m : Nat) : Int).tdiv (I : Int) = ((binD x I : Nat) : Int) := by rw [← NB.out]; exact (Int.ofNat_tdiv m I).symm
                    have I0 : ((I : Int) == 0) = false := by simp; omega
                    have IN0 : ¬ I = 0 := by omega
                    obtain ⟨c2, hc2⟩ : ∃ c, binD x I = c := ⟨_, rfl⟩
                    rw [hc2] at qd bl2
                    have HI := hide' (And.intro hI hc2)
                    have m9 : m ≤ 1048576 := cm
                    clear hj hu hv hc hm hI hc2 du bn cm NB
                    go_upto_region 44 with fail
                    go_quiet (fail)
                    have X13 := hide' (show ArV (wr.drewN nq) gx L 3 (iQ GX) from X12.out)
                    have Y13 := hide' (show ArV (wr.drewN nq) gy L 3 (iQ GY) from Y12.out)
                    have B13 := hide' (below_drewN B12.out nq)
                    obtain ⟨V, hV⟩ : ∃ V, wr.drewN nq = V := ⟨_, rfl⟩
                    rw [hV] at X13 Y13 B13 ⊢
                    clear hV ci cj gl1 gl2 X12 Y12 B12
                    go_wp2
                    exact ⟨⟨i + 1, by rw [HI.out.1, HI.out.2], by go_num, by omega, X13, Y13, B13⟩, by simp [intOf]; omega⟩
                  · have B13 := B12
                    clear X12 Y12
                    go_wp2
                    go_ret
                    exact ⟨rfl, B13.out⟩
              · have NF := hide' (FAR.out hC)
                obtain ⟨f, hf⟩ : ∃ f, ntF W H 16 = f := ⟨_, rfl⟩
                have CN2 := hide' (CN.out wr (fun e => NF.out e))
                rw [hf] at CN2
                clear hf DU BN BL CX CY CLX CLY CN FAR C7 NF
                go_wp2_with fail
                refine CN2.out.mono ?_
                rintro o w11 ⟨rfl, b11⟩
                have B11 := hide' (B7.out.trans (b11.mono B7.out.size))
                clear b11 B7
                go_wp2
                go_ret
                exact ⟨rfl, B11.out⟩
theorem law_sd_all (W H : Int) (w : World) (hz : TzTab w) : Calls Tryd.prog 4 #[.int .i64 W, .int .i64 H] w fun e w' => e = .returned (.bool true) ∧ Below w.heap.size w w' := by
  by_cases h : ntF W H 30 = 0
  · obtain ⟨v, u, rfl, rfl, a1, a2, a3, a4, a5⟩ := ntF_okD h
    exact law_sd_ok v u w hz a1 a2 a3 a4 a5
  · exact law_sd_bad W H w h
end Go.Proofs.YtopcgkncmhhkmaaDoor

