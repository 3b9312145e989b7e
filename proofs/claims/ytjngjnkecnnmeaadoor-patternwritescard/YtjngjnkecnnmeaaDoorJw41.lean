/-
  What the last text of this claim leans on, part 41: Wl3.
-/
import Derived.Test.YtjngjnkecnnmeaaDoorJw40
import Derived.BigQuiet
namespace Go.Proofs.YtjngjnkecnnmeaaDoor
open Go.RowKit
set_option linter.unusedVariables false

theorem tagOf_any (z : Int) (hz : z = 0 ∨ z = 1) (w : World) : Calls Tryd.prog 121 #[.int .i64 z] w fun e w' => e = .returned (.int .u8 ((tagB z).toNat : Int)) ∧ w' = w := by
  rcases hz with rfl | rfl
  · exact tagOf_0 w
  · exact tagOf_1 w
theorem cnt_yes {f : Nat → Int} {z : Int} {m y : Nat} (h : y < m) (e : f y = z) : cntF f z (m - y) y = cntF f z (m - (y + 1)) (y + 1) := by
  rw [show m - y = (m - (y + 1)) + 1 by omega, cntF, if_pos e]
theorem cnt_no {f : Nat → Int} {z : Int} {m y : Nat} (h : y < m) (e : ¬ f y = z) : cntF f z (m - y) y = y := by
  rw [show m - y = (m - (y + 1)) + 1 by omega, cntF, if_neg e]
theorem DW.drewN {w2 w : World} {l : List UInt8} (h : DW w2 w l) (j : Nat) : DW w2 (w.drewN j) l := h.keep ⟨rfl, rfl, rfl, Nat.le_refl _, fun _ _ => rfl⟩

set_option maxHeartbeats 1600000 in
set_option maxRecDepth 100000 in
theorem writeRow_any (w2 : World) (f : Nat → Int) (g off m c : Nat) (l : List UInt8) (w : World) (h : DW w2 w l) (hP : PowT w2) (hm : m ≤ 100) (hmc : m ≤ c) (hcm : c ≤ maxLen) (hl : l.length ≤ 800000) (hg : g < w2.heap.size)
    (hcell : ∀ i, i < m → w2.cell? ⟨g, off + i, none⟩ = some (.int .i64 (f i))) (hbit : ∀ i, i < m → f i = 0 ∨ f i = 1) :
    Calls Tryd.prog 75 #[.pointer (some ⟨w2.heap.size, 0, none⟩), .slice (some ⟨g, off, none⟩) m c] w fun e w' => e = .returned (.tuple #[]) ∧ DW w2 w' (l ++ runsF f m m 0) := by
  have HH := hide' h
  have HP := hide' hP
  have HC := hide' hcell
  have HB := hide' hbit
  have S0 := hide' (show l ++ runsF f m m 0 = l ++ runsF f m (m - 0) 0 from rfl)
  clear h hP hcell hbit
  go_enter Tryd.func75, Tryd.ntmps75
  go_wp2
  go_loopw [1] (fun v wr => ∃ (x : Nat) (a : Option Addr) (cc : Nat) (l' : List UInt8), v = .slice a (m - x) cc ∧ x ≤ m ∧ Hid (x < m → a = some ⟨g, off + x, none⟩ ∧ cc = c - x) ∧ l'.length ≤ 800000 + 22 * x ∧ DW w2 wr l' ∧ l' ++ runsF f m (m - x) x = l ++ runsF f m m 0) (fun v _ => match v with | .slice _ k _ => k | _ => 0)
  case atStart => exact ⟨0, _, _, l, rfl, Nat.zero_le _, hide' (fun _ => ⟨rfl, rfl⟩), by omega, HH.out, rfl⟩
  case round =>
    obtain ⟨x, a, cc, l', rfl, hx, HA, hl', dw, hr⟩ := hrel
    have DD := hide' dw
    have HR := hide' hr
    clear dw hr
    by_cases d : x < m
    · obtain ⟨rfl, rfl⟩ := HA.out d
      obtain ⟨M, hM⟩ : ∃ M, m - x = M := ⟨_, rfl⟩
      obtain ⟨C, hC⟩ : ∃ C, c - x = C := ⟨_, rfl⟩
      obtain ⟨O, hO⟩ : ∃ O, off + x = O := ⟨_, rfl⟩
      rw [hM, hC, hO]
      have hM0 : 0 < M := by omega
      have hMm : x + M = m := by omega
      have hCc : x + C = c := by omega
      have CE := hide' (show ∀ i, x + i < m → wr.cell? ⟨g, O + i, none⟩ = some (.int .i64 (f (x + i))) from fun i hi => by
        rw [← hO, Nat.add_assoc]
        exact (World.cell?_of_block (w := w2) (a := ⟨g, off + (x + i), none⟩) (DD.out.below.block g hg)).trans (HC.out _ hi))
      have HO := hide' hO
      have z0 := CE.out 0 d
      rw [Nat.add_zero, Nat.add_zero] at z0
      have HZ := hide' (HB.out x d)
      obtain ⟨z, hz⟩ : ∃ z, f x = z := ⟨_, rfl⟩
      rw [hz] at z0 HZ
      have HF := hide' hz
      have NS := hide' (show nextF f m x = cntF f z (m - (x + 1)) (x + 1) by rw [nextF_step d, hz])
      have hd : (0 : Int) < (M : Int) := by omega
      clear hz hM hC hO HA
      go_wp2
      go_loopw [4] (fun tv wx => ∃ t j : Nat, tv = .int .i64 (t : Int) ∧ 1 ≤ t ∧ t ≤ M ∧ wx = wr.drewN j ∧ Hid (cntF f z (m - (x + t)) (x + t) = nextF f m x)) (fun tv _ => M - (intOf tv).toNat)
      case atStart => exact ⟨1, 0, rfl, by omega, by omega, rfl, hide' NS.out.symm⟩
      case round =>
        obtain ⟨t, j, rfl, ht1, htM, rfl, HT⟩ := hrel
        by_cases e : (t : Int) < (M : Int)
        · have hcc := CE.out t (by omega)
          obtain ⟨u, hu⟩ : ∃ u, f (x + t) = u := ⟨_, rfl⟩
          rw [hu] at hcc
          have hdd : decide ((t : Int) < (M : Int)) = true := by simp [e]
          by_cases uz : u = z
          · have m1 : (u == z) = true := by simp [uz]
            have STEP := hide' (show cntF f z (m - (x + (t + 1))) (x + (t + 1)) = nextF f m x by have := cnt_yes (f := f) (z := z) (m := m) (y := x + t) (by omega) (by rw [hu]; exact uz); rw [← HT.out, this]; rfl)
            clear uz hu
            go_wp2
            go_quiet (fail)
            go_wp2
            refine ⟨⟨t + 1, _, by go_num, by omega, by omega, rfl, hide' STEP.out⟩, by simp [intOf]; omega⟩
          · have m1 : (u == z) = false := by simp [uz]
            have HN := hide' (show x + t = nextF f m x by rw [← HT.out, cnt_no (by omega) (by rw [hu]; exact uz)])
            clear uz hu
            go_wp2
            go_quiet (fail)
            go_wp2_with fail
            refine (tagOf_any z HZ.out _).mono ?_
            rintro e w3 ⟨rfl, rfl⟩
            go_wp2_with fail
            refine (writeRun_any w2 t (tagB z) l' _ (DD.out.drewN _) HP.out (by omega) (by omega)).mono ?_
            rintro e w4 ⟨rfl, d4⟩
            have D4 := hide' d4
            have hT := times_len t (tagB z) (by omega)
            have NX := hide' (show l' ++ timesB t (tagB z) ++ runsF f m (m - (x + t)) (x + t) = l ++ runsF f m m 0 by rw [← HR.out, runsF_step d, ← HN.out, HF.out, Nat.add_sub_cancel_left, List.append_assoc])
            have hTM : t ≤ M := by omega
            have hTC : t ≤ C := by omega
            have hMC : M ≤ C := by omega
            clear d4
            go_wp2
            refine ⟨⟨x + t, some ⟨g, O + t, none⟩, C - t, l' ++ timesB t (tagB z), ?_, by omega, hide' (fun _ => ⟨?_, ?_⟩), ?_, D4.out, NX.out⟩, ?_⟩
            · rw [show m - (x + t) = M - t by omega]
            · rw [← HO.out, Nat.add_assoc]
            · omega
            · rw [List.length_append]; omega
            · show M - t < M
              omega
        · have hdd : decide ((t : Int) < (M : Int)) = false := by simp; omega
          have HN := hide' (show x + t = nextF f m x by rw [← HT.out, show x + t = m by omega, Nat.sub_self]; rfl)
          have hd2 : decide (t < M) = false := by simp; omega
          have htM2 : t = M := by omega
          have HTM := hide' htM2
          clear e htM2
          go_wp2
          go_quiet (fail)
          go_wp2_with fail
          refine (tagOf_any z HZ.out _).mono ?_
          rintro e w3 ⟨rfl, rfl⟩
          go_wp2_with fail
          refine (writeRun_any w2 t (tagB z) l' _ (DD.out.drewN _) HP.out (by omega) (by omega)).mono ?_
          rintro e w4 ⟨rfl, d4⟩
          have D4 := hide' d4
          have hT := times_len t (tagB z) (by omega)
          have NX := hide' (show l' ++ timesB t (tagB z) ++ runsF f m (m - (x + t)) (x + t) = l ++ runsF f m m 0 by rw [← HR.out, runsF_step d, ← HN.out, HF.out, Nat.add_sub_cancel_left, List.append_assoc])
          have hTM : t ≤ M := by omega
          have hTC : t ≤ C := by omega
          have hMC : M ≤ C := by omega
          clear d4
          go_wp2
          refine ⟨⟨x + t, (if C = t then some ⟨g, O, none⟩ else some ⟨g, O + t, none⟩), C - t, l' ++ timesB t (tagB z), ?_, by omega, hide' (fun h => absurd h (by have := HTM.out; omega)), ?_, D4.out, NX.out⟩, ?_⟩
          · rw [show m - (x + t) = M - t by omega]
          · rw [List.length_append]; omega
          · show M - t < M
            omega
    · have X := hide' (show x = m by omega)
      have d' : m - x = 0 := by omega
      have NX := hide' (show l' = l ++ runsF f m m 0 by rw [← HR.out, X.out, runsF_end, List.append_nil])
      rw [d']
      clear d'
      go_wp2
      go_end0
      rw [← NX.out]
      exact ⟨rfl, DD.out⟩
end Go.Proofs.YtjngjnkecnnmeaaDoor

