/-
  What the last text of this claim leans on, part 19: Ci0, LawSc, OpenP, OpenZs.
-/
import Derived.Test.YtopcgkncmhhkmaaDoorZc1
import Derived.Test.YtopcgkncmhhkmaaDoorZc13
import Derived.Test.YtopcgkncmhhkmaaDoorZc14
import Derived.Test.YtopcgkncmhhkmaaDoorZc15
import Derived.Test.YtopcgkncmhhkmaaDoorZc18
import Derived.Test.YtopcgkncmhhkmaaDoorRows
import Derived.Test.YtopcgkncmhhkmaaDoorCards
import Derived.Test.YtopcgkncmhhkmaaDoorTie
import Derived.Test.YtopcgkncmhhkmaaDoorZc10
import Derived.ProofKit
import Derived.OpenShut
import Derived.ChangeSame
import Derived.ChangeSlices
import Derived.ChangeVars
import Derived.JoinedOf
import Derived.RowKit
import Derived.RowKitTokens
import Derived.LaidLaws
import Derived.LaidHandle
import Derived.LaidSub
import Derived.Lay
import Derived.Carry
import Derived.Stop.Joined
import Derived.SevenTiedAt
import Derived.Lib.LaidTab
namespace Go.Proofs.YtopcgkncmhhkmaaDoor
open Go.RowKit
set_option linter.unusedVariables false

theorem list_ne_len {xs ys : List Int} (h : xs.length ≠ ys.length) : decide (xs = ys) = false := by
  simp; intro e; exact h (by rw [e])
theorem list_ne_at {xs ys : List Int} {k : Nat} (hx : k < xs.length) (hy : k < ys.length) (h : xs[k] ≠ ys[k]) : decide (xs = ys) = false := by
  simp; intro e; subst e; exact h rfl

set_option maxHeartbeats 1600000 in
theorem Ints_any (xs ys : List Int) (a b : Option Addr) (n c m d : Nat) (w : World) (hA : ArgP w xs a n c) (hB : ArgP w ys b m d) :
    Calls Tryd.prog 10 #[.slice a n c, .slice b m d] w fun e w' => e = .returned (.bool (decide (xs = ys))) ∧ ∃ q, w' = w.drewN q := by
  have HA := hide' hA
  have HB := hide' hB
  have hlx := hA.len
  have hly := hB.len
  have hma := hA.max
  have hmb := hB.max
  have LX := hide' hlx
  have LY := hide' hly
  unfold maxLen at hma hmb
  by_cases hnm : n = m
  · subst hnm
    clear hA hB hlx hly
    have EQ := hide' (fun (h : ∀ j (h1 : j < xs.length) (h2 : j < ys.length), xs[j] = ys[j]) => show decide (xs = ys) = true by
      simp; exact List.ext_getElem (by rw [← LX.out, ← LY.out]) fun j h1 h2 => h j h1 h2)
    go_enter Tryd.func10, Tryd.ntmps10
    go_wp2
    go_loopw [5] (fun iv wr => ∃ k q : Nat, iv = .int .i64 (k : Int) ∧ k ≤ n ∧ wr = w.drewN q ∧ Hid (∀ j (h1 : j < xs.length) (h2 : j < ys.length), j < k → xs[j] = ys[j])) (fun iv _ => n - (intOf iv).toNat)
    case atStart => exact ⟨0, 0, rfl, by omega, rfl, fun j h1 h2 h => by omega⟩
    case round =>
      obtain ⟨k, q, rfl, hk, rfl, HK⟩ := hrel
      by_cases hkn : (k : Int) < (n : Int)
      · have l1 : k < xs.length := by have := LX.out; omega
        have l2 : k < ys.length := by have := LY.out; omega
        obtain ⟨ga, oa, rfl, -, c1⟩ := HA.out.cells k l1
        obtain ⟨gb, ob, rfl, -, c2⟩ := HB.out.cells k l2
        obtain ⟨x, hx⟩ : ∃ x, xs[k] = x := ⟨_, rfl⟩
        obtain ⟨y, hy⟩ : ∃ y, ys[k] = y := ⟨_, rfl⟩
        rw [hx] at c1
        rw [hy] at c2
        have HX := hide' hx
        have HY := hide' hy
        clear hx hy
        by_cases e : x = y
        · subst e
          have m1 : (x != x) = false := by simp
          go_wp2
          go_quiet (fail)
          go_wp2
          refine ⟨⟨k + 1, q + nq, by go_num, by omega, rfl, fun j h1 h2 h => ?_⟩, by simp [intOf]; omega⟩
          by_cases ej : j = k
          · subst ej; rw [HX.out, HY.out]
          · exact HK.out j h1 h2 (by omega)
        · have m1 : (x != y) = true := by simp [e]
          have F := hide' (list_ne_at l1 l2 (by rw [HX.out, HY.out]; exact e))
          clear e
          go_wp2
          go_quiet (fail)
          go_wp2
          go_ret
          exact ⟨by rw [F.out]; rfl, q + nq, by simp [World.drewN, Nat.add_assoc]⟩
      · have F := hide' (EQ.out fun j h1 h2 => HK.out j h1 h2 (by have := LX.out; omega))
        go_wp2
        go_ret
        exact ⟨by rw [F.out]; rfl, q, rfl⟩
  · have m1 : ((n : Int) != (m : Int)) = true := by simp; omega
    have F := hide' (list_ne_len (xs := xs) (ys := ys) (by rw [← hlx, ← hly]; exact hnm))
    clear hA hB hlx hly hnm
    go_enter Tryd.func10, Tryd.ntmps10
    go_wp2
    go_ret
    exact ⟨by rw [F.out]; rfl, 0, rfl⟩

end Go.Proofs.YtopcgkncmhhkmaaDoor

namespace Go.Proofs.YtopcgkncmhhkmaaDoor
open Go.RowKit
set_option linter.unusedVariables false
set_option linter.unusedSimpArgs false
theorem ints_rows {V : World} {g h L : Nat} {F : Nat → Nat} (hL : L ≤ 100) (a : ArV V g L 3 (iQ F)) (b : ArV V h L 3 (iQ F)) : Calls Tryd.prog 10 #[.slice (some ⟨g, 0, none⟩) L L, .slice (some ⟨h, 0, none⟩) L L] V fun e w' => e = .returned (.bool true) ∧ Below V.heap.size V w' := by
  refine (Ints_any (rwL L F) (rwL L F) _ _ L L L L V (a.arg hL) (b.arg hL)).mono ?_
  rintro e w' ⟨rfl, q, rfl⟩
  exact ⟨by rw [decide_eq_true rfl], below_drewN (Below.refl _ _) q⟩
theorem ints_nil (V : World) : Calls Tryd.prog 10 #[.slice none 0 0, .slice none 0 0] V fun e w' => e = .returned (.bool true) ∧ Below V.heap.size V w' := by
  have A : ArgP V [] none 0 0 := ⟨rfl, by unfold maxLen; omega, fun k hk => absurd hk (Nat.not_lt_zero _)⟩
  refine (Ints_any [] [] none none 0 0 0 0 V A A).mono ?_
  rintro e w' ⟨rfl, q, rfl⟩
  exact ⟨rfl, below_drewN (Below.refl _ _) q⟩
theorem Handle.belowS {w V : World} (hg : Handle w) (h : Below w.heap.size w V) : Handle V := cell_keep hg (h.block _ hg.lt)
theorem ntF_ok {W H : Int} {m : Nat} (h : ntF W H m = 0) : ∃ v u : Nat, W = (v : Int) ∧ H = (u : Int) ∧ 1 ≤ v ∧ v ≤ 6 ∧ 1 ≤ u ∧ u ≤ 6 ∧ v * u ≤ m := by
  unfold ntF at h
  by_cases q : W < 1 ∨ 6 < W ∨ H < 1 ∨ 6 < H
  · rw [if_pos q] at h; cases h
  · rw [if_neg q] at h
    by_cases q2 : (m : Int) < W * H
    · rw [if_pos q2] at h; cases h
    · obtain ⟨v, rfl⟩ : ∃ v : Nat, W = (v : Int) := ⟨W.toNat, by omega⟩
      obtain ⟨u, rfl⟩ : ∃ v : Nat, H = (v : Int) := ⟨H.toNat, by omega⟩
      refine ⟨v, u, rfl, rfl, by omega, by omega, by omega, by omega, ?_⟩
      have : (v : Int) * (u : Int) = ((v * u : Nat) : Int) := by push_cast; rfl
      rw [this] at q2
      omega
theorem net30 (W H : Int) (V : World) : Calls Tryd.prog 5 #[.int .i64 W, .int .i64 H, .int .i64 30] V fun e w' => e = .returned (.int .i64 (ntF W H 30 : Int)) ∧ w' = V := refNet_any W H 30 V (by decide)
theorem net16 (W H : Int) (V : World) : Calls Tryd.prog 5 #[.int .i64 W, .int .i64 H, .int .i64 16] V fun e w' => e = .returned (.int .i64 (ntF W H 16 : Int)) ∧ w' = V := refNet_any W H 16 V (by decide)
theorem err_zero (V : World) : Calls Tryd.prog 7 #[.nilIface, .int .i64 0] V fun e w' => e = .returned (.bool true) ∧ w' = V := error_nil 0 V
theorem err_same (f : Nat) (V : World) (hg : Handle V) (h : f ≠ 0) : Calls Tryd.prog 7 #[.iface 40 (.int .i64 (f : Int)), .int .i64 (f : Int)] V fun e w' => e = .returned (.bool true) ∧ Below V.heap.size V w' := by
  refine (error_errno (f : Int) (f : Int) V hg).mono ?_
  rintro e w' ⟨rfl, b⟩
  exact ⟨by simp, b⟩
set_option maxRecDepth 100000 in
set_option maxHeartbeats 3200000 in
theorem law_sc_bad (W H : Int) (cor : Bool) (w : World) (hg : Handle w) (h : ntF W H 30 ≠ 0) : Calls Tryd.prog 3 #[.int .i64 W, .int .i64 H, .bool cor] w fun e w' => e = .returned (.bool true) ∧ Below w.heap.size w w' := by
  have NC := hide' (net30 W H w)
  have FC := hide' (fun V => free_bad W H V h)
  have EC := hide' (fun V => energies_bad W H V h)
  have fb : ntF W H 30 ≤ 4 := by unfold ntF; split; decide; split <;> decide
  obtain ⟨f, hf⟩ : ∃ f, ntF W H 30 = f := ⟨_, rfl⟩
  rw [hf] at NC FC EC h fb
  have ER := hide' (fun V (b : Below w.heap.size w V) => err_same f V (hg.belowS b) h)
  have fz : ((f : Int) != 0) = true := by simp; omega
  clear hf h hg
  go_enter Tryd.func3, Tryd.ntmps3
  go_wp2_with fail
  refine NC.out.mono ?_
  rintro o w1 ⟨rfl, rfl⟩
  go_wp2_with fail
  refine (FC.out w1).mono ?_
  rintro o w2 ⟨rfl, b2⟩
  go_wp2_with fail
  refine (ER.out w2 b2).mono ?_
  rintro o w3 ⟨rfl, b3⟩
  have b3' := b2.trans (b3.mono b2.size)
  clear b2 b3
  go_wp2_with fail
  refine (EC.out w3).mono ?_
  rintro o w4 ⟨rfl, b4⟩
  have b4' := b3'.trans (b4.mono b3'.size)
  clear b3' b4
  go_wp2_with fail
  refine (ER.out w4 b4').mono ?_
  rintro o w5 ⟨rfl, b5⟩
  have B5 := hide' (b4'.trans (b5.mono b4'.size))
  clear b4' b5
  go_wp2
  go_ret
  exact ⟨rfl, B5.out⟩
set_option maxRecDepth 100000 in
set_option maxHeartbeats 3200000 in
theorem law_sc_far (W H : Nat) (cor : Bool) (w : World) (hg : Handle w) (hz : TzTab w) (h1 : 1 ≤ W) (hW : W ≤ 6) (h3 : 1 ≤ H) (hH : H ≤ 6) (hN : W * H ≤ 30) (hC : ntF W H 16 ≠ 0) : Calls Tryd.prog 3 #[.int .i64 (W : Int), .int .i64 (H : Int), .bool cor] w fun e w' => e = .returned (.bool true) ∧ Below w.heap.size w w' := by
  have n0 : ntF W H 30 = 0 := by
    unfold ntF
    rw [if_neg (by omega), if_neg (by have : (W : Int) * (H : Int) = ((W * H : Nat) : Int) := by { push_cast; rfl }
                                      rw [this]; omega)]
  have NC := hide' (net30 W H w)
  rw [n0, show ((0 : Nat) : Int) = 0 from rfl] at NC
  have NC2 := hide' (fun V => net16 W H V)
  have FC := hide' (fun V => free_ok W H V h1 hW h3 hH hN)
  have EC := hide' (fun V => energies_ok W H V h1 hW h3 hH hN)
  have WF := hide' (fun V => refWays_f W H V h1 hW h3 hH hN)
  have WT := hide' (fun V => refWays_t W H V h1 hW h3 hH hN)
  have pf := pr_le72 (W := W) (H := H) false h1 hW h3 hH
  have pt := pr_le72 (W := W) (H := H) true h1 hW h3 hH
  obtain ⟨LF, hLF⟩ : ∃ L, prG W H false + 1 = L := ⟨_, rfl⟩
  obtain ⟨LT, hLT⟩ : ∃ L, prG W H true + 1 = L := ⟨_, rfl⟩
  have lf : LF ≤ 100 := by omega
  have lt : LT ≤ 100 := by omega
  obtain ⟨FF, hFF⟩ : ∃ F, wayN (wgU W H false) (W * H) = F := ⟨_, rfl⟩
  obtain ⟨FT, hFT⟩ : ∃ F, wayN (wgU W H true) (W * H) = F := ⟨_, rfl⟩
  rw [hLF, hFF] at FC WF
  rw [hLT, hFT] at EC WT
  have CC := hide' (fun V => crossings_bad W H cor V hC)
  have fb : ntF W H 16 ≤ 4 := by unfold ntF; split; decide; split <;> decide
  obtain ⟨f, hf⟩ : ∃ f, ntF W H 16 = f := ⟨_, rfl⟩
  rw [hf] at CC hC fb
  simp only [hf] at NC2
  have ER := hide' (fun V (b : Below w.heap.size w V) => err_same f V (hg.belowS b) hC)
  have fz : ((f : Int) == 0) = false := by simp; omega
  clear hf hC
  clear n0 hLF hLT hFF hFT pf pt hN hg hz
  go_enter Tryd.func3, Tryd.ntmps3
  go_wp2_with fail
  refine NC.out.mono ?_
  rintro o w1 ⟨rfl, rfl⟩
  go_wp2_with fail
  refine (FC.out w1).mono ?_
  rintro o w2 ⟨ga, rfl, a2, g2, b2⟩
  have A2 := hide' a2
  have B2 := hide' b2
  clear a2 g2 b2
  go_wp2_with fail
  refine (err_zero w2).mono ?_
  rintro o w3 ⟨rfl, rfl⟩
  go_wp2_with fail
  refine (EC.out w3).mono ?_
  rintro o w4 ⟨gb, rfl, a4, g4, b4⟩
  have C4 := hide' a4
  have A4 := hide' (A2.out.below b4 A2.out.lt)
  have B4 := hide' (B2.out.trans (b4.mono B2.out.size))
  clear a4 g4 b4 A2 B2
  go_wp2_with fail
  refine (err_zero w4).mono ?_
  rintro o w5 ⟨rfl, rfl⟩
  go_wp2_with fail
  refine (WF.out w5).mono ?_
  rintro o w6 ⟨gx, rfl, a6, g6, b6⟩
  have X6 := hide' a6
  have A6 := hide' (A4.out.below b6 A4.out.lt)
  have C6 := hide' (C4.out.below b6 C4.out.lt)
  have B6 := hide' (B4.out.trans (b6.mono B4.out.size))
  clear a6 g6 b6 A4 C4 B4
  go_wp2_with fail
  refine (WT.out w6).mono ?_
  rintro o w7 ⟨gy, rfl, a7, g7, b7⟩
  have Y7 := hide' a7
  have X7 := hide' (X6.out.below b7 X6.out.lt)
  have A7 := hide' (A6.out.below b7 A6.out.lt)
  have C7 := hide' (C6.out.below b7 C6.out.lt)
  have B7 := hide' (B6.out.trans (b7.mono B6.out.size))
  clear a7 g7 b7 A6 C6 B6 X6
  go_wp2_with fail
  refine (ints_rows lf A7.out X7.out).mono ?_
  rintro o w8 ⟨rfl, b8⟩
  have Y8 := hide' (Y7.out.below b8 Y7.out.lt)
  have C8 := hide' (C7.out.below b8 C7.out.lt)
  have B8 := hide' (B7.out.trans (b8.mono B7.out.size))
  clear b8 A7 X7 Y7 C7 B7
  go_wp2_with fail
  refine (ints_rows lt C8.out Y8.out).mono ?_
  rintro o w9 ⟨rfl, b9⟩
  have B9 := hide' (B8.out.trans (b9.mono B8.out.size))
  clear b9 Y8 C8 B8
  go_wp2_with fail
  refine (NC2.out w9).mono ?_
  rintro o w10 ⟨rfl, rfl⟩
  go_wp2_with fail
  refine (CC.out w10).mono ?_
  rintro o w11 ⟨rfl, b11⟩
  have B11 := hide' (B9.out.trans (b11.mono B9.out.size))
  clear b11 B9
  go_wp2_with fail
  refine (ER.out w11 B11.out).mono ?_
  rintro o w12 ⟨rfl, b12⟩
  have B12 := hide' (B11.out.trans (b12.mono B11.out.size))
  clear b12 B11
  go_wp2_with fail
  refine (ints_nil w12).mono ?_
  rintro o w13 ⟨rfl, b13⟩
  have B13 := hide' (B12.out.trans (b13.mono B12.out.size))
  clear b13 B12
  go_wp2
  go_ret
  exact ⟨rfl, B13.out⟩
set_option maxRecDepth 100000 in
set_option maxHeartbeats 3200000 in
theorem law_sc_near (W H : Nat) (cor : Bool) (w : World) (hg : Handle w) (hz : TzTab w) (h1 : 1 ≤ W) (hW : W ≤ 6) (h3 : 1 ≤ H) (hH : H ≤ 6) (hN : W * H ≤ 30) (hC : W * H ≤ 16) : Calls Tryd.prog 3 #[.int .i64 (W : Int), .int .i64 (H : Int), .bool cor] w fun e w' => e = .returned (.bool true) ∧ Below w.heap.size w w' := by
  have n0 : ntF W H 30 = 0 := by
    unfold ntF
    rw [if_neg (by omega), if_neg (by have : (W : Int) * (H : Int) = ((W * H : Nat) : Int) := by { push_cast; rfl }
                                      rw [this]; omega)]
  have NC := hide' (net30 W H w)
  rw [n0, show ((0 : Nat) : Int) = 0 from rfl] at NC
  have NC2 := hide' (fun V => net16 W H V)
  have FC := hide' (fun V => free_ok W H V h1 hW h3 hH hN)
  have EC := hide' (fun V => energies_ok W H V h1 hW h3 hH hN)
  have WF := hide' (fun V => refWays_f W H V h1 hW h3 hH hN)
  have WT := hide' (fun V => refWays_t W H V h1 hW h3 hH hN)
  have pf := pr_le72 (W := W) (H := H) false h1 hW h3 hH
  have pt := pr_le72 (W := W) (H := H) true h1 hW h3 hH
  obtain ⟨LF, hLF⟩ : ∃ L, prG W H false + 1 = L := ⟨_, rfl⟩
  obtain ⟨LT, hLT⟩ : ∃ L, prG W H true + 1 = L := ⟨_, rfl⟩
  have lf : LF ≤ 100 := by omega
  have lt : LT ≤ 100 := by omega
  obtain ⟨FF, hFF⟩ : ∃ F, wayN (wgU W H false) (W * H) = F := ⟨_, rfl⟩
  obtain ⟨FT, hFT⟩ : ∃ F, wayN (wgU W H true) (W * H) = F := ⟨_, rfl⟩
  rw [hLF, hFF] at FC WF
  rw [hLT, hFT] at EC WT
  have CC := hide' (fun V (b : Below w.heap.size w V) => crossings_ok W H cor V h1 hW h3 hH hC (hz.below b))
  have RC := hide' (fun V => refCrossings_any W H cor V h1 hW h3 hH hC)
  have n1 : ntF W H 16 = 0 := by
    unfold ntF
    rw [if_neg (by omega), if_neg (by have : (W : Int) * (H : Int) = ((W * H : Nat) : Int) := by { push_cast; rfl }
                                      rw [this]; omega)]
  simp only [n1, show ((0 : Nat) : Int) = 0 from rfl] at NC2
  obtain ⟨LC, hLC⟩ : ∃ L, W * H + 1 = L := ⟨_, rfl⟩
  have lc : LC ≤ 100 := by omega
  rw [hLC] at CC RC
  clear n1 hLC hC
  clear n0 hLF hLT hFF hFT pf pt hN hg hz
  go_enter Tryd.func3, Tryd.ntmps3
  go_wp2_with fail
  refine NC.out.mono ?_
  rintro o w1 ⟨rfl, rfl⟩
  go_wp2_with fail
  refine (FC.out w1).mono ?_
  rintro o w2 ⟨ga, rfl, a2, g2, b2⟩
  have A2 := hide' a2
  have B2 := hide' b2
  clear a2 g2 b2
  go_wp2_with fail
  refine (err_zero w2).mono ?_
  rintro o w3 ⟨rfl, rfl⟩
  go_wp2_with fail
  refine (EC.out w3).mono ?_
  rintro o w4 ⟨gb, rfl, a4, g4, b4⟩
  have C4 := hide' a4
  have A4 := hide' (A2.out.below b4 A2.out.lt)
  have B4 := hide' (B2.out.trans (b4.mono B2.out.size))
  clear a4 g4 b4 A2 B2
  go_wp2_with fail
  refine (err_zero w4).mono ?_
  rintro o w5 ⟨rfl, rfl⟩
  go_wp2_with fail
  refine (WF.out w5).mono ?_
  rintro o w6 ⟨gx, rfl, a6, g6, b6⟩
  have X6 := hide' a6
  have A6 := hide' (A4.out.below b6 A4.out.lt)
  have C6 := hide' (C4.out.below b6 C4.out.lt)
  have B6 := hide' (B4.out.trans (b6.mono B4.out.size))
  clear a6 g6 b6 A4 C4 B4
  go_wp2_with fail
  refine (WT.out w6).mono ?_
  rintro o w7 ⟨gy, rfl, a7, g7, b7⟩
  have Y7 := hide' a7
  have X7 := hide' (X6.out.below b7 X6.out.lt)
  have A7 := hide' (A6.out.below b7 A6.out.lt)
  have C7 := hide' (C6.out.below b7 C6.out.lt)
  have B7 := hide' (B6.out.trans (b7.mono B6.out.size))
  clear a7 g7 b7 A6 C6 B6 X6
  go_wp2_with fail
  refine (ints_rows lf A7.out X7.out).mono ?_
  rintro o w8 ⟨rfl, b8⟩
  have Y8 := hide' (Y7.out.below b8 Y7.out.lt)
  have C8 := hide' (C7.out.below b8 C7.out.lt)
  have B8 := hide' (B7.out.trans (b8.mono B7.out.size))
  clear b8 A7 X7 Y7 C7 B7
  go_wp2_with fail
  refine (ints_rows lt C8.out Y8.out).mono ?_
  rintro o w9 ⟨rfl, b9⟩
  have B9 := hide' (B8.out.trans (b9.mono B8.out.size))
  clear b9 Y8 C8 B8
  go_wp2_with fail
  refine (NC2.out w9).mono ?_
  rintro o w10 ⟨rfl, rfl⟩
  go_wp2_with fail
  refine (CC.out w10 B9.out).mono ?_
  rintro o w11 ⟨gc, rfl, a11, g11, b11⟩
  have Z11 := hide' a11
  have B11 := hide' (B9.out.trans (b11.mono B9.out.size))
  clear a11 g11 b11 B9
  go_wp2_with fail
  refine (err_zero w11).mono ?_
  rintro o w12 ⟨rfl, rfl⟩
  go_wp2_with fail
  refine (RC.out w12).mono ?_
  rintro o w13 ⟨gd, rfl, a13, g13, b13⟩
  have D13 := hide' a13
  have Z13 := hide' (Z11.out.below b13 Z11.out.lt)
  have B13 := hide' (B11.out.trans (b13.mono B11.out.size))
  clear a13 g13 b13 Z11 B11
  go_wp2_with fail
  refine (ints_rows lc Z13.out D13.out).mono ?_
  rintro o w14 ⟨rfl, b14⟩
  have B14 := hide' (B13.out.trans (b14.mono B13.out.size))
  clear b14 B13 D13 Z13
  go_wp2
  go_ret
  exact ⟨rfl, B14.out⟩
theorem law_sc_all (W H : Int) (cor : Bool) (w : World) (hg : Handle w) (hz : TzTab w) : Calls Tryd.prog 3 #[.int .i64 W, .int .i64 H, .bool cor] w fun e w' => e = .returned (.bool true) ∧ Below w.heap.size w w' := by
  by_cases h : ntF W H 30 = 0
  · obtain ⟨v, u, rfl, rfl, a1, a2, a3, a4, a5⟩ := ntF_ok h
    by_cases q : v * u ≤ 16
    · exact law_sc_near v u cor w hg hz a1 a2 a3 a4 a5 q
    · refine law_sc_far v u cor w hg hz a1 a2 a3 a4 a5 ?_
      intro e
      obtain ⟨v', u', e1, e2, _, _, _, _, le⟩ := ntF_ok e
      obtain rfl : v = v' := by omega
      obtain rfl : u = u' := by omega
      exact q le
  · exact law_sc_bad W H cor w hg h
end Go.Proofs.YtopcgkncmhhkmaaDoor

namespace Go.Proofs.YtopcgkncmhhkmaaDoor
open Go.ChangeShapes Go.WideShapes Go.ChangeAt Go.RowKit
open Go.ChangeMaps (setBlock shut_map_nil open_string shut_string keptBut_setBlock frozen?_setBlock heap_setBlock_same)
set_option linter.unusedVariables false

theorem ownP : ownKnob Tryd.prog.godebug = none := by kernel_rfl
theorem errorTypeAtP : Tryd.prog.globalNamed "errors.errorType" = some 0 := by kernel_rfl
theorem rtypeAtP : (Tryd.prog.cutTypes.find? (·.1 == "internal/reflectlite.rtype")).map (·.2) = some 81 := by kernel_rfl
theorem oneRowP : ((List.range 124).filter fun t => Tryd.prog.rowNamed t [101, 114, 114, 111, 114]) = [25] := by kernel_rfl
theorem typesSizeP : Tryd.prog.types.size = 124 := by kernel_rfl

/-- What the condition on the listed variable gives a walk: its one cell. -/
theorem handle_laid {W : World} (h : handlesMet Tryd.prog [("errors.errorType", Rows.laid_errors_errorType)] W) : Handle W := by
  obtain ⟨name, u, ty, e1, e2, e3, e4, e5⟩ := h _ (List.mem_singleton.2 rfl)
  have en : name = [101, 114, 114, 111, 114] := (Option.some.inj e1).symm
  subst en
  obtain rfl := Option.some.inj (rtypeAtP.symm.trans e2)
  have hm : ty ∈ (List.range 124).filter fun t => Tryd.prog.rowNamed t [101, 114, 114, 111, 114] := List.mem_filter.2 ⟨List.mem_range.2 (by rw [← typesSizeP]; exact e3), e4⟩
  rw [oneRowP] at hm
  obtain rfl := List.mem_singleton.1 hm
  have hh : typeHandle Tryd.prog 25 = .pointer (some ⟨3, 25, none⟩) := by kernel_rfl
  rw [hh] at e5
  simpa [Handle] using World.var?_cell errorTypeAtP e5 0

/-- The variable's cell laid. -/
def layBlockP (o : Obj) : Obj := match o with
  | .cells _ t frozen => .cells #[.iface 81 (.agg #[.pointer (some ⟨3, 25, none⟩)])] t frozen
  | o => o
def layWorldP (w : World) : World := { w with heap := w.heap.modify 0 layBlockP }

end Go.Proofs.YtopcgkncmhhkmaaDoor

namespace Go.Proofs.YtopcgkncmhhkmaaDoor
open Go.ChangeShapes Go.WideShapes Go.ChangeAt Go.RowKit
set_option linter.unusedVariables false

theorem tzAt : Tryd.prog.globalNamed "math/bits.deBruijn64tab" = some 2 := by kernel_rfl
theorem tz_of_laid {W : World} {l : List (String × DataW Unit)} (he : (l.filter fun x => x.1 == "math/bits.deBruijn64tab") = [("math/bits.deBruijn64tab", Lib.tabData .u8 (Lib.deBruijn64tab.map fun (x : Nat) => (x : Int)))])
    (h : laidMet Tryd.prog l W) : TzTab W := by
  have h1 := h.filter fun x => x.1 == "math/bits.deBruijn64tab"
  rw [he] at h1
  have h2 := Lib.tabIs_of_head tzAt (show (Tryd.prog.globals[2]?).map (·.type) = some 95 by kernel_rfl) Tryd.underlying95 Tryd.underlying5 (by kernel_rfl) (by kernel_rfl) h1
  intro j hj
  have hl : Lib.deBruijn64tab.length = 64 := by decide
  have h3 := h2.cell tzAt j (by rw [List.length_map, hl]; exact hj)
  rw [h3]
  have hj' : j < Lib.deBruijn64tab.length := by rw [hl]; exact hj
  simp [List.getD, hj']
end Go.Proofs.YtopcgkncmhhkmaaDoor

