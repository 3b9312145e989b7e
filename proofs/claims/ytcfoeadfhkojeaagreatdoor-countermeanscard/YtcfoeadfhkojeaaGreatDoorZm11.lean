/-
  What the last text of this claim leans on, part 11: Cm3, Cb6.
-/
import Derived.Test.YtcfoeadfhkojeaaGreatDoorZm10
import Derived.Test.YtcfoeadfhkojeaaGreatDoorZm1
import Derived.Test.YtcfoeadfhkojeaaGreatDoorZm9
import Derived.Deep.RegionHeld3
import Derived.Deep.CutRange
namespace Go.Proofs.YtcfoeadfhkojeaaGreatDoor
open Go.RowKit
set_option linter.unusedVariables false
/-- The powers of the first so many primes, times q. -/
def parP (c : Nat → Int) (q : Nat) : Nat → Nat
  | 0 => q
  | i + 1 => parP c q i * prN i ^ (c i).toNat
theorem par_four (c : Nat → Int) (q : Nat) : parP c q 4 = valP c * q := by
  simp only [parP, valP]
  ac_rfl
theorem par_mono (c : Nat → Int) (q : Nat) : ∀ d i, i + d ≤ 28 → parP c q i ≤ parP c q (i + d)
  | 0, i, _ => Nat.le_refl _
  | d + 1, i, h => by
    refine Nat.le_trans (par_mono c q d i (by omega)) ?_
    show _ ≤ parP c q (i + d) * prN (i + d) ^ (c (i + d)).toNat
    exact Nat.le_mul_of_pos_right _ (Nat.pow_pos (by have := pr_two (i := i + d) (by omega); omega))
theorem par_great {c : Nat → Int} {q i k n : Nat} (hi : i < 4) (hk : (k : Int) < c i) (hn : parP c q i * prN i ^ k = n) (hg : 4611686018427387904 < n * prN i) : 4611686018427387904 < valP c * q := by
  rw [← par_four]
  have h1 := par_mono c q (3 - i) (i + 1) (by omega)
  rw [show i + 1 + (3 - i) = 4 by omega] at h1
  have h2 : n * prN i ≤ parP c q (i + 1) := by
    rw [← hn, Nat.mul_assoc, ← Nat.pow_succ]
    show _ ≤ parP c q i * prN i ^ (c i).toNat
    exact Nat.mul_le_mul_left _ (Nat.pow_le_pow_right (by have := pr_two (i := i) (by omega); omega) (by omega))
  omega
/-- What number answers. -/
def numA (c : Nat → Int) (q : Nat) : Nat := if valP c * q ≤ 4611686018427387904 then valP c * q else 0
set_option maxRecDepth 100000 in
set_option maxHeartbeats 6400000 in
theorem number_any (cs : List Int) (a : Option Addr) (d q : Nat) (w : World) (hC : ArgP w cs a 4 d) (h4 : cs.length = 4) (hr : ∀ k, k < 4 → 0 ≤ cs.getD k 0 ∧ cs.getD k 0 ≤ 1000000) (q1 : 1 ≤ q) (q2 : q ≤ 107) :
    Calls Tryz.prog 10 #[.slice a 4 d, .int .i64 (q : Int)] w fun e w' => e = .returned (.int .i64 (numA (fun k => cs.getD k 0) q : Int)) ∧ Below w.heap.size w w' := by
  obtain ⟨c, hc⟩ : ∃ c : Nat → Int, (fun k => cs.getD k 0) = c := ⟨_, rfl⟩
  rw [hc]
  have HR := hide' (show ∀ k, k < 4 → 0 ≤ c k ∧ c k ≤ 1000000 by rw [← hc]; exact hr)
  obtain ⟨g, off, rfl, -, -⟩ := hC.cells 0 (by omega)
  have HCw := hide' (fun (V : World) (hb : Below w.heap.size w V) (k : Nat) (hk : k < 4) => show V.cell? ⟨g, off + k, none⟩ = some (.int .i64 (c k)) by
    obtain ⟨g', off', e, -, h⟩ := (hC.below hb).cells k (by omega)
    cases e
    rw [h, ← hc]; simp [List.getD, show k < cs.length by omega])
  have NA1 := hide' (fun (h : valP c * q ≤ 4611686018427387904) => show numA c q = valP c * q by unfold numA; rw [if_pos h])
  have NA0 := hide' (fun (h : 4611686018427387904 < valP c * q) => show numA c q = 0 by unfold numA; rw [if_neg (by omega)])
  have Q1 := hide' (And.intro q1 q2)
  obtain ⟨w2, hw2⟩ : ∃ w2, w.alloc (.cells #[.int .i64 2, .int .i64 3, .int .i64 5, .int .i64 7] 3) = w2 := ⟨_, rfl⟩
  have B2 := hide' (show Below w.heap.size w w2 by rw [← hw2]; exact (Below.refl _ _).alloc (Nat.le_refl _) _)
  have R2 := hide' (show w2.heap[w.heap.size]? = some (.cells #[.int .i64 2, .int .i64 3, .int .i64 5, .int .i64 7] 3 (0, 0)) by rw [← hw2]; exact heap_alloc_new _ _)
  have p0 := cell_of_row w2 _ 0 _ _ _ R2.out
  have p1 := cell_of_row w2 _ 1 _ _ _ R2.out
  have p2 := cell_of_row w2 _ 2 _ _ _ R2.out
  have p3 := cell_of_row w2 _ 3 _ _ _ R2.out
  simp at p0 p1 p2 p3
  have C0 := HCw.out w2 B2.out 0 (by omega)
  have C1 := HCw.out w2 B2.out 1 (by omega)
  have C2 := HCw.out w2 B2.out 2 (by omega)
  have C3 := HCw.out w2 B2.out 3 (by omega)
  rw [Nat.add_zero] at C0
  have HW2 := hide' hw2
  clear hC h4 hr hc q1 q2 hw2 HCw
  go_enter Tryz.func10, Tryz.ntmps10
  go_upto_region 3 with fail
  rw [HW2.out]
  go_wp2
  go_loopw [5, 7] (fun nv iv wr => ∃ (n i : Nat), nv = .int .i64 (n : Int) ∧ iv = .int .i64 (i : Int) ∧ i ≤ 4 ∧ n ≤ 4611686018427387904 ∧ w2 = wr ∧ Hid (parP c q i = n)) (fun _ iv _ => 4 - (intOf iv).toNat)
  case atStart => exact ⟨q, 0, rfl, rfl, by omega, by have := Q1.out; omega, rfl, hide' rfl⟩
  case round =>
    obtain ⟨n0, i, rfl, rfl, hi, hn0, rfl, PN⟩ := hrel
    rcases (show i = 0 ∨ i = 1 ∨ i = 2 ∨ i = 3 ∨ i = 4 by omega) with rfl | rfl | rfl | rfl | rfl
    · have HC := HR.out 0 (by omega)
      obtain ⟨ci, hci⟩ : ∃ x, c 0 = x := ⟨_, rfl⟩
      rw [hci] at HC C0
      have HCI := hide' hci
      clear hci
      go_wp2
      go_loopw [5, 8] (fun nv kv wr => ∃ (n k : Nat), nv = .int .i64 (n : Int) ∧ kv = .int .i64 (k : Int) ∧ (k : Int) ≤ ci ∧ n ≤ 4611686018427387904 ∧ w2 = wr ∧ Hid (parP c q 0 * prN 0 ^ k = n)) (fun _ kv _ => 1000000 - (intOf kv).toNat)
      case atStart => exact ⟨n0, 0, rfl, rfl, by omega, hn0, rfl, hide' (by rw [PN.out]; simp)⟩
      case round =>
        obtain ⟨n, k, rfl, rfl, hk, hn, rfl, PK⟩ := hrel
        by_cases dk : (k : Int) < ci
        · by_cases gr : (2305843009213693952 : Int) < (n : Int)
          · have F := hide' (NA0.out (par_great (i := 0) (k := k) (by omega) (by rw [HCI.out]; exact dk) PK.out (by show _ < n * 2; omega)))
            go_wp2
            go_ret
            exact ⟨by rw [F.out]; rfl, B2.out⟩
          · go_wp2
            exact ⟨⟨n * 2, k + 1, by go_num, by go_num, by omega, by omega, by trivial, hide' (by rw [Nat.pow_succ, ← Nat.mul_assoc, PK.out]; rfl)⟩, by simp [intOf]; omega⟩
        · have PE := hide' (show parP c q 1 = n by rw [← PK.out]; show parP c q 0 * prN 0 ^ (c 0).toNat = _; rw [HCI.out, show ci.toNat = k by omega])
          go_wp2
          exact ⟨⟨n, 1, rfl, by go_num, by omega, hn, by trivial, PE⟩, by simp [intOf]⟩
    · have HC := HR.out 1 (by omega)
      obtain ⟨ci, hci⟩ : ∃ x, c 1 = x := ⟨_, rfl⟩
      rw [hci] at HC C1
      have HCI := hide' hci
      clear hci
      go_wp2
      go_loopw [5, 8] (fun nv kv wr => ∃ (n k : Nat), nv = .int .i64 (n : Int) ∧ kv = .int .i64 (k : Int) ∧ (k : Int) ≤ ci ∧ n ≤ 4611686018427387904 ∧ w2 = wr ∧ Hid (parP c q 1 * prN 1 ^ k = n)) (fun _ kv _ => 1000000 - (intOf kv).toNat)
      case atStart => exact ⟨n0, 0, rfl, rfl, by omega, hn0, rfl, hide' (by rw [PN.out]; simp)⟩
      case round =>
        obtain ⟨n, k, rfl, rfl, hk, hn, rfl, PK⟩ := hrel
        by_cases dk : (k : Int) < ci
        · by_cases gr : (1537228672809129301 : Int) < (n : Int)
          · have F := hide' (NA0.out (par_great (i := 1) (k := k) (by omega) (by rw [HCI.out]; exact dk) PK.out (by show _ < n * 3; omega)))
            go_wp2
            go_ret
            exact ⟨by rw [F.out]; rfl, B2.out⟩
          · go_wp2
            exact ⟨⟨n * 3, k + 1, by go_num, by go_num, by omega, by omega, by trivial, hide' (by rw [Nat.pow_succ, ← Nat.mul_assoc, PK.out]; rfl)⟩, by simp [intOf]; omega⟩
        · have PE := hide' (show parP c q 2 = n by rw [← PK.out]; show parP c q 1 * prN 1 ^ (c 1).toNat = _; rw [HCI.out, show ci.toNat = k by omega])
          go_wp2
          exact ⟨⟨n, 2, rfl, by go_num, by omega, hn, by trivial, PE⟩, by simp [intOf]⟩
    · have HC := HR.out 2 (by omega)
      obtain ⟨ci, hci⟩ : ∃ x, c 2 = x := ⟨_, rfl⟩
      rw [hci] at HC C2
      have HCI := hide' hci
      clear hci
      go_wp2
      go_loopw [5, 8] (fun nv kv wr => ∃ (n k : Nat), nv = .int .i64 (n : Int) ∧ kv = .int .i64 (k : Int) ∧ (k : Int) ≤ ci ∧ n ≤ 4611686018427387904 ∧ w2 = wr ∧ Hid (parP c q 2 * prN 2 ^ k = n)) (fun _ kv _ => 1000000 - (intOf kv).toNat)
      case atStart => exact ⟨n0, 0, rfl, rfl, by omega, hn0, rfl, hide' (by rw [PN.out]; simp)⟩
      case round =>
        obtain ⟨n, k, rfl, rfl, hk, hn, rfl, PK⟩ := hrel
        by_cases dk : (k : Int) < ci
        · by_cases gr : (922337203685477580 : Int) < (n : Int)
          · have F := hide' (NA0.out (par_great (i := 2) (k := k) (by omega) (by rw [HCI.out]; exact dk) PK.out (by show _ < n * 5; omega)))
            go_wp2
            go_ret
            exact ⟨by rw [F.out]; rfl, B2.out⟩
          · go_wp2
            exact ⟨⟨n * 5, k + 1, by go_num, by go_num, by omega, by omega, by trivial, hide' (by rw [Nat.pow_succ, ← Nat.mul_assoc, PK.out]; rfl)⟩, by simp [intOf]; omega⟩
        · have PE := hide' (show parP c q 3 = n by rw [← PK.out]; show parP c q 2 * prN 2 ^ (c 2).toNat = _; rw [HCI.out, show ci.toNat = k by omega])
          go_wp2
          exact ⟨⟨n, 3, rfl, by go_num, by omega, hn, by trivial, PE⟩, by simp [intOf]⟩
    · have HC := HR.out 3 (by omega)
      obtain ⟨ci, hci⟩ : ∃ x, c 3 = x := ⟨_, rfl⟩
      rw [hci] at HC C3
      have HCI := hide' hci
      clear hci
      go_wp2
      go_loopw [5, 8] (fun nv kv wr => ∃ (n k : Nat), nv = .int .i64 (n : Int) ∧ kv = .int .i64 (k : Int) ∧ (k : Int) ≤ ci ∧ n ≤ 4611686018427387904 ∧ w2 = wr ∧ Hid (parP c q 3 * prN 3 ^ k = n)) (fun _ kv _ => 1000000 - (intOf kv).toNat)
      case atStart => exact ⟨n0, 0, rfl, rfl, by omega, hn0, rfl, hide' (by rw [PN.out]; simp)⟩
      case round =>
        obtain ⟨n, k, rfl, rfl, hk, hn, rfl, PK⟩ := hrel
        by_cases dk : (k : Int) < ci
        · by_cases gr : (658812288346769700 : Int) < (n : Int)
          · have F := hide' (NA0.out (par_great (i := 3) (k := k) (by omega) (by rw [HCI.out]; exact dk) PK.out (by show _ < n * 7; omega)))
            go_wp2
            go_ret
            exact ⟨by rw [F.out]; rfl, B2.out⟩
          · go_wp2
            exact ⟨⟨n * 7, k + 1, by go_num, by go_num, by omega, by omega, by trivial, hide' (by rw [Nat.pow_succ, ← Nat.mul_assoc, PK.out]; rfl)⟩, by simp [intOf]; omega⟩
        · have PE := hide' (show parP c q 4 = n by rw [← PK.out]; show parP c q 3 * prN 3 ^ (c 3).toNat = _; rw [HCI.out, show ci.toNat = k by omega])
          go_wp2
          exact ⟨⟨n, 4, rfl, by go_num, by omega, hn, by trivial, PE⟩, by simp [intOf]⟩
    · have F := hide' (show numA c q = n0 by rw [NA1.out (by rw [← par_four, PN.out]; exact hn0), ← par_four, PN.out])
      go_wp2
      go_ret
      exact ⟨by rw [F.out]; rfl, B2.out⟩
end Go.Proofs.YtcfoeadfhkojeaaGreatDoor

namespace Go.Proofs.YtcfoeadfhkojeaaGreatDoor
open Go.RowKit
set_option linter.unusedVariables false
structure GaB (w : World) (gb : Nat) (sl : Value) (n : Nat) : Prop where
  row : w.heap[gb]? = some (.cells #[sl, .int .i64 (n : Int)] 72 (0, 0))
theorem GaB.lt {w : World} {gb : Nat} {sl : Value} {n : Nat} (h : GaB w gb sl n) : gb < w.heap.size := lt_of_block h.row
theorem GaB.below {w w' : World} {gb : Nat} {sl : Value} {n B : Nat} (h : GaB w gb sl n) (hb : Below B w w') (hB : gb < B) : GaB w' gb sl n := ⟨(hb.block gb hB).trans h.row⟩
theorem GaB.set {w : World} {gb : Nat} {sl : Value} {n : Nat} (h : GaB w gb sl n) (m : Nat) : GaB (w.setCell ⟨gb, 1, none⟩ (.int .i64 (m : Int))) gb sl m := ⟨by rw [heap_setCell_same w gb 1 _ _ _ h.row]; rfl⟩
/-- What a step of a game answers. -/
def StepG (xs : List FraT) (gb B : Nat) (sl : Value) (n : Nat) (eb : Addr) (w : World) (e : Ending) (w' : World) : Prop :=
  (firstF n xs = none ∧ e = .returned (.iface 158 (.pointer (some eb))) ∧ Below w.heap.size w w') ∨
  (∃ p, firstF n xs = some p ∧ 4611686018427387904 < nextF n p ∧ e = .returned (.iface 73 (.int .i64 4)) ∧ Below w.heap.size w w') ∨
  (∃ p, firstF n xs = some p ∧ ¬ 4611686018427387904 < nextF n p ∧ e = .returned .nilIface ∧ GaB w' gb sl (nextF n p) ∧ Below B w w')
set_option maxRecDepth 100000 in
set_option maxHeartbeats 12800000 in
theorem gameStep_any (xs : List FraT) (a : Option Addr) (m c gb B n : Nat) (eb : Addr) (w : World) (hg : GaB w gb (.slice a m c) n) (hP : ArgF w xs a m c) (hE : EndT w eb) (hn : n < 9223372036854775808) (hB : B ≤ gb) (al : xs.all fraB = true) :
    Calls Tryz.prog 28 #[.pointer (some ⟨gb, 0, none⟩)] w (StepG xs gb B (.slice a m c) n eb w) := by
  have HL := hide' hP.len
  have nm := hP.max
  have HP := hide' (fun (V : World) (h : Below w.heap.size w V) => hP.below (B := 0) h)
  have HG := hide' (fun (V : World) (h : Below w.heap.size w V) => hg.below h hg.lt)
  have HE := hide' (fun (V : World) (h : Below w.heap.size w V) => hE.below h hE.lt)
  have GL := hide' hg.lt
  have c0 := cell_of_row w _ 0 _ _ _ hg.row
  simp at c0
  have FB := hide' (show ∀ k (h : k < xs.length), ∃ u l : Nat, xs[k] = ((u : Int), (l : Int)) ∧ 0 < u ∧ 0 < l ∧ u < 9223372036854775808 ∧ l < 9223372036854775808 from fun k h => by
    have := List.all_eq_true.1 al xs[k] (List.getElem_mem h)
    have hf := hP.fit k h
    unfold fraB at this
    simp at this
    exact ⟨xs[k].1.toNat, xs[k].2.toNat, by rw [Int.toNat_of_nonneg (by omega), Int.toNat_of_nonneg (by omega)], by omega, by omega, by omega, by omega⟩)
  clear hP hg hE al
  go_enter Tryz.func28, Tryz.ntmps28
  go_wp2
  clear c0
  go_loopw [12] (fun kv wr => ∃ k : Nat, kv = .int .i64 (k : Int) ∧ k ≤ m ∧ Hid (Below w.heap.size w wr) ∧ Hid (∀ j (h : j < xs.length), j < k → fitsF n xs[j].1.toNat xs[j].2.toNat = false)) (fun kv _ => m - (intOf kv).toNat)
  case atStart => exact ⟨0, rfl, by omega, hide' (Below.refl _ _), hide' (fun j h hj => by omega)⟩
  case round =>
    obtain ⟨k, rfl, hk, BW, HA⟩ := hrel
    by_cases d : (k : Int) < (m : Int)
    · have hkl : k < xs.length := by have := HL.out; omega
      obtain ⟨g, off, rfl, hgg, c0, c1⟩ := (HP.out wr BW.out).cells k hkl
      obtain ⟨u, l, hx, u0, l0, um, lm⟩ := FB.out k hkl
      rw [hx] at c0 c1
      simp only at c0 c1
      obtain ⟨w2, hw2⟩ : ∃ w2, wr.alloc (.cells #[.int .i64 (u : Int), .int .i64 (l : Int)] 69) = w2 := ⟨_, rfl⟩
      have BN := hide' (show Below w.heap.size w w2 from by rw [← hw2]; exact BW.out.alloc BW.out.size _)
      have r2 := hide' (show w2.heap[wr.heap.size]? = some (.cells #[.int .i64 (u : Int), .int .i64 (l : Int)] 69 (0, 0)) by rw [← hw2]; exact heap_alloc_new _ _)
      have f0 := cell_of_row w2 _ 0 _ _ _ r2.out
      have f1 := cell_of_row w2 _ 1 _ _ _ r2.out
      have g1 := cell_of_row w2 _ 1 _ _ _ (HG.out w2 BN.out).row
      simp at f0 f1 g1
      have SV := hide' (fun (V : World) (h : Below w2.heap.size w2 V) => show V.cell? ⟨wr.heap.size, 0, none⟩ = some (.int .i64 (u : Int)) ∧ V.cell? ⟨wr.heap.size, 1, none⟩ = some (.int .i64 (l : Int)) ∧ V.cell? ⟨gb, 1, none⟩ = some (.int .i64 (n : Int)) from ⟨(h.cell (p := ⟨wr.heap.size, 0, none⟩) (lt_of_block r2.out)).trans f0, (h.cell (p := ⟨wr.heap.size, 1, none⟩) (lt_of_block r2.out)).trans f1, (h.cell (p := ⟨gb, 1, none⟩) (Nat.lt_of_lt_of_le GL.out BN.out.size)).trans g1⟩)
      have FI := hide' (fun V => fits_anyC n u l hn um lm l0 V)
      have HX := hide' (show fitsF n xs[k].1.toNat xs[k].2.toNat = fitsF n u l by rw [hx]; simp)
      have NX := hide' (show nextF n xs[k] = n * u / l by unfold nextF; rw [hx]; simp)
      clear hx
      cases hf : fitsF n u l
      · rw [hf] at FI
        have NO := hide' (show ∀ j (h : j < xs.length), j < k + 1 → fitsF n xs[j].1.toNat xs[j].2.toNat = false from fun j h hj => by
          by_cases e : j = k
          · subst e; rw [HX.out]; exact hf
          · exact HA.out j h (by omega))
        clear hf
        go_upto_region 4 with fail
        clear hw2
        go_region_held3 (fun V => V.cell? ⟨wr.heap.size, 0, none⟩ = some (.int .i64 (u : Int)) ∧ V.cell? ⟨wr.heap.size, 1, none⟩ = some (.int .i64 (l : Int)) ∧ V.cell? ⟨gb, 1, none⟩ = some (.int .i64 (n : Int))) (first | exact SV.out _ (Below.refl _ _) | exact SV.out _ (Below.refl _ _).drew | exact SV.out _ B3.out | fail)
          (first | (go_at_call 39; refine (FI.out _).mono ?_; rintro e w3 ⟨rfl, b3⟩; have B3 := hide' (show Below w2.heap.size w2 w3 from ((Below.refl _ _).drew).trans b3)) | fail)
        go_wp2
        exact ⟨⟨k + 1, by go_num, by omega, hide' (BN.out.trans (B3.out.mono BN.out.size)), NO⟩, by simp [intOf]; omega⟩
      · rw [hf] at FI
        have FR := hide' (first_at hkl HA.out (by rw [HX.out]; exact hf))
        clear hf
        by_cases fu : 4611686018427387904 < n * u / l
        · have TI := hide' (fun V => times_full n u l hn um lm l0 V fu)
          have FIN := hide' (show ∀ V, Below w.heap.size w V → StepG xs gb B (.slice (some ⟨g, off, none⟩) m c) n eb w (.returned (.iface 73 (.int .i64 4))) V from fun V hb => Or.inr (Or.inl ⟨xs[k], FR.out, by rw [NX.out]; exact fu, rfl, hb⟩))
          clear fu
          go_upto_region 4 with fail
          clear hw2
          go_region_held3 (fun V => V.cell? ⟨wr.heap.size, 0, none⟩ = some (.int .i64 (u : Int)) ∧ V.cell? ⟨wr.heap.size, 1, none⟩ = some (.int .i64 (l : Int)) ∧ V.cell? ⟨gb, 1, none⟩ = some (.int .i64 (n : Int))) (first | exact SV.out _ (Below.refl _ _) | exact SV.out _ (Below.refl _ _).drew | exact SV.out _ B3.out | fail)
            (first | (go_at_call 39; refine (FI.out _).mono ?_; rintro e w3 ⟨rfl, b3⟩; have B3 := hide' (show Below w2.heap.size w2 w3 from ((Below.refl _ _).drew).trans b3)) | fail)
          clear f0 f1 g1 c0 c1
          go_wp2
          go_region_held3 (fun V => V.cell? ⟨wr.heap.size, 0, none⟩ = some (.int .i64 (u : Int)) ∧ V.cell? ⟨wr.heap.size, 1, none⟩ = some (.int .i64 (l : Int)) ∧ V.cell? ⟨gb, 1, none⟩ = some (.int .i64 (n : Int))) (first | exact SV.out _ B3.out | exact SV.out _ B3.out.drew | exact SV.out _ B4.out | fail)
            (first | (go_at_call 40; refine (TI.out _).mono ?_; rintro e w4 ⟨rfl, b4⟩; have B4 := hide' (show Below w2.heap.size w2 w4 from B3.out.drew.trans (b4.mono B3.out.size))) | fail)
          go_wp2
          go_ret
          exact FIN.out _ (BN.out.trans (B4.out.mono BN.out.size))
        · have TI := hide' (fun V => times_ok n u l hn um lm l0 V (by omega))
          have FIN := hide' (show ∀ V, GaB V gb (.slice (some ⟨g, off, none⟩) m c) (n * u / l) → Below B w V → StepG xs gb B (.slice (some ⟨g, off, none⟩) m c) n eb w (.returned .nilIface) V from fun V h1 hb => Or.inr (Or.inr ⟨xs[k], FR.out, by rw [NX.out]; exact fu, rfl, by rw [NX.out]; exact h1, hb⟩))
          obtain ⟨q, hq⟩ : ∃ q, n * u / l = q := ⟨_, rfl⟩
          rw [hq] at FIN TI
          clear fu hq
          go_upto_region 4 with fail
          clear hw2
          go_region_held3 (fun V => V.cell? ⟨wr.heap.size, 0, none⟩ = some (.int .i64 (u : Int)) ∧ V.cell? ⟨wr.heap.size, 1, none⟩ = some (.int .i64 (l : Int)) ∧ V.cell? ⟨gb, 1, none⟩ = some (.int .i64 (n : Int))) (first | exact SV.out _ (Below.refl _ _) | exact SV.out _ (Below.refl _ _).drew | exact SV.out _ B3.out | fail)
            (first | (go_at_call 39; refine (FI.out _).mono ?_; rintro e w3 ⟨rfl, b3⟩; have B3 := hide' (show Below w2.heap.size w2 w3 from ((Below.refl _ _).drew).trans b3)) | fail)
          clear f0 f1 g1 c0 c1
          go_wp2
          go_region_held3 (fun V => V.cell? ⟨wr.heap.size, 0, none⟩ = some (.int .i64 (u : Int)) ∧ V.cell? ⟨wr.heap.size, 1, none⟩ = some (.int .i64 (l : Int)) ∧ V.cell? ⟨gb, 1, none⟩ = some (.int .i64 (n : Int))) (first | exact SV.out _ B3.out | exact SV.out _ B3.out.drew | exact SV.out _ B4.out | fail)
            (first | (go_at_call 40; refine (TI.out _).mono ?_; rintro e w4 ⟨rfl, b4⟩; have B4 := hide' (show Below w2.heap.size w2 w4 from B3.out.drew.trans (b4.mono B3.out.size))) | fail)
          have G4 := hide' (HG.out w4 (BN.out.trans (B4.out.mono BN.out.size)))
          have s1 := cell_of_row w4 _ 1 _ _ _ G4.out.row
          have z1 := frozen_of_row w4 _ 1 _ _ G4.out.row
          simp at s1
          go_wp2
          go_ret
          exact FIN.out _ (G4.out.set q) (((BN.out.trans (B4.out.mono BN.out.size)).mono (Nat.le_of_lt (Nat.lt_of_le_of_lt hB GL.out))).setCell hB _)
    · have FR := hide' (first_none (n := n) (xs := xs) (fun j hj => HA.out j hj (by have := HL.out; omega)))
      have E1 : wr.cell? ⟨3, 0, none⟩ = some (.iface 158 (.pointer (some eb))) := HE.out wr BW.out
      go_wp2
      go_ret
      exact Or.inl ⟨FR.out, rfl, BW.out⟩
end Go.Proofs.YtcfoeadfhkojeaaGreatDoor

