/-
  What the last text of this claim leans on, part 28: LawRrA, LawRrB.
-/
import Derived.Test.YtpppmollmiomlaaDoorZu27
namespace Go.Proofs.YtpppmollmiomlaaDoor
open Go.RowKit
set_option linter.unusedVariables false
set_option linter.unusedSimpArgs false
set_option maxRecDepth 100000 in
set_option maxHeartbeats 12800000 in
theorem law_rrA (P s : Int) (ea : Option Addr) (n c : Nat) (sa : Option Addr) (sn sc : Nat) (ca : Option Addr) (cn cc : Nat) (oa : Option Addr) (on oc : Nat) (f0 : Nat) (z : Bool) (F K : List Int → List Int → Prop) (w : World)
    (hS : ∀ V, Below w.heap.size w V → Calls Tryd.prog 4 #[.agg #[.int .i64 P, .slice ea n c], .int .i64 s, .slice sa sn sc] V fun e w' => e = .returned (.int .i64 (f0 : Int)) ∧ Below V.heap.size V w')
    (hT : ∀ V, Below w.heap.size w V → Calls Tryd.prog 5 #[.agg #[.int .i64 P, .slice ea n c], .int .i64 s, .slice sa sn sc] V fun e w' => e = .returned (.tuple #[.bool z, errOf f0]) ∧ Below V.heap.size V w')
    (hE : ∀ V, Below w.heap.size w V → ∀ f : Nat, Calls Tryd.prog 6 #[errOf f, .int .i64 (f : Int)] V fun e w' => e = .returned (.bool true) ∧ Below V.heap.size V w')
    (hR : ∀ V, Below w.heap.size w V → Calls Tryd.prog 10 #[.agg #[.int .i64 P, .slice ea n c], .int .i64 s, .slice sa sn sc, .slice ca cn cc] V fun e w' => ∃ a1 a2 n1 c1 n2 c2, e = .returned (.tuple #[.slice a1 n1 c1, .slice a2 n2 c2, errOf f0]) ∧ Hid (TwoL V w' F a1 a2 n1 c1 n2 c2))
    (F0 : F [] [])
    (K0 : K [] [])
    (hW : ∀ V, Below w.heap.size w V → Calls Tryd.prog 14 #[.agg #[.int .i64 P, .slice ea n c], .int .i64 s, .slice sa sn sc, .slice ca cn cc, .slice oa on oc] V fun e w' => ∃ a1 a2 n1 c1 n2 c2, e = .returned (.tuple #[.slice a1 n1 c1, .slice a2 n2 c2, errOf f0]) ∧ Hid (TwoL V w' K a1 a2 n1 c1 n2 c2))
    (uF : OneF F) (uK : OneF K)
    (b0 : ((f0 : Int) == 0) = false) (hz : z = false) :
    Calls Tryd.prog 3 #[.agg #[.int .i64 P, .slice ea n c], .int .i64 s, .slice sa sn sc, .slice ca cn cc, .slice oa on oc] w (TrueR w) := by
  obtain ⟨w1, hw1⟩ : ∃ w1, w.alloc (.cells #[.int .i64 P, .slice ea n c] 24) = w1 := ⟨_, rfl⟩
  have HW1 := hide' hw1
  have B1 := hide' (show Below w.heap.size w w1 by rw [← hw1]; exact (Below.refl _ _).alloc (Nat.le_refl _) _)
  have R1 := hide' (show w1.heap[w.heap.size]? = some (.cells #[.int .i64 P, .slice ea n c] 24 (0, 0)) by rw [← hw1]; exact heap_alloc_new _ _)
  have RW := hide' (fun (V : World) (h : Below w1.heap.size w1 V) => (h.block _ (ltS_of_block R1.out)).trans R1.out)
  have HS' := hide' hS
  have HT' := hide' hT
  have HE' := hide' hE
  have HR' := hide' hR
  have F0' := hide' F0
  have K0' := hide' K0
  have HW' := hide' hW
  have UF' := hide' uF
  have UK' := hide' uK
  clear hw1 hS hT hE hR F0 K0 hW uF uK
  subst hz
  have K1 := hide' (Below.refl w1.heap.size w1)
  have F1 := B1
  have y0 := cell_of_row w1 _ 0 _ _ _ (RW.out w1 K1.out)
  have y1 := cell_of_row w1 _ 1 _ _ _ (RW.out w1 K1.out)
  simp at y0 y1
  go_enter Tryd.func3, Tryd.ntmps3
  go_upto_region 1 with fail
  rw [HW1.out]
  have C1 := hide' (HS'.out w1 F1.out)
  go_wp2_with fail
  refine C1.out.mono ?_
  rintro e w2 ⟨rfl, b2⟩
  have BB2 := hide' b2
  have K2 := hide' (K1.out.trans (b2.mono K1.out.size))
  have F2 := hide' (B1.out.trans (K2.out.mono B1.out.size))
  clear b2 y0 y1
  have y0 := cell_of_row w2 _ 0 _ _ _ (RW.out w2 K2.out)
  have y1 := cell_of_row w2 _ 1 _ _ _ (RW.out w2 K2.out)
  simp at y0 y1
  have C2 := hide' (HT'.out w2 F2.out)
  go_wp2_with fail
  refine C2.out.mono ?_
  rintro e w3 ⟨rfl, b3⟩
  have BB3 := hide' b3
  have K3 := hide' (K2.out.trans (b3.mono K2.out.size))
  have F3 := hide' (B1.out.trans (K3.out.mono B1.out.size))
  clear b3 y0 y1
  have y0 := cell_of_row w3 _ 0 _ _ _ (RW.out w3 K3.out)
  have y1 := cell_of_row w3 _ 1 _ _ _ (RW.out w3 K3.out)
  simp at y0 y1
  have C3 := hide' (HE'.out w3 F3.out f0)
  go_wp2_with fail
  refine C3.out.mono ?_
  rintro e w4 ⟨rfl, b4⟩
  have BB4 := hide' b4
  have K4 := hide' (K3.out.trans (b4.mono K3.out.size))
  have F4 := hide' (B1.out.trans (K4.out.mono B1.out.size))
  clear b4 y0 y1
  have y0 := cell_of_row w4 _ 0 _ _ _ (RW.out w4 K4.out)
  have y1 := cell_of_row w4 _ 1 _ _ _ (RW.out w4 K4.out)
  simp at y0 y1
  have C4 := hide' (HR'.out w4 F4.out)
  go_wp2_with fail
  refine C4.out.mono ?_
  rintro e w5 ⟨a1_5, a2_5, n1_5, c1_5, n2_5, c2_5, rfl, h5⟩
  obtain ⟨l1_5, l2_5, p1_5, p2_5, q_5, b5⟩ := h5.out
  have A5 := hide' (And.intro p1_5 p2_5)
  have Q5 := hide' q_5
  have BB5 := hide' b5
  have K5 := hide' (K4.out.trans (b5.mono K4.out.size))
  have F5 := hide' (B1.out.trans (K5.out.mono B1.out.size))
  clear h5 p1_5 p2_5 q_5 b5 y0 y1
  have y0 := cell_of_row w5 _ 0 _ _ _ (RW.out w5 K5.out)
  have y1 := cell_of_row w5 _ 1 _ _ _ (RW.out w5 K5.out)
  simp at y0 y1
  have C5 := hide' (HE'.out w5 F5.out f0)
  go_wp2_with fail
  refine C5.out.mono ?_
  rintro e w6 ⟨rfl, b6⟩
  have BB6 := hide' b6
  have K6 := hide' (K5.out.trans (b6.mono K5.out.size))
  have F6 := hide' (B1.out.trans (K6.out.mono B1.out.size))
  clear b6 y0 y1
  have y0 := cell_of_row w6 _ 0 _ _ _ (RW.out w6 K6.out)
  have y1 := cell_of_row w6 _ 1 _ _ _ (RW.out w6 K6.out)
  simp at y0 y1
  have UQ := hide' (UF'.out _ _ _ _ Q5.out F0'.out)
  have C6 := hide' (Ints_any _ _ _ _ _ _ _ _ w6 ((A5.out.1).below BB6.out) (ArgP.none _))
  rw [decide_eq_true (UQ.out.1)] at C6
  go_wp2_with fail
  refine C6.out.mono ?_
  rintro e w7 ⟨rfl, nq7, hq7⟩
  have b7 : Below w6.heap.size w6 w7 := by rw [hq7]; exact ⟨rfl, rfl, rfl, Nat.le_refl _, fun _ _ => rfl⟩
  have BB7 := hide' b7
  have K7 := hide' (K6.out.trans (b7.mono K6.out.size))
  have F7 := hide' (B1.out.trans (K7.out.mono B1.out.size))
  clear b7 hq7 y0 y1
  have y0 := cell_of_row w7 _ 0 _ _ _ (RW.out w7 K7.out)
  have y1 := cell_of_row w7 _ 1 _ _ _ (RW.out w7 K7.out)
  simp at y0 y1
  have C7 := hide' (Ints_any _ _ _ _ _ _ _ _ w7 (((A5.out.2).below BB6.out).below BB7.out) (ArgP.none _))
  rw [decide_eq_true (UQ.out.2)] at C7
  go_wp2_with fail
  refine C7.out.mono ?_
  rintro e w8 ⟨rfl, nq8, hq8⟩
  have b8 : Below w7.heap.size w7 w8 := by rw [hq8]; exact ⟨rfl, rfl, rfl, Nat.le_refl _, fun _ _ => rfl⟩
  have BB8 := hide' b8
  have K8 := hide' (K7.out.trans (b8.mono K7.out.size))
  have F8 := hide' (B1.out.trans (K8.out.mono B1.out.size))
  clear b8 hq8 y0 y1
  have y0 := cell_of_row w8 _ 0 _ _ _ (RW.out w8 K8.out)
  have y1 := cell_of_row w8 _ 1 _ _ _ (RW.out w8 K8.out)
  simp at y0 y1
  have C8 := hide' (HW'.out w8 F8.out)
  go_wp2_with fail
  refine C8.out.mono ?_
  rintro e w9 ⟨a1_9, a2_9, n1_9, c1_9, n2_9, c2_9, rfl, h9⟩
  obtain ⟨l1_9, l2_9, p1_9, p2_9, q_9, b9⟩ := h9.out
  have A9 := hide' (And.intro p1_9 p2_9)
  have Q9 := hide' q_9
  have BB9 := hide' b9
  have K9 := hide' (K8.out.trans (b9.mono K8.out.size))
  have F9 := hide' (B1.out.trans (K9.out.mono B1.out.size))
  clear h9 p1_9 p2_9 q_9 b9 y0 y1
  have y0 := cell_of_row w9 _ 0 _ _ _ (RW.out w9 K9.out)
  have y1 := cell_of_row w9 _ 1 _ _ _ (RW.out w9 K9.out)
  simp at y0 y1
  have C9 := hide' (HE'.out w9 F9.out f0)
  go_wp2_with fail
  refine C9.out.mono ?_
  rintro e w10 ⟨rfl, b10⟩
  have BB10 := hide' b10
  have K10 := hide' (K9.out.trans (b10.mono K9.out.size))
  have F10 := hide' (B1.out.trans (K10.out.mono B1.out.size))
  clear b10 y0 y1
  have y0 := cell_of_row w10 _ 0 _ _ _ (RW.out w10 K10.out)
  have y1 := cell_of_row w10 _ 1 _ _ _ (RW.out w10 K10.out)
  simp at y0 y1
  have UQ2 := hide' (UK'.out _ _ _ _ Q9.out K0'.out)
  have C10 := hide' (Ints_any _ _ _ _ _ _ _ _ w10 ((A9.out.1).below BB10.out) (ArgP.none _))
  rw [decide_eq_true (UQ2.out.1)] at C10
  go_wp2_with fail
  refine C10.out.mono ?_
  rintro e w11 ⟨rfl, nq11, hq11⟩
  have b11 : Below w10.heap.size w10 w11 := by rw [hq11]; exact ⟨rfl, rfl, rfl, Nat.le_refl _, fun _ _ => rfl⟩
  have BB11 := hide' b11
  have K11 := hide' (K10.out.trans (b11.mono K10.out.size))
  have F11 := hide' (B1.out.trans (K11.out.mono B1.out.size))
  clear b11 hq11 y0 y1
  have y0 := cell_of_row w11 _ 0 _ _ _ (RW.out w11 K11.out)
  have y1 := cell_of_row w11 _ 1 _ _ _ (RW.out w11 K11.out)
  simp at y0 y1
  have C11 := hide' (Ints_any _ _ _ _ _ _ _ _ w11 (((A9.out.2).below BB10.out).below BB11.out) (ArgP.none _))
  rw [decide_eq_true (UQ2.out.2)] at C11
  go_wp2_with fail
  refine C11.out.mono ?_
  rintro e w12 ⟨rfl, nq12, hq12⟩
  have b12 : Below w11.heap.size w11 w12 := by rw [hq12]; exact ⟨rfl, rfl, rfl, Nat.le_refl _, fun _ _ => rfl⟩
  have BB12 := hide' b12
  have K12 := hide' (K11.out.trans (b12.mono K11.out.size))
  have F12 := hide' (B1.out.trans (K12.out.mono B1.out.size))
  clear b12 hq12 y0 y1
  have y0 := cell_of_row w12 _ 0 _ _ _ (RW.out w12 K12.out)
  have y1 := cell_of_row w12 _ 1 _ _ _ (RW.out w12 K12.out)
  simp at y0 y1
  go_wp2
  go_ret
  exact ⟨rfl, F12.out⟩
end Go.Proofs.YtpppmollmiomlaaDoor

namespace Go.Proofs.YtpppmollmiomlaaDoor
open Go.RowKit
set_option linter.unusedVariables false
set_option linter.unusedSimpArgs false
set_option maxRecDepth 100000 in
set_option maxHeartbeats 12800000 in
theorem law_rrB (P s : Int) (ea : Option Addr) (n c : Nat) (sa : Option Addr) (sn sc : Nat) (ca : Option Addr) (cn cc : Nat) (oa : Option Addr) (on oc : Nat) (f0 f1 : Nat) (z : Bool) (F K : List Int → List Int → Prop) (w : World)
    (hS : ∀ V, Below w.heap.size w V → Calls Tryd.prog 4 #[.agg #[.int .i64 P, .slice ea n c], .int .i64 s, .slice sa sn sc] V fun e w' => e = .returned (.int .i64 (f0 : Int)) ∧ Below V.heap.size V w')
    (hT : ∀ V, Below w.heap.size w V → Calls Tryd.prog 5 #[.agg #[.int .i64 P, .slice ea n c], .int .i64 s, .slice sa sn sc] V fun e w' => e = .returned (.tuple #[.bool z, errOf f0]) ∧ Below V.heap.size V w')
    (hE : ∀ V, Below w.heap.size w V → ∀ f : Nat, Calls Tryd.prog 6 #[errOf f, .int .i64 (f : Int)] V fun e w' => e = .returned (.bool true) ∧ Below V.heap.size V w')
    (hRT : ∀ V, Below w.heap.size w V → Calls Tryd.prog 7 #[.agg #[.int .i64 P, .slice ea n c], .int .i64 s, .slice sa sn sc] V fun e w' => e = .returned (.bool z) ∧ Below V.heap.size V w')
    (hL : ∀ V, Below w.heap.size w V → Calls Tryd.prog 8 #[.agg #[.int .i64 P, .slice ea n c], .int .i64 s, .slice ca cn cc] V fun e w' => e = .returned (.int .i64 (f1 : Int)) ∧ Below V.heap.size V w')
    (hR : ∀ V, Below w.heap.size w V → Calls Tryd.prog 10 #[.agg #[.int .i64 P, .slice ea n c], .int .i64 s, .slice sa sn sc, .slice ca cn cc] V fun e w' => ∃ a1 a2 n1 c1 n2 c2, e = .returned (.tuple #[.slice a1 n1 c1, .slice a2 n2 c2, errOf f1]) ∧ Hid (TwoL V w' F a1 a2 n1 c1 n2 c2))
    (F0 : F [] [])
    (K0 : K [] [])
    (hW : ∀ V, Below w.heap.size w V → Calls Tryd.prog 14 #[.agg #[.int .i64 P, .slice ea n c], .int .i64 s, .slice sa sn sc, .slice ca cn cc, .slice oa on oc] V fun e w' => ∃ a1 a2 n1 c1 n2 c2, e = .returned (.tuple #[.slice a1 n1 c1, .slice a2 n2 c2, errOf f1]) ∧ Hid (TwoL V w' K a1 a2 n1 c1 n2 c2))
    (uF : OneF F) (uK : OneF K)
    (b0 : ((f0 : Int) == 0) = true)
    (b1 : ((f1 : Int) == 0) = false) :
    Calls Tryd.prog 3 #[.agg #[.int .i64 P, .slice ea n c], .int .i64 s, .slice sa sn sc, .slice ca cn cc, .slice oa on oc] w (TrueR w) := by
  obtain ⟨w1, hw1⟩ : ∃ w1, w.alloc (.cells #[.int .i64 P, .slice ea n c] 24) = w1 := ⟨_, rfl⟩
  have HW1 := hide' hw1
  have B1 := hide' (show Below w.heap.size w w1 by rw [← hw1]; exact (Below.refl _ _).alloc (Nat.le_refl _) _)
  have R1 := hide' (show w1.heap[w.heap.size]? = some (.cells #[.int .i64 P, .slice ea n c] 24 (0, 0)) by rw [← hw1]; exact heap_alloc_new _ _)
  have RW := hide' (fun (V : World) (h : Below w1.heap.size w1 V) => (h.block _ (ltS_of_block R1.out)).trans R1.out)
  have HS' := hide' hS
  have HT' := hide' hT
  have HE' := hide' hE
  have HRT' := hide' hRT
  have HL' := hide' hL
  have HR' := hide' hR
  have F0' := hide' F0
  have K0' := hide' K0
  have HW' := hide' hW
  have UF' := hide' uF
  have UK' := hide' uK
  clear hw1 hS hT hE hRT hL hR F0 K0 hW uF uK
  have K1 := hide' (Below.refl w1.heap.size w1)
  have F1 := B1
  have y0 := cell_of_row w1 _ 0 _ _ _ (RW.out w1 K1.out)
  have y1 := cell_of_row w1 _ 1 _ _ _ (RW.out w1 K1.out)
  simp at y0 y1
  go_enter Tryd.func3, Tryd.ntmps3
  go_upto_region 1 with fail
  rw [HW1.out]
  have C1 := hide' (HS'.out w1 F1.out)
  go_wp2_with fail
  refine C1.out.mono ?_
  rintro e w2 ⟨rfl, b2⟩
  have BB2 := hide' b2
  have K2 := hide' (K1.out.trans (b2.mono K1.out.size))
  have F2 := hide' (B1.out.trans (K2.out.mono B1.out.size))
  clear b2 y0 y1
  have y0 := cell_of_row w2 _ 0 _ _ _ (RW.out w2 K2.out)
  have y1 := cell_of_row w2 _ 1 _ _ _ (RW.out w2 K2.out)
  simp at y0 y1
  have C2 := hide' (HT'.out w2 F2.out)
  go_wp2_with fail
  refine C2.out.mono ?_
  rintro e w3 ⟨rfl, b3⟩
  have BB3 := hide' b3
  have K3 := hide' (K2.out.trans (b3.mono K2.out.size))
  have F3 := hide' (B1.out.trans (K3.out.mono B1.out.size))
  clear b3 y0 y1
  have y0 := cell_of_row w3 _ 0 _ _ _ (RW.out w3 K3.out)
  have y1 := cell_of_row w3 _ 1 _ _ _ (RW.out w3 K3.out)
  simp at y0 y1
  have C3 := hide' (HE'.out w3 F3.out f0)
  go_wp2_with fail
  refine C3.out.mono ?_
  rintro e w4 ⟨rfl, b4⟩
  have BB4 := hide' b4
  have K4 := hide' (K3.out.trans (b4.mono K3.out.size))
  have F4 := hide' (B1.out.trans (K4.out.mono B1.out.size))
  clear b4 y0 y1
  have y0 := cell_of_row w4 _ 0 _ _ _ (RW.out w4 K4.out)
  have y1 := cell_of_row w4 _ 1 _ _ _ (RW.out w4 K4.out)
  simp at y0 y1
  have C4 := hide' (HRT'.out w4 F4.out)
  go_wp2_with fail
  refine C4.out.mono ?_
  rintro e w5 ⟨rfl, b5⟩
  have BB5 := hide' b5
  have K5 := hide' (K4.out.trans (b5.mono K4.out.size))
  have F5 := hide' (B1.out.trans (K5.out.mono B1.out.size))
  clear b5 y0 y1
  have y0 := cell_of_row w5 _ 0 _ _ _ (RW.out w5 K5.out)
  have y1 := cell_of_row w5 _ 1 _ _ _ (RW.out w5 K5.out)
  simp at y0 y1
  have C5 := hide' (HL'.out w5 F5.out)
  go_wp2_with fail
  refine C5.out.mono ?_
  rintro e w6 ⟨rfl, b6⟩
  have BB6 := hide' b6
  have K6 := hide' (K5.out.trans (b6.mono K5.out.size))
  have F6 := hide' (B1.out.trans (K6.out.mono B1.out.size))
  clear b6 y0 y1
  have y0 := cell_of_row w6 _ 0 _ _ _ (RW.out w6 K6.out)
  have y1 := cell_of_row w6 _ 1 _ _ _ (RW.out w6 K6.out)
  simp at y0 y1
  have zz : (z != z) = false := by simp
  have C6 := hide' (HR'.out w6 F6.out)
  go_wp2_with fail
  refine C6.out.mono ?_
  rintro e w7 ⟨a1_7, a2_7, n1_7, c1_7, n2_7, c2_7, rfl, h7⟩
  obtain ⟨l1_7, l2_7, p1_7, p2_7, q_7, b7⟩ := h7.out
  have A7 := hide' (And.intro p1_7 p2_7)
  have Q7 := hide' q_7
  have BB7 := hide' b7
  have K7 := hide' (K6.out.trans (b7.mono K6.out.size))
  have F7 := hide' (B1.out.trans (K7.out.mono B1.out.size))
  clear h7 p1_7 p2_7 q_7 b7 y0 y1
  have y0 := cell_of_row w7 _ 0 _ _ _ (RW.out w7 K7.out)
  have y1 := cell_of_row w7 _ 1 _ _ _ (RW.out w7 K7.out)
  simp at y0 y1
  have C7 := hide' (HE'.out w7 F7.out f1)
  go_wp2_with fail
  refine C7.out.mono ?_
  rintro e w8 ⟨rfl, b8⟩
  have BB8 := hide' b8
  have K8 := hide' (K7.out.trans (b8.mono K7.out.size))
  have F8 := hide' (B1.out.trans (K8.out.mono B1.out.size))
  clear b8 y0 y1
  have y0 := cell_of_row w8 _ 0 _ _ _ (RW.out w8 K8.out)
  have y1 := cell_of_row w8 _ 1 _ _ _ (RW.out w8 K8.out)
  simp at y0 y1
  have UQ := hide' (UF'.out _ _ _ _ Q7.out F0'.out)
  have C8 := hide' (Ints_any _ _ _ _ _ _ _ _ w8 ((A7.out.1).below BB8.out) (ArgP.none _))
  rw [decide_eq_true (UQ.out.1)] at C8
  go_wp2_with fail
  refine C8.out.mono ?_
  rintro e w9 ⟨rfl, nq9, hq9⟩
  have b9 : Below w8.heap.size w8 w9 := by rw [hq9]; exact ⟨rfl, rfl, rfl, Nat.le_refl _, fun _ _ => rfl⟩
  have BB9 := hide' b9
  have K9 := hide' (K8.out.trans (b9.mono K8.out.size))
  have F9 := hide' (B1.out.trans (K9.out.mono B1.out.size))
  clear b9 hq9 y0 y1
  have y0 := cell_of_row w9 _ 0 _ _ _ (RW.out w9 K9.out)
  have y1 := cell_of_row w9 _ 1 _ _ _ (RW.out w9 K9.out)
  simp at y0 y1
  have C9 := hide' (Ints_any _ _ _ _ _ _ _ _ w9 (((A7.out.2).below BB8.out).below BB9.out) (ArgP.none _))
  rw [decide_eq_true (UQ.out.2)] at C9
  go_wp2_with fail
  refine C9.out.mono ?_
  rintro e w10 ⟨rfl, nq10, hq10⟩
  have b10 : Below w9.heap.size w9 w10 := by rw [hq10]; exact ⟨rfl, rfl, rfl, Nat.le_refl _, fun _ _ => rfl⟩
  have BB10 := hide' b10
  have K10 := hide' (K9.out.trans (b10.mono K9.out.size))
  have F10 := hide' (B1.out.trans (K10.out.mono B1.out.size))
  clear b10 hq10 y0 y1
  have y0 := cell_of_row w10 _ 0 _ _ _ (RW.out w10 K10.out)
  have y1 := cell_of_row w10 _ 1 _ _ _ (RW.out w10 K10.out)
  simp at y0 y1
  have C10 := hide' (HW'.out w10 F10.out)
  go_wp2_with fail
  refine C10.out.mono ?_
  rintro e w11 ⟨a1_11, a2_11, n1_11, c1_11, n2_11, c2_11, rfl, h11⟩
  obtain ⟨l1_11, l2_11, p1_11, p2_11, q_11, b11⟩ := h11.out
  have A11 := hide' (And.intro p1_11 p2_11)
  have Q11 := hide' q_11
  have BB11 := hide' b11
  have K11 := hide' (K10.out.trans (b11.mono K10.out.size))
  have F11 := hide' (B1.out.trans (K11.out.mono B1.out.size))
  clear h11 p1_11 p2_11 q_11 b11 y0 y1
  have y0 := cell_of_row w11 _ 0 _ _ _ (RW.out w11 K11.out)
  have y1 := cell_of_row w11 _ 1 _ _ _ (RW.out w11 K11.out)
  simp at y0 y1
  have C11 := hide' (HE'.out w11 F11.out f1)
  go_wp2_with fail
  refine C11.out.mono ?_
  rintro e w12 ⟨rfl, b12⟩
  have BB12 := hide' b12
  have K12 := hide' (K11.out.trans (b12.mono K11.out.size))
  have F12 := hide' (B1.out.trans (K12.out.mono B1.out.size))
  clear b12 y0 y1
  have y0 := cell_of_row w12 _ 0 _ _ _ (RW.out w12 K12.out)
  have y1 := cell_of_row w12 _ 1 _ _ _ (RW.out w12 K12.out)
  simp at y0 y1
  have UQ2 := hide' (UK'.out _ _ _ _ Q11.out K0'.out)
  have C12 := hide' (Ints_any _ _ _ _ _ _ _ _ w12 ((A11.out.1).below BB12.out) (ArgP.none _))
  rw [decide_eq_true (UQ2.out.1)] at C12
  go_wp2_with fail
  refine C12.out.mono ?_
  rintro e w13 ⟨rfl, nq13, hq13⟩
  have b13 : Below w12.heap.size w12 w13 := by rw [hq13]; exact ⟨rfl, rfl, rfl, Nat.le_refl _, fun _ _ => rfl⟩
  have BB13 := hide' b13
  have K13 := hide' (K12.out.trans (b13.mono K12.out.size))
  have F13 := hide' (B1.out.trans (K13.out.mono B1.out.size))
  clear b13 hq13 y0 y1
  have y0 := cell_of_row w13 _ 0 _ _ _ (RW.out w13 K13.out)
  have y1 := cell_of_row w13 _ 1 _ _ _ (RW.out w13 K13.out)
  simp at y0 y1
  have C13 := hide' (Ints_any _ _ _ _ _ _ _ _ w13 (((A11.out.2).below BB12.out).below BB13.out) (ArgP.none _))
  rw [decide_eq_true (UQ2.out.2)] at C13
  go_wp2_with fail
  refine C13.out.mono ?_
  rintro e w14 ⟨rfl, nq14, hq14⟩
  have b14 : Below w13.heap.size w13 w14 := by rw [hq14]; exact ⟨rfl, rfl, rfl, Nat.le_refl _, fun _ _ => rfl⟩
  have BB14 := hide' b14
  have K14 := hide' (K13.out.trans (b14.mono K13.out.size))
  have F14 := hide' (B1.out.trans (K14.out.mono B1.out.size))
  clear b14 hq14 y0 y1
  have y0 := cell_of_row w14 _ 0 _ _ _ (RW.out w14 K14.out)
  have y1 := cell_of_row w14 _ 1 _ _ _ (RW.out w14 K14.out)
  simp at y0 y1
  go_wp2
  go_ret
  exact ⟨rfl, F14.out⟩
end Go.Proofs.YtpppmollmiomlaaDoor

