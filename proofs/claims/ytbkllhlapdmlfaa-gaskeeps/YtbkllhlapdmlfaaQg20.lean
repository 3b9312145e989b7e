/-
  What the last text of this claim leans on, part 20: LawGk3, LawGk, OpenGk.
-/
import Derived.Test.YtbkllhlapdmlfaaQg19
import Derived.Test.YtbkllhlapdmlfaaQg1
import Derived.Test.YtbkllhlapdmlfaaRows
import Derived.WalkKit
import Derived.ProofKit
import Derived.OpenShut
import Derived.ChangeSame
import Derived.ChangeSlices
import Derived.ChangeVars
import Derived.RowKit
import Derived.Carry
namespace Go.Proofs.Ytbkllhlapdmlfaa
open Go.RowKit
set_option linter.unusedVariables false
set_option maxRecDepth 100000 in
set_option maxHeartbeats 6400000 in
theorem law_gk_4 (W H k : Nat) (xs ys zs us : List Int) (M X Y : Int) (a : Option Addr) (n c : Nat) (b : Option Addr) (m d : Nat) (w : World) (hP : ArgP w xs a n c)
    (run : ∀ V, Below w.heap.size w V → Calls Try.prog 7 #[.agg #[.int .i64 4, .int .i64 (W : Int), .int .i64 (H : Int), .slice a n c], .slice b m d, .int .i64 (k : Int)] V (GasOk 4 (W : Int) (H : Int) n ys V))
    (mg : ∀ V, Below w.heap.size w V → Calls Try.prog 6 #[.agg #[.int .i64 4, .int .i64 (W : Int), .int .i64 (H : Int), .slice a n c]] V (MassOut M V))
    (ma : ∀ V q, ArgP V ys (some ⟨q, 0, none⟩) n n → Calls Try.prog 6 #[.agg #[.int .i64 4, .int .i64 (W : Int), .int .i64 (H : Int), .slice (some ⟨q, 0, none⟩) n n]] V (MassOut M V))
    (pg : ∀ V, Below w.heap.size w V → Calls Try.prog 8 #[.agg #[.int .i64 4, .int .i64 (W : Int), .int .i64 (H : Int), .slice a n c]] V (PushOut X Y V))
    (pa : ∀ V q, ArgP V ys (some ⟨q, 0, none⟩) n n → Calls Try.prog 8 #[.agg #[.int .i64 4, .int .i64 (W : Int), .int .i64 (H : Int), .slice (some ⟨q, 0, none⟩) n n]] V (PushOut X Y V))
    (ta : ∀ V q, ArgP V ys (some ⟨q, 0, none⟩) n n → Calls Try.prog 9 #[.agg #[.int .i64 4, .int .i64 (W : Int), .int .i64 (H : Int), .slice (some ⟨q, 0, none⟩) n n]] V (GasOk 4 (W : Int) (H : Int) n zs V))
    (rz : ∀ V q, Below w.heap.size w V → ArgP V zs (some ⟨q, 0, none⟩) n n → Calls Try.prog 7 #[.agg #[.int .i64 4, .int .i64 (W : Int), .int .i64 (H : Int), .slice (some ⟨q, 0, none⟩) n n], .slice b m d, .int .i64 (k : Int)] V (GasOk 4 (W : Int) (H : Int) n us V))
    (tu : ∀ V q, ArgP V us (some ⟨q, 0, none⟩) n n → Calls Try.prog 9 #[.agg #[.int .i64 4, .int .i64 (W : Int), .int .i64 (H : Int), .slice (some ⟨q, 0, none⟩) n n]] V (GasOk 4 (W : Int) (H : Int) n xs V)) :
    Calls Try.prog 3 #[.agg #[.int .i64 4, .int .i64 (W : Int), .int .i64 (H : Int), .slice a n c], .slice b m d, .int .i64 (k : Int)] w fun e w' => e = .returned (.bool true) ∧ Below w.heap.size w w' := by
  obtain ⟨w1, hw1⟩ : ∃ w1, w.alloc (.cells #[.int .i64 4, .int .i64 (W : Int), .int .i64 (H : Int), .slice a n c] 24) = w1 := ⟨_, rfl⟩
  have BB := hide' (show Below w.heap.size w w1 by rw [← hw1]; exact (Below.refl _ _).alloc (Nat.le_refl _) _)
  have g1 : w1.heap[w.heap.size]? = some (.cells #[.int .i64 4, .int .i64 (W : Int), .int .i64 (H : Int), .slice a n c] 24 (0, 0)) := by rw [← hw1]; exact heap_alloc_new _ _
  have SV := hide' (fun (V : World) (h : Below w1.heap.size w1 V) => show V.cell? ⟨w.heap.size, 0, none⟩ = some (.int .i64 4) ∧ V.cell? ⟨w.heap.size, 1, none⟩ = some (.int .i64 (W : Int)) ∧ V.cell? ⟨w.heap.size, 2, none⟩ = some (.int .i64 (H : Int)) ∧ V.cell? ⟨w.heap.size, 3, none⟩ = some (.slice a n c) from by
    have e1 := (h.block _ (lt_of_block g1)).trans g1
    exact ⟨cell_of_row V _ 0 _ _ _ e1, cell_of_row V _ 1 _ _ _ e1, cell_of_row V _ 2 _ _ _ e1, cell_of_row V _ 3 _ _ _ e1⟩)
  have BW := hide' (fun (V : World) (h : Below w1.heap.size w1 V) => BB.out.trans (h.mono BB.out.size))
  have C0 := hide' ((Below.refl w1.heap.size w1).alloc (Nat.le_refl _) (.cells #[.int .i64 7] 3))
  have GB := hide' (show (w1.alloc (.cells #[.int .i64 7] 3)).heap[w1.heap.size]? = some (.cells #[.int .i64 7] 3 (0, 0)) from heap_alloc_new _ _)
  have RUN := hide' (fun (V : World) (h : Below w1.heap.size w1 V) => run V (BW.out V h))
  have MG := hide' (fun (V : World) (h : Below w1.heap.size w1 V) => mg V (BW.out V h))
  have MA := hide' ma
  have PG := hide' (fun (V : World) (h : Below w1.heap.size w1 V) => pg V (BW.out V h))
  have PA := hide' pa
  have TA := hide' ta
  have RZ := hide' (fun (V : World) q (h : Below w1.heap.size w1 V) => rz V q (BW.out V h))
  have TU := hide' tu
  have AP := hide' (fun (V : World) (h : Below w1.heap.size w1 V) => hP.below (BW.out V h))
  clear run mg ma pg pa ta rz tu hP
  clear g1
  go_enter Try.func3, Try.ntmps3
  go_upto_region 1 with fail
  clear hw1
  go_wp2_with fail
  refine (fact7 _ _ GB.out).mono ?_
  rintro e w2 ⟨rfl, b⟩
  have C1 := hide' (C0.out.trans (b.mono C0.out.size))
  clear b C0 GB
  go_upto_region 4 with fail
  obtain ⟨x0, x1, x2, x3⟩ := SV.out _ C1.out
  go_wp2_with fail
  refine (RUN.out w2 C1.out).mono ?_
  rintro e w3 ⟨qf, rfl, ap, b'⟩
  have C2 := hide' (C1.out.trans (b'.mono C1.out.size))
  clear b' x0 x1 x2 x3 C1
  have Af := hide' ap
  clear ap
  have C3 := hide' (C2.out.alloc C2.out.size (.cells #[.int .i64 4, .int .i64 (W : Int), .int .i64 (H : Int), .slice (some ⟨qf, 0, none⟩) n n] 24))
  have Af0 := hide' (Af.out.alloc (.cells #[.int .i64 4, .int .i64 (W : Int), .int .i64 (H : Int), .slice (some ⟨qf, 0, none⟩) n n] 24))
  have Gf0 := hide' (show (w3.alloc (.cells #[.int .i64 4, .int .i64 (W : Int), .int .i64 (H : Int), .slice (some ⟨qf, 0, none⟩) n n] 24)).heap[w3.heap.size]? = some (.cells #[.int .i64 4, .int .i64 (W : Int), .int .i64 (H : Int), .slice (some ⟨qf, 0, none⟩) n n] 24 (0, 0)) from heap_alloc_new _ _)
  clear Af C2
  obtain ⟨x0, x1, x2, x3⟩ := SV.out _ C3.out
  go_wp2_with fail
  refine (MG.out _ C3.out).mono ?_
  rintro e w4 ⟨rfl, b'⟩
  have C4 := hide' (C3.out.trans (b'.mono C3.out.size))
  have Gf4 := hide' ((b'.block _ (lt_of_block Gf0.out)).trans Gf0.out)
  have Af4 := hide' (Af0.out.below b')
  clear b' x0 x1 x2 x3 C3 Gf0 Af0
  have z0 := cell_of_row _ _ 0 _ _ _ Gf4.out
  have z1 := cell_of_row _ _ 1 _ _ _ Gf4.out
  have z2 := cell_of_row _ _ 2 _ _ _ Gf4.out
  have z3 := cell_of_row _ _ 3 _ _ _ Gf4.out
  simp at z0 z1 z2 z3
  go_wp2_with fail
  refine (MA.out _ qf Af4.out).mono ?_
  rintro e w5 ⟨rfl, b'⟩
  have C5 := hide' (C4.out.trans (b'.mono C4.out.size))
  have Gf5 := hide' ((b'.block _ (lt_of_block Gf4.out)).trans Gf4.out)
  have Af5 := hide' (Af4.out.below b')
  clear b' z0 z1 z2 z3 C4 Gf4 Af4
  obtain ⟨x0, x1, x2, x3⟩ := SV.out _ C5.out
  go_wp2_with fail
  refine (PG.out _ C5.out).mono ?_
  rintro e w6 ⟨rfl, b'⟩
  have C6 := hide' (C5.out.trans (b'.mono C5.out.size))
  have Gf6 := hide' ((b'.block _ (lt_of_block Gf5.out)).trans Gf5.out)
  have Af6 := hide' (Af5.out.below b')
  clear b' x0 x1 x2 x3 C5 Gf5 Af5
  have z0 := cell_of_row _ _ 0 _ _ _ Gf6.out
  have z1 := cell_of_row _ _ 1 _ _ _ Gf6.out
  have z2 := cell_of_row _ _ 2 _ _ _ Gf6.out
  have z3 := cell_of_row _ _ 3 _ _ _ Gf6.out
  simp at z0 z1 z2 z3
  go_wp2_with fail
  refine (PA.out _ qf Af6.out).mono ?_
  rintro e w7 ⟨rfl, b'⟩
  have C7 := hide' (C6.out.trans (b'.mono C6.out.size))
  have Gf7 := hide' ((b'.block _ (lt_of_block Gf6.out)).trans Gf6.out)
  have Af7 := hide' (Af6.out.below b')
  clear b' z0 z1 z2 z3 C6 Gf6 Af6
  obtain ⟨x0, x1, x2, x3⟩ := SV.out _ C7.out
  have z0 := cell_of_row _ _ 0 _ _ _ Gf7.out
  have z1 := cell_of_row _ _ 1 _ _ _ Gf7.out
  have z2 := cell_of_row _ _ 2 _ _ _ Gf7.out
  have z3 := cell_of_row _ _ 3 _ _ _ Gf7.out
  simp at z0 z1 z2 z3
  go_wp2_with fail
  refine (TA.out _ qf Af7.out).mono ?_
  rintro e w8 ⟨qt, rfl, ap, b'⟩
  have C8 := hide' (C7.out.trans (b'.mono C7.out.size))
  have Gf8 := hide' ((b'.block _ (lt_of_block Gf7.out)).trans Gf7.out)
  have Af8 := hide' (Af7.out.below b')
  clear b' x0 x1 x2 x3 z0 z1 z2 z3 C7 Gf7 Af7
  have At := hide' ap
  clear ap
  have C9 := hide' (C8.out.alloc C8.out.size (.cells #[.int .i64 4, .int .i64 (W : Int), .int .i64 (H : Int), .slice (some ⟨qt, 0, none⟩) n n] 24))
  have Gf9 := hide' ((Below.heap_alloc _ (.cells #[.int .i64 4, .int .i64 (W : Int), .int .i64 (H : Int), .slice (some ⟨qt, 0, none⟩) n n] 24) _ (lt_of_block Gf8.out)).trans Gf8.out)
  have Af9 := hide' (Af8.out.alloc (.cells #[.int .i64 4, .int .i64 (W : Int), .int .i64 (H : Int), .slice (some ⟨qt, 0, none⟩) n n] 24))
  have At0 := hide' (At.out.alloc (.cells #[.int .i64 4, .int .i64 (W : Int), .int .i64 (H : Int), .slice (some ⟨qt, 0, none⟩) n n] 24))
  have Gt0 := hide' (show (w8.alloc (.cells #[.int .i64 4, .int .i64 (W : Int), .int .i64 (H : Int), .slice (some ⟨qt, 0, none⟩) n n] 24)).heap[w8.heap.size]? = some (.cells #[.int .i64 4, .int .i64 (W : Int), .int .i64 (H : Int), .slice (some ⟨qt, 0, none⟩) n n] 24 (0, 0)) from heap_alloc_new _ _)
  clear At C8 Gf8 Af8
  have z0 := cell_of_row _ _ 0 _ _ _ Gt0.out
  have z1 := cell_of_row _ _ 1 _ _ _ Gt0.out
  have z2 := cell_of_row _ _ 2 _ _ _ Gt0.out
  have z3 := cell_of_row _ _ 3 _ _ _ Gt0.out
  simp at z0 z1 z2 z3
  go_wp2_with fail
  refine (RZ.out _ qt C9.out At0.out).mono ?_
  rintro e w9 ⟨qu, rfl, ap, b'⟩
  have C10 := hide' (C9.out.trans (b'.mono C9.out.size))
  have Gf10 := hide' ((b'.block _ (lt_of_block Gf9.out)).trans Gf9.out)
  have Af10 := hide' (Af9.out.below b')
  have Gt10 := hide' ((b'.block _ (lt_of_block Gt0.out)).trans Gt0.out)
  have At10 := hide' (At0.out.below b')
  clear b' z0 z1 z2 z3 C9 Gf9 Af9 Gt0 At0
  have Au := hide' ap
  clear ap
  have C11 := hide' (C10.out.alloc C10.out.size (.cells #[.int .i64 4, .int .i64 (W : Int), .int .i64 (H : Int), .slice (some ⟨qu, 0, none⟩) n n] 24))
  have Gf11 := hide' ((Below.heap_alloc _ (.cells #[.int .i64 4, .int .i64 (W : Int), .int .i64 (H : Int), .slice (some ⟨qu, 0, none⟩) n n] 24) _ (lt_of_block Gf10.out)).trans Gf10.out)
  have Af11 := hide' (Af10.out.alloc (.cells #[.int .i64 4, .int .i64 (W : Int), .int .i64 (H : Int), .slice (some ⟨qu, 0, none⟩) n n] 24))
  have Gt11 := hide' ((Below.heap_alloc _ (.cells #[.int .i64 4, .int .i64 (W : Int), .int .i64 (H : Int), .slice (some ⟨qu, 0, none⟩) n n] 24) _ (lt_of_block Gt10.out)).trans Gt10.out)
  have At11 := hide' (At10.out.alloc (.cells #[.int .i64 4, .int .i64 (W : Int), .int .i64 (H : Int), .slice (some ⟨qu, 0, none⟩) n n] 24))
  have Au0 := hide' (Au.out.alloc (.cells #[.int .i64 4, .int .i64 (W : Int), .int .i64 (H : Int), .slice (some ⟨qu, 0, none⟩) n n] 24))
  have Gu0 := hide' (show (w9.alloc (.cells #[.int .i64 4, .int .i64 (W : Int), .int .i64 (H : Int), .slice (some ⟨qu, 0, none⟩) n n] 24)).heap[w9.heap.size]? = some (.cells #[.int .i64 4, .int .i64 (W : Int), .int .i64 (H : Int), .slice (some ⟨qu, 0, none⟩) n n] 24 (0, 0)) from heap_alloc_new _ _)
  clear Au C10 Gf10 Af10 Gt10 At10
  have z0 := cell_of_row _ _ 0 _ _ _ Gu0.out
  have z1 := cell_of_row _ _ 1 _ _ _ Gu0.out
  have z2 := cell_of_row _ _ 2 _ _ _ Gu0.out
  have z3 := cell_of_row _ _ 3 _ _ _ Gu0.out
  simp at z0 z1 z2 z3
  go_wp2_with fail
  refine (TU.out _ qu Au0.out).mono ?_
  rintro e w10 ⟨qv, rfl, ap, b'⟩
  have C12 := hide' (C11.out.trans (b'.mono C11.out.size))
  have Gf12 := hide' ((b'.block _ (lt_of_block Gf11.out)).trans Gf11.out)
  have Af12 := hide' (Af11.out.below b')
  have Gt12 := hide' ((b'.block _ (lt_of_block Gt11.out)).trans Gt11.out)
  have At12 := hide' (At11.out.below b')
  have Gu12 := hide' ((b'.block _ (lt_of_block Gu0.out)).trans Gu0.out)
  have Au12 := hide' (Au0.out.below b')
  clear b' z0 z1 z2 z3 C11 Gf11 Af11 Gt11 At11 Gu0 Au0
  have Av := hide' ap
  clear ap
  have C13 := hide' (C12.out.alloc C12.out.size (.cells #[.int .i64 4, .int .i64 (W : Int), .int .i64 (H : Int), .slice (some ⟨qv, 0, none⟩) n n] 24))
  have Gf13 := hide' ((Below.heap_alloc _ (.cells #[.int .i64 4, .int .i64 (W : Int), .int .i64 (H : Int), .slice (some ⟨qv, 0, none⟩) n n] 24) _ (lt_of_block Gf12.out)).trans Gf12.out)
  have Af13 := hide' (Af12.out.alloc (.cells #[.int .i64 4, .int .i64 (W : Int), .int .i64 (H : Int), .slice (some ⟨qv, 0, none⟩) n n] 24))
  have Gt13 := hide' ((Below.heap_alloc _ (.cells #[.int .i64 4, .int .i64 (W : Int), .int .i64 (H : Int), .slice (some ⟨qv, 0, none⟩) n n] 24) _ (lt_of_block Gt12.out)).trans Gt12.out)
  have At13 := hide' (At12.out.alloc (.cells #[.int .i64 4, .int .i64 (W : Int), .int .i64 (H : Int), .slice (some ⟨qv, 0, none⟩) n n] 24))
  have Gu13 := hide' ((Below.heap_alloc _ (.cells #[.int .i64 4, .int .i64 (W : Int), .int .i64 (H : Int), .slice (some ⟨qv, 0, none⟩) n n] 24) _ (lt_of_block Gu12.out)).trans Gu12.out)
  have Au13 := hide' (Au12.out.alloc (.cells #[.int .i64 4, .int .i64 (W : Int), .int .i64 (H : Int), .slice (some ⟨qv, 0, none⟩) n n] 24))
  have Av0 := hide' (Av.out.alloc (.cells #[.int .i64 4, .int .i64 (W : Int), .int .i64 (H : Int), .slice (some ⟨qv, 0, none⟩) n n] 24))
  have Gv0 := hide' (show (w10.alloc (.cells #[.int .i64 4, .int .i64 (W : Int), .int .i64 (H : Int), .slice (some ⟨qv, 0, none⟩) n n] 24)).heap[w10.heap.size]? = some (.cells #[.int .i64 4, .int .i64 (W : Int), .int .i64 (H : Int), .slice (some ⟨qv, 0, none⟩) n n] 24 (0, 0)) from heap_alloc_new _ _)
  clear Av C12 Gf12 Af12 Gt12 At12 Gu12 Au12
  have z0 := cell_of_row _ _ 0 _ _ _ Gv0.out
  have z1 := cell_of_row _ _ 1 _ _ _ Gv0.out
  have z2 := cell_of_row _ _ 2 _ _ _ Gv0.out
  have z3 := cell_of_row _ _ 3 _ _ _ Gv0.out
  simp at z0 z1 z2 z3
  obtain ⟨x0, x1, x2, x3⟩ := SV.out _ C13.out
  go_wp2_with fail
  refine (gases_same 4 (W : Int) (H : Int) xs (some ⟨qv, 0, none⟩) a n n n c _ Av0.out (AP.out _ C13.out)).mono ?_
  rintro e w11 ⟨rfl, b'⟩
  have CZ := hide' (C13.out.trans (b'.mono C13.out.size))
  clear b' z0 z1 z2 z3 x0 x1 x2 x3
  go_wp2
  go_ret
  exact ⟨rfl, BW.out _ CZ.out⟩
end Go.Proofs.Ytbkllhlapdmlfaa

namespace Go.Proofs.Ytbkllhlapdmlfaa
open Go.RowKit
set_option linter.unusedVariables false
theorem law_gk_all (K W H : Int) (xs : List Int) (a : Option Addr) (n c : Nat) (cs : List Int) (b : Option Addr) (m d : Nat) (k : Int) (w : World) (hP : ArgP w xs a n c) (hC : ArgP w cs b m d) :
    Calls Try.prog 3 #[.agg #[.int .i64 K, .int .i64 W, .int .i64 H, .slice a n c], .slice b m d, .int .i64 k] w fun e w' => e = .returned (.bool true) ∧ Below w.heap.size w w' := by
  by_cases f0 : runGE K W H xs cs k = 0
  · obtain ⟨g0, ⟨kn, rfl, hk⟩, hm, cf, hcs, hcf⟩ := runGE_zero f0
    obtain ⟨Kn, Wn, Hn, f, rfl, rfl, rfl, hK, hW, hH, he, hl, hxs, hf⟩ := gasE_zero g0
    have en : n = Wn * Hn := hP.len.trans hl
    have em : m = cs.length := hC.len
    rw [hl, ← en] at hxs
    rw [← em] at hcs hm
    clear hl
    have n4 : n ≤ 10000 := by rw [en]; exact Nat.mul_le_mul hW.2 hH.2
    subst hxs
    subst hcs
    clear em
    rcases hK with rfl | rfl
    · have f6 : ∀ i, f i ≤ 63 := fun i => by have := hf i; simp at this; omega
      have fl := fun k i => flow_in (K := 4) (W := Wn) (H := Hn) (m := 1) (cs := fun _ => 0) (by omega) hf k i
      have g2 := gasE_ok (n := n) (K := 4) (by omega) hW hH he en (fl kn)
      have ft := fun i => trn_small (W := Wn) (H := Hn) (f := flowG 4 Wn Hn 1 (fun _ => 0) f kn) (fun i => fl kn i) i
      have g3 := gasE_ok (n := n) (K := 4) (by omega) hW hH he en ft
      have fu := fun i => flow_in (K := 4) (W := Wn) (H := Hn) (m := 1) (cs := fun _ => 0) (by omega) ft kn i
      have g4 := gasE_ok (n := n) (K := 4) (by omega) hW hH he en fu
      have ms := flow_mass (K := 4) (W := Wn) (H := Hn) (m := 1) (cs := fun _ => 0) (by omega) he hW.1 hH.1 hf kn
      have ps := flow_push (K := 4) (W := Wn) (H := Hn) (m := 1) (cs := fun _ => 0) (by omega) he hW.1 hH.1 hf kn
      rw [← en] at ms ps
      refine law_gk_4 Wn Hn kn _ _ _ _ _ _ _ a n c b m d w hP (fun V h => gasRun_4 Wn Hn f cf a n c b m d kn V (hP.below h) (hC.below h) f0 en hW hH f6 hcf hk)
        (fun V h => mass_good _ _ _ f a n c V (hP.below h) g0 f6 n4) (fun V q h => ?_)
        (fun V h => push_4 _ _ f a n c V (hP.below h) g0 f6 n4) (fun V q h => ?_)
        (fun V q h => gasTurned_4 Wn Hn _ _ n n V h g2 en hW hH (fl kn))
        (fun V q hb h => gasRun_4 Wn Hn _ cf _ n n b m d kn V h (hC.below hb) (runGE_next f0 g3) en hW hH (fun i => Nat.le_trans (Nat.le_of_lt (ft i)) (by omega)) hcf hk)
        (fun V q h => ?_)
      · have := mass_good _ _ _ _ _ n n V h g2 (fun i => Nat.le_trans (Nat.le_of_lt (fl kn i)) (by simp)) n4
        rw [ms] at this
        exact this
      · have := push_4 _ _ _ _ n n V h g2 (fun i => Nat.le_trans (Nat.le_of_lt (fl kn i)) (by simp)) n4
        rw [ps.1, ps.2] at this
        exact this
      · refine (gasTurned_4 Wn Hn _ _ n n V h g4 en hW hH fu).mono ?_
        rintro e w' ⟨q', he', ha, hb⟩
        refine ⟨q', he', ?_, hb⟩
        have e2 : ((List.range n).map fun i => (mvF (fun k => tnG 4 2 (flowG 4 Wn Hn 1 (fun _ => 0) (trnF Wn Hn (flowG 4 Wn Hn 1 (fun _ => 0) f kn)) kn k)) (srcG 4 Wn Hn) i : Int)) = ((List.range n).map fun i => (f i : Int)) := by
          refine List.map_congr_left fun i hi => ?_
          exact congrArg Int.ofNat (four_back hW.1 hH.1 hf kn (by rw [← en]; exact List.mem_range.1 hi))
        rw [← e2]
        exact ha
    · have f6 : ∀ i, f i ≤ 63 := fun i => by have := hf i; simp at this; omega
      have fl := fun i => flow_in (K := 6) (W := Wn) (H := Hn) (m := m) (cs := cf) (by omega) hf kn i
      have g2 := gasE_ok (n := n) (K := 6) (by omega) hW hH he en fl
      have ms := flow_mass (K := 6) (W := Wn) (H := Hn) (m := m) (cs := cf) (by omega) he hW.1 hH.1 hf kn
      have ps := flow_push (K := 6) (W := Wn) (H := Hn) (m := m) (cs := cf) (by omega) he hW.1 hH.1 hf kn
      rw [← en] at ms ps
      refine law_gk_6 Wn Hn kn _ _ _ _ _ a n c b m d w hP (fun V h => gasRun_6 Wn Hn f cf a n c b m d kn V (hP.below h) (hC.below h) f0 en hW hH f6 hcf (by have := hm rfl; simpa using this) hk)
        (fun V h => mass_good _ _ _ f a n c V (hP.below h) g0 f6 n4) (fun V q h => ?_)
        (fun V h => push_6 _ _ f a n c V (hP.below h) g0 f6 n4) (fun V q h => ?_)
      · have := mass_good _ _ _ _ _ n n V h g2 (fun i => Nat.le_of_lt_succ (fl i)) n4
        rw [ms] at this
        exact this
      · have := push_6 _ _ _ _ n n V h g2 (fun i => Nat.le_of_lt_succ (fl i)) n4
        rw [ps.1, ps.2] at this
        exact this
  · exact law_gk_bad K W H xs a n c cs b m d k w hP hC f0
end Go.Proofs.Ytbkllhlapdmlfaa

namespace Go.Proofs.Ytbkllhlapdmlfaa
open Go.ChangeShapes Go.WideShapes Go.ChangeAt Go.RowKit
open Go.ChangeMaps (setBlock shut_map_nil open_string shut_string keptBut_setBlock frozen?_setBlock heap_setBlock_same)
set_option linter.unusedVariables false

theorem laidOutP : laidOutB Try.prog = true := by kernel_rfl
theorem ownP : ownKnob Try.prog.godebug = none := by kernel_rfl
/-- A list of ints as it is read. -/
theorem ints_arg {H : Type} {enc : TypeId × Value → H} {W : World} {fuel : Nat} {cs : List Value} {x : DataW H × List MemPlace}
    (h : DataW.trod enc Try.prog W 0 (fun _ => true) true fuel 22 cs = some x) :
    ∃ (xs : List Int) (a : Option Addr) (c : Nat), cs = [.slice a xs.length c] ∧ ArgP W xs a xs.length c ∧ xs.length ≤ c ∧ c ≤ maxLen := by
  have q3 : Try.prog.cellsOf 3 = 1 := by kernel_rfl
  rcases open_ints Try.underlying22 Try.underlying3 q3 h with ⟨rfl, -⟩ | ⟨a, len, cap, zs, rfl, hb, hlc, hcm, hzl, -, hcell, hwf⟩
  · exact ⟨[], none, 0, rfl, ⟨rfl, by simp, fun k hk => absurd hk (by simp)⟩, by simp, by simp⟩
  · simp only [if_true] at hzl
    have hl : (zs.take len).length = len := by simp; omega
    refine ⟨zs.take len, some a, cap, by rw [hl], ⟨rfl, by omega, fun k hk => ?_⟩, by omega, hcm⟩
    have hk' : k < len ∧ k < zs.length := by simp only [List.length_take] at hk; omega
    have hc0 := hcell 0 (by omega)
    have hck := hcell k hk'.2
    obtain ⟨g, off, sp⟩ := a
    have hsp : sp = none := by
      cases sp with
      | none => rfl
      | some q =>
        exfalso
        simp [Addr.add, World.cell?] at hc0
        split at hc0 <;> simp at hc0
    subst hsp
    have ea : (⟨g, off, none⟩ : Addr).add k = ⟨g, off + k, none⟩ := by
      unfold Addr.add
      split
      · rename_i hz; subst hz; rfl
      · rfl
    rw [ea] at hck
    refine ⟨g, off, rfl, ?_, ?_⟩
    · rcases Nat.lt_or_ge g W.heap.size with q | q
      · exact q
      · simp [World.cell?, Array.getElem?_eq_none q] at hck
    · rw [hck]
      simp [List.getD, hk'.2]

set_option maxRecDepth 100000 in
/-- A gas that came in. -/
theorem open_gas {H : Type} {enc : TypeId × Value → H} {W : World} {base : Nat} {v : Value} {d : DataW H} {p : List MemPlace}
    (hv : Value.okWide Try.prog W .any base 24 v) (h : DataW.Trod enc Try.prog W 0 (fun _ => true) true 24 v d p) :
    ∃ (kk w h : Int) (xs : List Int) (a : Option Addr) (c : Nat), v = .agg #[.int .i64 kk, .int .i64 w, .int .i64 h, .slice a xs.length c] ∧ ArgP W xs a xs.length c ∧ xs.length ≤ c ∧ c ≤ maxLen := by
  obtain ⟨cs, rfl, hsz⟩ := okWide_struct Try.underlying24 hv
  obtain ⟨fuel, h⟩ := h
  obtain ⟨xs, m, _, hx, hl, hlen, hf⟩ := DataW.trod_struct Try.underlying24 h
  have f0 := hf 0 _ rfl
  have f1 := hf 1 _ rfl
  have f2 := hf 2 _ rfl
  have f3 := hf 3 _ rfl
  clear hf hx h hv hl
  have q3 : Try.prog.cellsOf 3 = 1 := by kernel_rfl
  have k22 : Try.prog.cellsOf 22 = 1 := by kernel_rfl
  rw [show Try.prog.cellsOf 24 = 4 by kernel_rfl] at hsz
  obtain ⟨cl⟩ := cs
  match cl, hsz with
  | [c0, c1, c2, c3], _ =>
  match xs, hlen with
  | [y0, y1, y2, y3], _ =>
  simp [Value.cells, q3, k22] at f0 f1 f2 f3
  obtain ⟨k0, e0, -, w0⟩ := DataW.trod_int Try.underlying3 f0
  obtain ⟨k1, e1, -, w1⟩ := DataW.trod_int Try.underlying3 f1
  obtain ⟨k2, e2, -, w2⟩ := DataW.trod_int Try.underlying3 f2
  obtain ⟨zs, a, c, e3, ha, h1, h2⟩ := ints_arg f3
  simp only [List.cons.injEq, and_true] at e0 e1 e2 e3
  subst e0 e1 e2 e3
  exact ⟨k0, k1, k2, zs, a, c, rfl, ha, h1, h2⟩

set_option maxRecDepth 100000 in
/-- A list of ints that came in. -/
theorem open_list {H : Type} {enc : TypeId × Value → H} {W : World} {base : Nat} {v : Value} {d : DataW H} {p : List MemPlace}
    (hv : Value.okWide Try.prog W .any base 22 v) (h : DataW.Trod enc Try.prog W 0 (fun _ => true) true 22 v d p) :
    ∃ (xs : List Int) (a : Option Addr) (c : Nat), v = .slice a xs.length c ∧ ArgP W xs a xs.length c ∧ xs.length ≤ c ∧ c ≤ maxLen := by
  obtain ⟨a0, n0, c0, rfl⟩ := okWide_slice Try.underlying22 hv
  obtain ⟨fuel, h⟩ := h
  obtain ⟨xs, a, c, e, ha, h1, h2⟩ := ints_arg h
  simp [Value.cells] at e
  obtain ⟨rfl, rfl, rfl⟩ := e
  exact ⟨xs, _, _, rfl, ha, h1, h2⟩
theorem trodAll_threeG {H : Type} {enc : TypeId × Value → H} {P : Program} {w : World} {base : Nat} {spare : Nat → Bool} {held : Bool} {t0 t1 t2 : TypeId} {args : Array Value} {ds : List (DataW H)} {ps : List MemPlace} (h : DataW.TrodAll enc P w base spare held [t0, t1, t2] args.toList ds ps) :
    ∃ v0 v1 v2 d0 d1 d2 p0 p1 p2, args = #[v0, v1, v2] ∧ ds = [d0, d1, d2] ∧ ps = p0 ++ (p1 ++ p2) ∧ DataW.Trod enc P w base spare held t0 v0 d0 p0 ∧ DataW.Trod enc P w base spare held t1 v1 d1 p1 ∧ DataW.Trod enc P w base spare held t2 v2 d2 p2 := by
  obtain ⟨v0, vs0, d0, ds0, p0, q0, hargs, rfl, rfl, hd0, r0⟩ := trodAll_cons h
  obtain ⟨v1, vs1, d1, ds1, p1, q1, rfl, rfl, rfl, hd1, r1⟩ := trodAll_cons r0
  obtain ⟨v2, vs2, d2, ds2, p2, q2, rfl, rfl, rfl, hd2, r2⟩ := trodAll_cons r1
  obtain ⟨rfl, rfl, rfl⟩ := trodAll_nil r2
  exact ⟨v0, v1, v2, d0, d1, d2, p0, p1, p2, by cases args; simp_all, rfl, by simp, hd0, hd1, hd2⟩
end Go.Proofs.Ytbkllhlapdmlfaa

