/-
  What the last text of this claim leans on, part 16: LawBba.
-/
import Derived.Test.YtfeddccbhmbkmaaZb15
import Derived.Deep.CutRange
namespace Go.Proofs.Ytfeddccbhmbkmaa
open Go.RowKit
set_option linter.unusedVariables false
set_option maxRecDepth 100000 in
set_option maxHeartbeats 6400000 in
theorem law_bb_tto (W H ph k : Nat) (t xs ys qs zs bl : List Int) (sx sy : Int) (b : Option Addr) (m d : Nat) (a : Option Addr) (n c : Nat) (w : World) (hP : ArgP w xs a n c) (p1 : ph ≤ 1) (k1 : k ≤ 100000)
    (run : ∀ V, Below w.heap.size w V → Calls Try.prog 6 #[.slice b m d, .agg #[.int .i64 (W : Int), .int .i64 (H : Int), .slice a n c], .int .i64 (ph : Int), .int .i64 (k : Int)] V (RunOut W H ys V))
    (kee : ∀ V, Below w.heap.size w V → Calls Try.prog 7 #[.slice b m d] V (FlagPost true V))
    (cp : ∀ V, Below w.heap.size w V → Calls Try.prog 8 #[.agg #[.int .i64 (W : Int), .int .i64 (H : Int), .slice a n c]] V (CountOut sx V))
    (ca : ∀ V a n c, ArgP V ys a n c → Calls Try.prog 8 #[.agg #[.int .i64 (W : Int), .int .i64 (H : Int), .slice a n c]] V (CountOut sx V))
    (tur : ∀ V, Below w.heap.size w V → Calls Try.prog 9 #[.slice b m d] V (FlagPost true V))
    (tp : ∀ V, Below w.heap.size w V → Calls Try.prog 10 #[.agg #[.int .i64 (W : Int), .int .i64 (H : Int), .slice a n c], .int .i64 1] V (TurnOut H W qs V))
    (rq : ∀ V a n c, Below w.heap.size w V → ArgP V qs a n c → Calls Try.prog 6 #[.slice b m d, .agg #[.int .i64 (H : Int), .int .i64 (W : Int), .slice a n c], .int .i64 (ph : Int), .int .i64 (k : Int)] V (RunOut H W zs V))
    (ta : ∀ V a n c, ArgP V ys a n c → Calls Try.prog 10 #[.agg #[.int .i64 (W : Int), .int .i64 (H : Int), .slice a n c], .int .i64 1] V (TurnOut H W zs V))
    (bac : ∀ V, Below w.heap.size w V → Calls Try.prog 5 #[.slice b m d] V (BackOk bl V))
    (rb : ∀ V g a n c, ArgP V bl (some ⟨g, 0, none⟩) 16 16 → ArgP V ys a n c → Calls Try.prog 6 #[.slice (some ⟨g, 0, none⟩) 16 16, .agg #[.int .i64 (W : Int), .int .i64 (H : Int), .slice a n c], .int .i64 (((ph + k + 1) % 2 : Nat) : Int), .int .i64 (k : Int)] V (RunOut W H xs V)) :
    Calls Try.prog 3 #[.slice b m d, .agg #[.int .i64 (W : Int), .int .i64 (H : Int), .slice a n c], .int .i64 (ph : Int), .int .i64 (k : Int)] w fun e w' => e = .returned (.bool true) ∧ Below w.heap.size w w' := by
  obtain ⟨w1, hw1⟩ : ∃ w1, w.alloc (.cells #[.int .i64 (W : Int), .int .i64 (H : Int), .slice a n c] 24) = w1 := ⟨_, rfl⟩
  have BB := hide' (show Below w.heap.size w w1 by rw [← hw1]; exact (Below.refl _ _).alloc (Nat.le_refl _) _)
  have g1 : w1.heap[w.heap.size]? = some (.cells #[.int .i64 (W : Int), .int .i64 (H : Int), .slice a n c] 24 (0, 0)) := by rw [← hw1]; exact heap_alloc_new _ _
  have SV := hide' (fun (V : World) (h : Below w1.heap.size w1 V) => show V.cell? ⟨w.heap.size, 0, none⟩ = some (.int .i64 (W : Int)) ∧ V.cell? ⟨w.heap.size, 1, none⟩ = some (.int .i64 (H : Int)) ∧ V.cell? ⟨w.heap.size, 2, none⟩ = some (.slice a n c) from by
    have e1 := (h.block _ (lt_of_block g1)).trans g1
    exact ⟨cell_of_row V _ 0 _ _ _ e1, cell_of_row V _ 1 _ _ _ e1, cell_of_row V _ 2 _ _ _ e1⟩)
  have BW := hide' (fun (V : World) (h : Below w1.heap.size w1 V) => BB.out.trans (h.mono BB.out.size))
  have C0 := hide' ((Below.refl w1.heap.size w1).alloc (Nat.le_refl _) (.cells #[.int .i64 0, .int .i64 8, .int .i64 4, .int .i64 3, .int .i64 2, .int .i64 5, .int .i64 9, .int .i64 7, .int .i64 1, .int .i64 6, .int .i64 10, .int .i64 11, .int .i64 12, .int .i64 13, .int .i64 14, .int .i64 15] 3))
  have GB := hide' (show (w1.alloc (.cells #[.int .i64 0, .int .i64 8, .int .i64 4, .int .i64 3, .int .i64 2, .int .i64 5, .int .i64 9, .int .i64 7, .int .i64 1, .int .i64 6, .int .i64 10, .int .i64 11, .int .i64 12, .int .i64 13, .int .i64 14, .int .i64 15] 3)).heap[w1.heap.size]? = some (.cells #[.int .i64 0, .int .i64 8, .int .i64 4, .int .i64 3, .int .i64 2, .int .i64 5, .int .i64 9, .int .i64 7, .int .i64 1, .int .i64 6, .int .i64 10, .int .i64 11, .int .i64 12, .int .i64 13, .int .i64 14, .int .i64 15] 3 (0, 0)) from heap_alloc_new _ _)
  have RUN := hide' (fun (V : World) (h : Below w1.heap.size w1 V) => run V (BW.out V h))
  have KEE := hide' (fun (V : World) (h : Below w1.heap.size w1 V) => kee V (BW.out V h))
  have CP := hide' (fun (V : World) (h : Below w1.heap.size w1 V) => cp V (BW.out V h))
  have CA' := hide' ca
  have TUR := hide' (fun (V : World) (h : Below w1.heap.size w1 V) => tur V (BW.out V h))
  have BAC := hide' (fun (V : World) (h : Below w1.heap.size w1 V) => bac V (BW.out V h))
  have TP := hide' (fun (V : World) (h : Below w1.heap.size w1 V) => tp V (BW.out V h))
  have RQ := hide' (fun (V : World) a n c (h : Below w1.heap.size w1 V) => rq V a n c (BW.out V h))
  have TA := hide' ta
  have RB := hide' rb
  have AP := hide' (fun (V : World) (h : Below w1.heap.size w1 V) => hP.below (BW.out V h))
  obtain ⟨fz, hfz⟩ : ∃ fz, (ph + k + 1) % 2 = fz := ⟨_, rfl⟩
  rw [hfz] at RB
  have s1 : IntKind.i64.wrap ((ph : Int) + (k : Int)) = ((ph + k : Nat) : Int) := by rw [wrap_nB' (by omega)]; push_cast; rfl
  have s2 : IntKind.i64.wrap (((ph + k : Nat) : Int) + 1) = ((ph + k + 1 : Nat) : Int) := by rw [wrap_nB' (by omega)]; push_cast; rfl
  have s3 : IntKind.i64.wrap ((((ph + k + 1 : Nat) : Int)).tmod 2) = (fz : Int) := by rw [show (2 : Int) = ((2 : Nat) : Int) from rfl, ← Int.ofNat_tmod, hfz]; exact wrap_nB' (by omega)
  have s4 : (((ph : Int) + (k : Int) + 1).tmod 2) = (fz : Int) := by rw [show (ph : Int) + (k : Int) + 1 = ((ph + k + 1 : Nat) : Int) by push_cast; rfl, show (2 : Int) = ((2 : Nat) : Int) from rfl, ← Int.ofNat_tmod, hfz]
  have s5 : ((ph : Int) + (k : Int) + 1) % 2 = (fz : Int) := by omega
  have PZ := hide' (And.intro s1 (And.intro s2 (And.intro s3 (And.intro s4 s5))))
  clear hfz s1 s2 s3 s4 s5
  have PK := hide' (And.intro p1 k1)
  clear run kee cp ca tur bac hP tp rq ta rb p1 k1
  clear g1
  go_enter Try.func3, Try.ntmps3
  go_upto_region 1 with fail
  clear hw1
  go_wp2_with fail
  refine (fact8 _ _ GB.out).mono ?_
  rintro e w2 ⟨⟨g2, rfl, k8⟩, b⟩
  have C1 := hide' (C0.out.trans (b.mono C0.out.size))
  clear b C0 GB
  go_upto_region 4 with fail
  clear k8
  obtain ⟨x0, x1, x2⟩ := SV.out _ C1.out
  go_wp2_with fail
  refine (RUN.out w2 C1.out).mono ?_
  rintro e w3 ⟨fa, fn, fc, rfl, ap, b'⟩
  have C2 := hide' (C1.out.trans (b'.mono C1.out.size))
  clear b' x0 x1 x2 C1
  have Af := hide' ap
  clear ap
  have C3 := hide' (C2.out.alloc C2.out.size (.cells #[.int .i64 (W : Int), .int .i64 (H : Int), .slice fa fn fc] 24))
  have Af0 := hide' (Af.out.alloc (.cells #[.int .i64 (W : Int), .int .i64 (H : Int), .slice fa fn fc] 24))
  have Gf0 := hide' (show (w3.alloc (.cells #[.int .i64 (W : Int), .int .i64 (H : Int), .slice fa fn fc] 24)).heap[w3.heap.size]? = some (.cells #[.int .i64 (W : Int), .int .i64 (H : Int), .slice fa fn fc] 24 (0, 0)) from heap_alloc_new _ _)
  clear Af C2
  go_wp2_with fail
  refine (KEE.out _ C3.out).mono ?_
  rintro e w4 ⟨rfl, b'⟩
  have C4 := hide' (C3.out.trans (b'.mono C3.out.size))
  have Gf4 := hide' ((b'.block _ (lt_of_block Gf0.out)).trans Gf0.out)
  have Af4 := hide' (Af0.out.below b')
  clear b'  C3 Gf0 Af0
  obtain ⟨x0, x1, x2⟩ := SV.out _ C4.out
  go_wp2_with fail
  refine (CP.out _ C4.out).mono ?_
  rintro e w5 ⟨rfl, b'⟩
  have C5 := hide' (C4.out.trans (b'.mono C4.out.size))
  have Gf5 := hide' ((b'.block _ (lt_of_block Gf4.out)).trans Gf4.out)
  have Af5 := hide' (Af4.out.below b')
  clear b' x0 x1 x2 C4 Gf4 Af4
  have z0 := cell_of_row _ _ 0 _ _ _ Gf5.out
  have z1 := cell_of_row _ _ 1 _ _ _ Gf5.out
  have z2 := cell_of_row _ _ 2 _ _ _ Gf5.out
  simp at z0 z1 z2
  go_wp2_with fail
  refine (CA'.out _ fa fn fc Af5.out).mono ?_
  rintro e w6 ⟨rfl, b'⟩
  have C6 := hide' (C5.out.trans (b'.mono C5.out.size))
  have Gf6 := hide' ((b'.block _ (lt_of_block Gf5.out)).trans Gf5.out)
  have Af6 := hide' (Af5.out.below b')
  clear b' z0 z1 z2 C5 Gf5 Af5
  go_wp2_with fail
  refine (TUR.out _ C6.out).mono ?_
  rintro e w7 ⟨rfl, b'⟩
  have C7 := hide' (C6.out.trans (b'.mono C6.out.size))
  have Gf7 := hide' ((b'.block _ (lt_of_block Gf6.out)).trans Gf6.out)
  have Af7 := hide' (Af6.out.below b')
  clear b'  C6 Gf6 Af6
  obtain ⟨x0, x1, x2⟩ := SV.out _ C7.out
  go_wp2_with fail
  refine (TP.out _ C7.out).mono ?_
  rintro e w8 ⟨qa, qn, qc, rfl, ap, b'⟩
  have C8 := hide' (C7.out.trans (b'.mono C7.out.size))
  have Gf8 := hide' ((b'.block _ (lt_of_block Gf7.out)).trans Gf7.out)
  have Af8 := hide' (Af7.out.below b')
  clear b' x0 x1 x2 C7 Gf7 Af7
  have Aq := hide' ap
  clear ap
  have C9 := hide' (C8.out.alloc C8.out.size (.cells #[.int .i64 (H : Int), .int .i64 (W : Int), .slice qa qn qc] 24))
  have Gf9 := hide' ((Below.heap_alloc _ (.cells #[.int .i64 (H : Int), .int .i64 (W : Int), .slice qa qn qc] 24) _ (lt_of_block Gf8.out)).trans Gf8.out)
  have Af9 := hide' (Af8.out.alloc (.cells #[.int .i64 (H : Int), .int .i64 (W : Int), .slice qa qn qc] 24))
  have Aq0 := hide' (Aq.out.alloc (.cells #[.int .i64 (H : Int), .int .i64 (W : Int), .slice qa qn qc] 24))
  have Gq0 := hide' (show (w8.alloc (.cells #[.int .i64 (H : Int), .int .i64 (W : Int), .slice qa qn qc] 24)).heap[w8.heap.size]? = some (.cells #[.int .i64 (H : Int), .int .i64 (W : Int), .slice qa qn qc] 24 (0, 0)) from heap_alloc_new _ _)
  clear Aq C8 Gf8 Af8
  have z0 := cell_of_row _ _ 0 _ _ _ Gq0.out
  have z1 := cell_of_row _ _ 1 _ _ _ Gq0.out
  have z2 := cell_of_row _ _ 2 _ _ _ Gq0.out
  simp at z0 z1 z2
  go_wp2_with fail
  refine (RQ.out _ qa qn qc C9.out Aq0.out).mono ?_
  rintro e w9 ⟨ua, un, uc, rfl, ap, b'⟩
  have C10 := hide' (C9.out.trans (b'.mono C9.out.size))
  have Gf10 := hide' ((b'.block _ (lt_of_block Gf9.out)).trans Gf9.out)
  have Af10 := hide' (Af9.out.below b')
  have Gq10 := hide' ((b'.block _ (lt_of_block Gq0.out)).trans Gq0.out)
  have Aq10 := hide' (Aq0.out.below b')
  clear b' z0 z1 z2 C9 Gf9 Af9 Gq0 Aq0
  have Au := hide' ap
  clear ap
  have C11 := hide' (C10.out.alloc C10.out.size (.cells #[.int .i64 (H : Int), .int .i64 (W : Int), .slice ua un uc] 24))
  have Gf11 := hide' ((Below.heap_alloc _ (.cells #[.int .i64 (H : Int), .int .i64 (W : Int), .slice ua un uc] 24) _ (lt_of_block Gf10.out)).trans Gf10.out)
  have Af11 := hide' (Af10.out.alloc (.cells #[.int .i64 (H : Int), .int .i64 (W : Int), .slice ua un uc] 24))
  have Gq11 := hide' ((Below.heap_alloc _ (.cells #[.int .i64 (H : Int), .int .i64 (W : Int), .slice ua un uc] 24) _ (lt_of_block Gq10.out)).trans Gq10.out)
  have Aq11 := hide' (Aq10.out.alloc (.cells #[.int .i64 (H : Int), .int .i64 (W : Int), .slice ua un uc] 24))
  have Au0 := hide' (Au.out.alloc (.cells #[.int .i64 (H : Int), .int .i64 (W : Int), .slice ua un uc] 24))
  have Gu0 := hide' (show (w9.alloc (.cells #[.int .i64 (H : Int), .int .i64 (W : Int), .slice ua un uc] 24)).heap[w9.heap.size]? = some (.cells #[.int .i64 (H : Int), .int .i64 (W : Int), .slice ua un uc] 24 (0, 0)) from heap_alloc_new _ _)
  clear Au C10 Gf10 Af10 Gq10 Aq10
  have z0 := cell_of_row _ _ 0 _ _ _ Gf11.out
  have z1 := cell_of_row _ _ 1 _ _ _ Gf11.out
  have z2 := cell_of_row _ _ 2 _ _ _ Gf11.out
  simp at z0 z1 z2
  go_wp2_with fail
  refine (TA.out _ fa fn fc Af11.out).mono ?_
  rintro e w10 ⟨va, vn, vc, rfl, ap, b'⟩
  have C12 := hide' (C11.out.trans (b'.mono C11.out.size))
  have Gf12 := hide' ((b'.block _ (lt_of_block Gf11.out)).trans Gf11.out)
  have Af12 := hide' (Af11.out.below b')
  have Gq12 := hide' ((b'.block _ (lt_of_block Gq11.out)).trans Gq11.out)
  have Aq12 := hide' (Aq11.out.below b')
  have Gu12 := hide' ((b'.block _ (lt_of_block Gu0.out)).trans Gu0.out)
  have Au12 := hide' (Au0.out.below b')
  clear b' z0 z1 z2 C11 Gf11 Af11 Gq11 Aq11 Gu0 Au0
  have Av := hide' ap
  clear ap
  have C13 := hide' (C12.out.alloc C12.out.size (.cells #[.int .i64 (H : Int), .int .i64 (W : Int), .slice va vn vc] 24))
  have Gf13 := hide' ((Below.heap_alloc _ (.cells #[.int .i64 (H : Int), .int .i64 (W : Int), .slice va vn vc] 24) _ (lt_of_block Gf12.out)).trans Gf12.out)
  have Af13 := hide' (Af12.out.alloc (.cells #[.int .i64 (H : Int), .int .i64 (W : Int), .slice va vn vc] 24))
  have Gq13 := hide' ((Below.heap_alloc _ (.cells #[.int .i64 (H : Int), .int .i64 (W : Int), .slice va vn vc] 24) _ (lt_of_block Gq12.out)).trans Gq12.out)
  have Aq13 := hide' (Aq12.out.alloc (.cells #[.int .i64 (H : Int), .int .i64 (W : Int), .slice va vn vc] 24))
  have Gu13 := hide' ((Below.heap_alloc _ (.cells #[.int .i64 (H : Int), .int .i64 (W : Int), .slice va vn vc] 24) _ (lt_of_block Gu12.out)).trans Gu12.out)
  have Au13 := hide' (Au12.out.alloc (.cells #[.int .i64 (H : Int), .int .i64 (W : Int), .slice va vn vc] 24))
  have Av0 := hide' (Av.out.alloc (.cells #[.int .i64 (H : Int), .int .i64 (W : Int), .slice va vn vc] 24))
  have Gv0 := hide' (show (w10.alloc (.cells #[.int .i64 (H : Int), .int .i64 (W : Int), .slice va vn vc] 24)).heap[w10.heap.size]? = some (.cells #[.int .i64 (H : Int), .int .i64 (W : Int), .slice va vn vc] 24 (0, 0)) from heap_alloc_new _ _)
  clear Av C12 Gf12 Af12 Gq12 Aq12 Gu12 Au12
  have z0 := cell_of_row _ _ 0 _ _ _ Gu13.out
  have z1 := cell_of_row _ _ 1 _ _ _ Gu13.out
  have z2 := cell_of_row _ _ 2 _ _ _ Gu13.out
  simp at z0 z1 z2
  have y0 := cell_of_row _ _ 0 _ _ _ Gv0.out
  have y1 := cell_of_row _ _ 1 _ _ _ Gv0.out
  have y2 := cell_of_row _ _ 2 _ _ _ Gv0.out
  simp at y0 y1 y2
  go_wp2_with fail
  refine (Alike_any (H : Int) (W : Int) (H : Int) (W : Int) zs zs ua va un uc vn vc _ Au13.out Av0.out).mono ?_
  simp only [decide_true, beq_self_eq_true, Bool.and_self]
  rintro e w11 ⟨rfl, b'⟩
  have C14 := hide' (C13.out.trans (b'.mono C13.out.size))
  have Gf14 := hide' ((b'.block _ (lt_of_block Gf13.out)).trans Gf13.out)
  have Af14 := hide' (Af13.out.below b')
  clear b' C13 Gf13 Af13 z0 z1 z2 y0 y1 y2 Aq13 Gq13 Au13 Gu13 Av0 Gv0
  go_wp2_with fail
  refine (BAC.out _ C14.out).mono ?_
  rintro e w12 ⟨gb, rfl, ap, b'⟩
  have C15 := hide' (C14.out.trans (b'.mono C14.out.size))
  have Gf15 := hide' ((b'.block _ (lt_of_block Gf14.out)).trans Gf14.out)
  have Af15 := hide' (Af14.out.below b')
  clear b' C14 Gf14 Af14
  have Ag0 := hide' ap
  clear ap
  obtain ⟨s1, s2, s3, s4, s5⟩ := PZ.out
  obtain ⟨p1, k1⟩ := PK.out
  have z0 := cell_of_row _ _ 0 _ _ _ Gf15.out
  have z1 := cell_of_row _ _ 1 _ _ _ Gf15.out
  have z2 := cell_of_row _ _ 2 _ _ _ Gf15.out
  simp at z0 z1 z2
  go_wp2_with fail
  refine (RB.out _ gb fa fn fc Ag0.out Af15.out).mono ?_
  rintro e w13 ⟨ra, rn, rc, rfl, ap, b'⟩
  have C16 := hide' (C15.out.trans (b'.mono C15.out.size))
  have Gf16 := hide' ((b'.block _ (lt_of_block Gf15.out)).trans Gf15.out)
  have Af16 := hide' (Af15.out.below b')
  have Ag16 := hide' (Ag0.out.below b')
  clear b' z0 z1 z2 s1 s2 s3 s4 s5 p1 k1 C15 Gf15 Af15 Ag0
  have Ar := hide' ap
  clear ap
  have C17 := hide' (C16.out.alloc C16.out.size (.cells #[.int .i64 (W : Int), .int .i64 (H : Int), .slice ra rn rc] 24))
  have Gf17 := hide' ((Below.heap_alloc _ (.cells #[.int .i64 (W : Int), .int .i64 (H : Int), .slice ra rn rc] 24) _ (lt_of_block Gf16.out)).trans Gf16.out)
  have Af17 := hide' (Af16.out.alloc (.cells #[.int .i64 (W : Int), .int .i64 (H : Int), .slice ra rn rc] 24))
  have Ag17 := hide' (Ag16.out.alloc (.cells #[.int .i64 (W : Int), .int .i64 (H : Int), .slice ra rn rc] 24))
  have Ar0 := hide' (Ar.out.alloc (.cells #[.int .i64 (W : Int), .int .i64 (H : Int), .slice ra rn rc] 24))
  have Gr0 := hide' (show (w13.alloc (.cells #[.int .i64 (W : Int), .int .i64 (H : Int), .slice ra rn rc] 24)).heap[w13.heap.size]? = some (.cells #[.int .i64 (W : Int), .int .i64 (H : Int), .slice ra rn rc] 24 (0, 0)) from heap_alloc_new _ _)
  clear Ar C16 Gf16 Af16 Ag16
  have z0 := cell_of_row _ _ 0 _ _ _ Gr0.out
  have z1 := cell_of_row _ _ 1 _ _ _ Gr0.out
  have z2 := cell_of_row _ _ 2 _ _ _ Gr0.out
  simp at z0 z1 z2
  obtain ⟨x0, x1, x2⟩ := SV.out _ C17.out
  go_wp2_with fail
  refine (Alike_any (W : Int) (H : Int) (W : Int) (H : Int) xs xs ra a rn rc n c _ Ar0.out (AP.out _ C17.out)).mono ?_
  simp only [decide_true, beq_self_eq_true, Bool.and_self]
  rintro e w14 ⟨rfl, b'⟩
  have CZ := hide' (C17.out.trans (b'.mono C17.out.size))
  clear b' z0 z1 z2 x0 x1 x2
  go_wp2
  go_ret
  exact ⟨rfl, BW.out _ CZ.out⟩
end Go.Proofs.Ytfeddccbhmbkmaa

