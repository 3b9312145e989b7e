/-
  What the last text of this claim leans on, part 41: Td1, Td2, Td4.
-/
import Derived.Test.YtpajdmhgonmgoaaDoorYt37
import Derived.Test.YtpajdmhgonmgoaaDoorYt40
import Derived.Test.YtpajdmhgonmgoaaDoorYt39
import Derived.Test.YtpajdmhgonmgoaaDoorYt35
namespace Go.Proofs.YtpajdmhgonmgoaaDoor
open Go.RowKit
set_option linter.unusedVariables false
set_option linter.unusedSimpArgs false
open Go.Conc Go.ConcN Go.RowKit
theorem inits3 : Tryd.prog.inits.idxOf? 3 = none := by decide +kernel
theorem funcs3 : (Tryd.prog.funcs[3]?).isSome = true := by rw [Tryd.func3]; rfl
theorem ints_bel (xs ys : List Int) (a b : Option Addr) (n c m d : Nat) (w : World) (hA : ArgP w xs a n c) (hB : ArgP w ys b m d) (h : xs = ys) : Calls Tryd.prog 12 #[.slice a n c, .slice b m d] w fun e w' => e = .returned (.bool true) ∧ Below w.heap.size w w' :=
  (Ints_any xs ys a b n c m d w hA hB).mono fun e w' ⟨h1, q, h2⟩ => ⟨by rw [h1, decide_eq_true h], by rw [h2]; exact below_drewN (Below.refl _ _) q⟩
theorem argP_nil (w : World) : ArgP w [] none 0 0 := ⟨rfl, by unfold maxLen; omega, fun k hk => by simp at hk⟩
set_option maxRecDepth 100000 in
set_option maxHeartbeats 12800000 in
/-- The law where the graph, the sink or the chips are wrong. -/
theorem settles_no {Post : Value → World → Prop} {P s wk : Int} {en ec cn cc on oc : Nat} {xs : List EgT} {cl os : List Int} {ea ca oa : Option Addr} {w : World} (hE : ArgE w xs ea en ec) (hC : ArgP w cl ca cn cc) (hO : ArgP w os oa on oc) (hH : ∀ V : World, Below w.heap.size w V → Handle V)
    (hpost : ∀ V : World, Below w.heap.size w V → Post (.bool true) V) {f : Nat} (f0 : ¬ f = 0) (hf : ChG P xs s cl f) :
    Reach Tryd.prog (G ((base 3).at ⟨#[.agg #[.int .i64 P, .slice ea en ec], .int .i64 s, .slice ca cn cc, .slice oa on oc, .int .i64 wk, undef, undef, undef, undef, undef, undef, undef, undef, undef, undef, undef, undef, undef, undef, undef, undef, undef, undef, undef, undef, undef, undef, undef, undef, undef, undef, undef, undef, undef, undef, undef, undef, undef, undef, undef, undef, undef, undef, undef, undef, undef, undef, undef, undef, undef, undef, undef, undef, undef, undef, undef, undef, undef, undef, undef, undef, undef, undef, undef, undef, undef, undef, undef, undef, undef, undef, undef, undef, undef, undef, undef, undef, undef, undef, undef, undef, undef, undef, undef, undef, undef, undef, undef, undef, undef, undef, undef, undef, undef, undef, undef, undef, undef, undef, undef, undef, undef, undef, undef, undef, undef, undef, undef, undef, undef, undef, undef, undef, undef, undef, undef, undef, undef, undef, undef, undef, undef, undef, undef, undef, undef, undef, undef, undef, undef, undef, undef, undef, undef, undef, undef, undef, undef, undef, undef, undef, undef, undef, undef, undef, undef, undef, undef, undef, undef, undef, undef, undef, undef], []⟩ [.code (bodyOf Tryd.f3)]) []) w (LawEnd Tryd.prog Post) := by
  obtain ⟨w1, hw1⟩ : ∃ w1, w.alloc (.cells #[.int .i64 P, .slice ea en ec] 24) = w1 := ⟨_, rfl⟩
  obtain ⟨gx, hgx⟩ : ∃ gx, w.heap.size = gx := ⟨_, rfl⟩
  have HW1 := hide' hw1
  have B1 := hide' (show Below w.heap.size w w1 by rw [← hw1]; exact (Below.refl _ _).alloc (Nat.le_refl _) _)
  have R1 := hide' (show w1.heap[gx]? = some (.cells #[.int .i64 P, .slice ea en ec] 24 (0, 0)) by rw [← hw1, ← hgx]; exact heap_alloc_new _ _)
  have HE := hide' (fun (V : World) (h : Below w.heap.size w V) => hE.below h)
  have HC := hide' (fun (V : World) (h : Below w.heap.size w V) => hC.below h)
  have HO := hide' (fun (V : World) (h : Below w.heap.size w V) => hO.below h)
  have HH := hide' hH
  have HP := hide' hpost
  have HF := hide' hf
  have F0 := hide' f0
  obtain ⟨er, her⟩ : ∃ er, errOf f = er := ⟨_, rfl⟩
  have HER := hide' her
  have nf : ((f : Int) == 0) = false := by simp; omega
  clear hw1 hE hC hO hH hpost hf f0 her
  simp only [bodyOf, Tryd.f3, Option.getD_some]
  refine lone_tail rfl Tryd.func3 inits3 rfl ?_
  have y0 := cell_of_row w1 _ 0 _ _ _ R1.out
  have y1 := cell_of_row w1 _ 1 _ _ _ R1.out
  simp at y0 y1
  have CT := hide' (refFault_any P xs ea en ec w1 (HE.out w1 B1.out))
  go_upto_region 1 with fail
  rw [HW1.out]
  go_wp2_with fail
  refine CT.out.mono ?_
  rintro e w2 ⟨g, hg, rfl, b⟩
  have B2 := hide' (B1.out.trans (b.mono B1.out.size))
  have R2 := hide' ((b.block _ (ltS_of_block R1.out)).trans R1.out)
  have HG := hide' hg
  clear hg
  clear CT b y0 y1
  have y0 := cell_of_row w2 _ 0 _ _ _ R2.out
  have y1 := cell_of_row w2 _ 1 _ _ _ R2.out
  simp at y0 y1
  have CT := hide' (Check_any P xs ea en ec w2 (HE.out w2 B2.out))
  go_wp2_with fail
  refine CT.out.mono ?_
  rintro e w3 ⟨g1, hg1, rfl, b⟩
  obtain rfl := hg1.only HG.out
  have B3 := hide' (B2.out.trans (b.mono B2.out.size))
  have R3 := hide' ((b.block _ (ltS_of_block R2.out)).trans R2.out)
  clear hg1
  obtain ⟨eq, heq⟩ : ∃ eq, errOf g1 = eq := ⟨_, rfl⟩
  rw [heq]
  clear CT b y0 y1
  have y0 := cell_of_row w3 _ 0 _ _ _ R3.out
  have y1 := cell_of_row w3 _ 1 _ _ _ R3.out
  simp at y0 y1
  have CT := hide' (by have h := errSameC_any g1 w3 (HH.out w3 B3.out); rw [heq] at h; exact h)
  go_wp2_with fail
  refine CT.out.mono ?_
  rintro e w4 ⟨rfl, b⟩
  have B4 := hide' (B3.out.trans (b.mono B3.out.size))
  have R4 := hide' ((b.block _ (ltS_of_block R3.out)).trans R3.out)
  clear CT b y0 y1
  have y0 := cell_of_row w4 _ 0 _ _ _ R4.out
  have y1 := cell_of_row w4 _ 1 _ _ _ R4.out
  simp at y0 y1
  have CT := hide' (refChips_any P xs ea en ec s cl ca cn cc w4 (HE.out w4 B4.out) (HC.out w4 B4.out))
  go_wp2_with fail
  refine CT.out.mono ?_
  rintro e w5 ⟨f1, hf1, rfl, b⟩
  obtain rfl := hf1.only HF.out
  have B5 := hide' (B4.out.trans (b.mono B4.out.size))
  have R5 := hide' ((b.block _ (ltS_of_block R4.out)).trans R4.out)
  clear hf1
  clear CT b y0 y1
  have y0 := cell_of_row w5 _ 0 _ _ _ R5.out
  have y1 := cell_of_row w5 _ 1 _ _ _ R5.out
  simp at y0 y1
  have CT := hide' (settleC_any P xs ea en ec s cl ca cn cc w5 (HE.out w5 B5.out) (HC.out w5 B5.out))
  go_wp2_with fail
  refine CT.out.mono ?_
  rintro e w6 ⟨b, f2, hf2, hout⟩
  obtain rfl := hf2.only HF.out
  rcases hout with ⟨_, rfl⟩ | ⟨h, _⟩
  case inr => exact (F0.out h).elim
  rw [HER.out]
  have B6 := hide' (B5.out.trans (b.mono B5.out.size))
  have R6 := hide' ((b.block _ (ltS_of_block R5.out)).trans R5.out)
  clear CT b y0 y1 hf2
  have y0 := cell_of_row w6 _ 0 _ _ _ R6.out
  have y1 := cell_of_row w6 _ 1 _ _ _ R6.out
  simp at y0 y1
  go_wp2_with fail
  obtain ⟨pa, hpa⟩ : ∃ pa, w6.heap.size = pa := ⟨_, rfl⟩
  obtain ⟨w7, hw7⟩ : ∃ w7, w6.alloc (.cells #[.slice none 0 0, .slice none 0 0] 33) = w7 := ⟨_, rfl⟩
  rw [hpa, hw7]
  have b : Below w6.heap.size w6 w7 := by rw [← hw7]; exact (Below.refl _ _).alloc (Nat.le_refl _) _
  have B7 := hide' (B6.out.trans (b.mono B6.out.size))
  have R7 := hide' ((b.block _ (ltS_of_block R6.out)).trans R6.out)
  have Q7 := hide' (show w7.heap[pa]? = some (.cells #[.slice none 0 0, .slice none 0 0] 33 (0, 0)) by rw [← hw7, ← hpa]; exact heap_alloc_new _ _)
  clear hw7 b hpa y0 y1
  have y0 := cell_of_row w7 _ 0 _ _ _ R7.out
  have y1 := cell_of_row w7 _ 1 _ _ _ R7.out
  have z0 := cell_of_row w7 _ 0 _ _ _ Q7.out
  have z1 := cell_of_row w7 _ 1 _ _ _ Q7.out
  simp at y0 y1 z0 z1
  have CT := hide' (show Calls Tryd.prog 7 #[er, .int .i64 (f2 : Int)] w7 _ from by have h := errSameC_any f2 w7 (HH.out w7 B7.out); rw [HER.out] at h; exact h)
  go_wp2_with fail
  refine CT.out.mono ?_
  rintro e w8 ⟨rfl, b⟩
  have B8 := hide' (B7.out.trans (b.mono B7.out.size))
  have R8 := hide' ((b.block _ (ltS_of_block R7.out)).trans R7.out)
  have Q8 := hide' ((b.block _ (ltS_of_block Q7.out)).trans Q7.out)
  clear CT b y0 y1 z0 z1
  have y0 := cell_of_row w8 _ 0 _ _ _ R8.out
  have y1 := cell_of_row w8 _ 1 _ _ _ R8.out
  have z0 := cell_of_row w8 _ 0 _ _ _ Q8.out
  have z1 := cell_of_row w8 _ 1 _ _ _ Q8.out
  simp at y0 y1 z0 z1
  have CT := hide' (crowdNo_any P xs ea en ec s cl ca cn cc wk w8 (HE.out w8 B8.out) (HC.out w8 B8.out) (fun h => (F0.out (HF.out.only h)).elim))
  go_wp2_with fail
  refine CT.out.mono ?_
  rintro e w9 ⟨b, f3, g3, hf3, hg3, rfl⟩
  obtain rfl := hf3.only HF.out
  rw [if_neg F0.out] at hg3
  obtain rfl : f3 = g3 := hg3.symm
  rw [HER.out]
  have B9 := hide' (B8.out.trans (b.mono B8.out.size))
  have R9 := hide' ((b.block _ (ltS_of_block R8.out)).trans R8.out)
  have Q9 := hide' ((b.block _ (ltS_of_block Q8.out)).trans Q8.out)
  clear CT b y0 y1 z0 z1 hf3
  have y0 := cell_of_row w9 _ 0 _ _ _ R9.out
  have y1 := cell_of_row w9 _ 1 _ _ _ R9.out
  have z0 := cell_of_row w9 _ 0 _ _ _ Q9.out
  have z1 := cell_of_row w9 _ 1 _ _ _ Q9.out
  simp at y0 y1 z0 z1
  go_wp2_with fail
  obtain ⟨pb, hpb⟩ : ∃ pb, w9.heap.size = pb := ⟨_, rfl⟩
  obtain ⟨w10, hw10⟩ : ∃ w10, w9.alloc (.cells #[.slice none 0 0, .slice none 0 0] 33) = w10 := ⟨_, rfl⟩
  rw [hpb, hw10]
  have b : Below w9.heap.size w9 w10 := by rw [← hw10]; exact (Below.refl _ _).alloc (Nat.le_refl _) _
  have B10 := hide' (B9.out.trans (b.mono B9.out.size))
  have R10 := hide' ((b.block _ (ltS_of_block R9.out)).trans R9.out)
  have Q10 := hide' ((b.block _ (ltS_of_block Q9.out)).trans Q9.out)
  have S10 := hide' (show w10.heap[pb]? = some (.cells #[.slice none 0 0, .slice none 0 0] 33 (0, 0)) by rw [← hw10, ← hpb]; exact heap_alloc_new _ _)
  clear hw10 b hpb y0 y1 z0 z1
  have y0 := cell_of_row w10 _ 0 _ _ _ R10.out
  have y1 := cell_of_row w10 _ 1 _ _ _ R10.out
  have z0 := cell_of_row w10 _ 0 _ _ _ Q10.out
  have z1 := cell_of_row w10 _ 1 _ _ _ Q10.out
  have u0 := cell_of_row w10 _ 0 _ _ _ S10.out
  have u1 := cell_of_row w10 _ 1 _ _ _ S10.out
  simp at y0 y1 z0 z1 u0 u1
  have CT := hide' (show Calls Tryd.prog 7 #[er, .int .i64 (f3 : Int)] w10 _ from by have h := errSameC_any f3 w10 (HH.out w10 B10.out); rw [HER.out] at h; exact h)
  go_wp2_with fail
  refine CT.out.mono ?_
  rintro e w11 ⟨rfl, b⟩
  have B11 := hide' (B10.out.trans (b.mono B10.out.size))
  have R11 := hide' ((b.block _ (ltS_of_block R10.out)).trans R10.out)
  have Q11 := hide' ((b.block _ (ltS_of_block Q10.out)).trans Q10.out)
  have S11 := hide' ((b.block _ (ltS_of_block S10.out)).trans S10.out)
  clear CT b y0 y1 z0 z1 u0 u1
  have y0 := cell_of_row w11 _ 0 _ _ _ R11.out
  have y1 := cell_of_row w11 _ 1 _ _ _ R11.out
  have z0 := cell_of_row w11 _ 0 _ _ _ Q11.out
  have z1 := cell_of_row w11 _ 1 _ _ _ Q11.out
  have u0 := cell_of_row w11 _ 0 _ _ _ S11.out
  have u1 := cell_of_row w11 _ 1 _ _ _ S11.out
  simp at y0 y1 z0 z1 u0 u1
  have CT := hide' (ints_bel [] [] none none 0 0 0 0 w11 (argP_nil _) (argP_nil _) rfl)
  go_wp2_with fail
  refine CT.out.mono ?_
  rintro e w12 ⟨rfl, b⟩
  have B12 := hide' (B11.out.trans (b.mono B11.out.size))
  have R12 := hide' ((b.block _ (ltS_of_block R11.out)).trans R11.out)
  have Q12 := hide' ((b.block _ (ltS_of_block Q11.out)).trans Q11.out)
  have S12 := hide' ((b.block _ (ltS_of_block S11.out)).trans S11.out)
  clear CT b y0 y1 z0 z1 u0 u1
  have y0 := cell_of_row w12 _ 0 _ _ _ R12.out
  have y1 := cell_of_row w12 _ 1 _ _ _ R12.out
  have z0 := cell_of_row w12 _ 0 _ _ _ Q12.out
  have z1 := cell_of_row w12 _ 1 _ _ _ Q12.out
  have u0 := cell_of_row w12 _ 0 _ _ _ S12.out
  have u1 := cell_of_row w12 _ 1 _ _ _ S12.out
  simp at y0 y1 z0 z1 u0 u1
  have CT := hide' (ints_bel [] [] none none 0 0 0 0 w12 (argP_nil _) (argP_nil _) rfl)
  go_wp2_with fail
  refine CT.out.mono ?_
  rintro e w13 ⟨rfl, b⟩
  have B13 := hide' (B12.out.trans (b.mono B12.out.size))
  have R13 := hide' ((b.block _ (ltS_of_block R12.out)).trans R12.out)
  have Q13 := hide' ((b.block _ (ltS_of_block Q12.out)).trans Q12.out)
  have S13 := hide' ((b.block _ (ltS_of_block S12.out)).trans S12.out)
  clear CT b y0 y1 z0 z1 u0 u1
  have y0 := cell_of_row w13 _ 0 _ _ _ R13.out
  have y1 := cell_of_row w13 _ 1 _ _ _ R13.out
  have z0 := cell_of_row w13 _ 0 _ _ _ Q13.out
  have z1 := cell_of_row w13 _ 1 _ _ _ Q13.out
  have u0 := cell_of_row w13 _ 0 _ _ _ S13.out
  have u1 := cell_of_row w13 _ 1 _ _ _ S13.out
  simp at y0 y1 z0 z1 u0 u1
  have CT := hide' (toppleA_any P xs ea en ec s cl ca cn cc os oa on oc w13 (HE.out w13 B13.out) (HC.out w13 B13.out) (HO.out w13 B13.out))
  go_wp2_with fail
  refine CT.out.mono ?_
  rintro e w14 ⟨b, f4, hout⟩
  rcases hout with ⟨_, hf4, rfl⟩ | ⟨_, _, rfl, rfl, G, _⟩
  case inr => exact (F0.out (HF.out.only G.is)).elim
  obtain rfl := hf4.only HF.out
  rw [HER.out]
  have B14 := hide' (B13.out.trans (b.mono B13.out.size))
  have CT := hide' (show Calls Tryd.prog 7 #[er, .int .i64 (f4 : Int)] w14 _ from by have h := errSameC_any f4 w14 (HH.out w14 B14.out); rw [HER.out] at h; exact h)
  clear b y0 y1 z0 z1 u0 u1 hf4
  go_wp2_with fail
  refine CT.out.mono ?_
  rintro e w15 ⟨rfl, b⟩
  have B15 := hide' (B14.out.trans (b.mono B14.out.size))
  clear CT b
  have CT := hide' (ints_bel [] [] none none 0 0 0 0 w15 (argP_nil _) (argP_nil _) rfl)
  go_wp2_with fail
  refine CT.out.mono ?_
  rintro e w16 ⟨rfl, b⟩
  have B16 := hide' (B15.out.trans (b.mono B15.out.size))
  clear CT b
  go_wp2
  exact HP.out _ B16.out
end Go.Proofs.YtpajdmhgonmgoaaDoor

namespace Go.Proofs.YtpajdmhgonmgoaaDoor
open Go.RowKit
set_option linter.unusedVariables false
set_option linter.unusedSimpArgs false
open Go.Conc Go.ConcN Go.RowKit
theorem list_eq {n : Nat} {f g : Nat → Int} (h : ∀ k, k < n → f k = g k) : (List.range n).map f = (List.range n).map g := List.map_congr_left fun k hk => h k (by simpa using hk)
set_option maxRecDepth 100000 in
set_option maxHeartbeats 25600000 in
/-- The law where only the number of workers is wrong. -/
theorem settles_few {Post : Value → World → Prop} {P s wk : Int} {en ec cn cc on oc : Nat} {xs : List EgT} {cl os : List Int} {ea ca oa : Option Addr} {w : World} (hE : ArgE w xs ea en ec) (hC : ArgP w cl ca cn cc) (hO : ArgP w os oa on oc) (hH : ∀ V : World, Below w.heap.size w V → Handle V)
    (hpost : ∀ V : World, Below w.heap.size w V → Post (.bool true) V) (hf : ChG P xs s cl 0) (hwk : wk < 1 ∨ (1 ≤ wk ∧ 8 < wk)) :
    Reach Tryd.prog (G ((base 3).at ⟨#[.agg #[.int .i64 P, .slice ea en ec], .int .i64 s, .slice ca cn cc, .slice oa on oc, .int .i64 wk, undef, undef, undef, undef, undef, undef, undef, undef, undef, undef, undef, undef, undef, undef, undef, undef, undef, undef, undef, undef, undef, undef, undef, undef, undef, undef, undef, undef, undef, undef, undef, undef, undef, undef, undef, undef, undef, undef, undef, undef, undef, undef, undef, undef, undef, undef, undef, undef, undef, undef, undef, undef, undef, undef, undef, undef, undef, undef, undef, undef, undef, undef, undef, undef, undef, undef, undef, undef, undef, undef, undef, undef, undef, undef, undef, undef, undef, undef, undef, undef, undef, undef, undef, undef, undef, undef, undef, undef, undef, undef, undef, undef, undef, undef, undef, undef, undef, undef, undef, undef, undef, undef, undef, undef, undef, undef, undef, undef, undef, undef, undef, undef, undef, undef, undef, undef, undef, undef, undef, undef, undef, undef, undef, undef, undef, undef, undef, undef, undef, undef, undef, undef, undef, undef, undef, undef, undef, undef, undef, undef, undef, undef, undef, undef, undef, undef, undef, undef, undef], []⟩ [.code (bodyOf Tryd.f3)]) []) w (LawEnd Tryd.prog Post) := by
  obtain ⟨n, sn, rfl, rfl, G⟩ := good_of hf
  obtain ⟨w1, hw1⟩ : ∃ w1, w.alloc (.cells #[.int .i64 (n : Int), .slice ea en ec] 24) = w1 := ⟨_, rfl⟩
  obtain ⟨gx, hgx⟩ : ∃ gx, w.heap.size = gx := ⟨_, rfl⟩
  have HW1 := hide' hw1
  have B1 := hide' (show Below w.heap.size w w1 by rw [← hw1]; exact (Below.refl _ _).alloc (Nat.le_refl _) _)
  have R1 := hide' (show w1.heap[gx]? = some (.cells #[.int .i64 (n : Int), .slice ea en ec] 24 (0, 0)) by rw [← hw1, ← hgx]; exact heap_alloc_new _ _)
  have HE := hide' (fun (V : World) (h : Below w.heap.size w V) => hE.below h)
  have HC := hide' (fun (V : World) (h : Below w.heap.size w V) => hC.below h)
  have HO := hide' (fun (V : World) (h : Below w.heap.size w V) => hO.below h)
  have HH := hide' hH
  have HP := hide' hpost
  have HF := hide' hf
  have GG := hide' G
  have HW := hide' hwk
  have N10 := hide' G.ok.p2
  have E1 := hide' (show errOf 1 = .iface 48 (.int .i64 1) from errOf_not (by decide))
  clear hw1 hE hC hO hH hpost hf G hwk
  simp only [bodyOf, Tryd.f3, Option.getD_some]
  refine lone_tail rfl Tryd.func3 inits3 rfl ?_
  have y0 := cell_of_row w1 _ 0 _ _ _ R1.out
  have y1 := cell_of_row w1 _ 1 _ _ _ R1.out
  simp at y0 y1
  have CT := hide' (refFault_any (n : Int) xs ea en ec w1 (HE.out w1 B1.out))
  go_upto_region 1 with fail
  rw [HW1.out]
  go_wp2_with fail
  refine CT.out.mono ?_
  rintro e w2 ⟨g, hg, rfl, b⟩
  obtain rfl : g = 0 := hg.only (FaG.of GG.out.ok)
  have B2 := hide' (B1.out.trans (b.mono B1.out.size))
  have R2 := hide' ((b.block _ (ltS_of_block R1.out)).trans R1.out)
  rw [show ((0 : Nat) : Int) = 0 from rfl]
  clear hg
  clear CT b y0 y1
  have y0 := cell_of_row w2 _ 0 _ _ _ R2.out
  have y1 := cell_of_row w2 _ 1 _ _ _ R2.out
  simp at y0 y1
  have CT := hide' (Check_any (n : Int) xs ea en ec w2 (HE.out w2 B2.out))
  go_wp2_with fail
  refine CT.out.mono ?_
  rintro e w3 ⟨g, hg, rfl, b⟩
  obtain rfl : g = 0 := hg.only (FaG.of GG.out.ok)
  have B3 := hide' (B2.out.trans (b.mono B2.out.size))
  have R3 := hide' ((b.block _ (ltS_of_block R2.out)).trans R2.out)
  rw [show errOf 0 = .nilIface from rfl]
  clear hg
  clear CT b y0 y1
  have y0 := cell_of_row w3 _ 0 _ _ _ R3.out
  have y1 := cell_of_row w3 _ 1 _ _ _ R3.out
  simp at y0 y1
  have CT := hide' (show Calls Tryd.prog 7 #[.nilIface, .int .i64 0] w3 _ from errSameC_any 0 w3 (HH.out w3 B3.out))
  go_wp2_with fail
  refine CT.out.mono ?_
  rintro e w4 ⟨rfl, b⟩
  have B4 := hide' (B3.out.trans (b.mono B3.out.size))
  have R4 := hide' ((b.block _ (ltS_of_block R3.out)).trans R3.out)
  clear CT b y0 y1
  have y0 := cell_of_row w4 _ 0 _ _ _ R4.out
  have y1 := cell_of_row w4 _ 1 _ _ _ R4.out
  simp at y0 y1
  have CT := hide' (refChips_any (n : Int) xs ea en ec (sn : Int) cl ca cn cc w4 (HE.out w4 B4.out) (HC.out w4 B4.out))
  go_wp2_with fail
  refine CT.out.mono ?_
  rintro e w5 ⟨g, hg, rfl, b⟩
  obtain rfl : g = 0 := hg.only HF.out
  have B5 := hide' (B4.out.trans (b.mono B4.out.size))
  have R5 := hide' ((b.block _ (ltS_of_block R4.out)).trans R4.out)
  rw [show ((0 : Nat) : Int) = 0 from rfl]
  clear hg
  clear CT b y0 y1
  have y0 := cell_of_row w5 _ 0 _ _ _ R5.out
  have y1 := cell_of_row w5 _ 1 _ _ _ R5.out
  simp at y0 y1
  have CT := hide' (settleC_any (n : Int) xs ea en ec (sn : Int) cl ca cn cc w5 (HE.out w5 B5.out) (HC.out w5 B5.out))
  go_wp2_with fail
  refine CT.out.mono ?_
  rintro e w6 ⟨b, g, hg, hout⟩
  obtain rfl : g = 0 := hg.only HF.out
  rcases hout with ⟨h, _⟩ | ⟨_, n', sn', fa, fq, ft, u, en', es', rfl, pl, st, rc, ru, hfa, hft, hne⟩
  case inl => exact (h rfl).elim
  obtain rfl : n' = n := by omega
  obtain rfl : sn' = sn := by omega
  have B6 := hide' (B5.out.trans (b.mono B5.out.size))
  have R6 := hide' ((b.block _ (ltS_of_block R5.out)).trans R5.out)
  have RC6 := hide' rc
  have RU6 := hide' ru
  have PL := hide' (And.intro pl st)
  clear hg en' es' pl st rc ru hfa hft hne CT b y0 y1
  simp only [slS]
  have y0 := cell_of_row w6 _ 0 _ _ _ R6.out
  have y1 := cell_of_row w6 _ 1 _ _ _ R6.out
  simp at y0 y1
  go_wp2_with fail
  obtain ⟨pa, hpa⟩ : ∃ pa, w6.heap.size = pa := ⟨_, rfl⟩
  obtain ⟨w7, hw7⟩ : ∃ w7, w6.alloc (.cells #[.slice (some ⟨fa, 0, none⟩) n' fq, .slice (some ⟨ft, 0, none⟩) n' n'] 33) = w7 := ⟨_, rfl⟩
  rw [hpa, hw7]
  have b : Below w6.heap.size w6 w7 := by rw [← hw7]; exact (Below.refl _ _).alloc (Nat.le_refl _) _
  have B7 := hide' (B6.out.trans (b.mono B6.out.size))
  have R7 := hide' ((b.block _ (ltS_of_block R6.out)).trans R6.out)
  have RC7 := hide' (RC6.out.below b)
  have RU7 := hide' (RU6.out.below b)
  have Q7 := hide' (show w7.heap[pa]? = some (.cells #[.slice (some ⟨fa, 0, none⟩) n' fq, .slice (some ⟨ft, 0, none⟩) n' n'] 33 (0, 0)) by rw [← hw7, ← hpa]; exact heap_alloc_new _ _)
  clear hw7 b hpa y0 y1
  have y0 := cell_of_row w7 _ 0 _ _ _ R7.out
  have y1 := cell_of_row w7 _ 1 _ _ _ R7.out
  have z0 := cell_of_row w7 _ 0 _ _ _ Q7.out
  have z1 := cell_of_row w7 _ 1 _ _ _ Q7.out
  simp at y0 y1 z0 z1
  have CT := hide' (show Calls Tryd.prog 7 #[.nilIface, .int .i64 0] w7 _ from errSameC_any 0 w7 (HH.out w7 B7.out))
  go_wp2_with fail
  refine CT.out.mono ?_
  rintro e w8 ⟨rfl, b⟩
  have B8 := hide' (B7.out.trans (b.mono B7.out.size))
  have R8 := hide' ((b.block _ (ltS_of_block R7.out)).trans R7.out)
  have Q8 := hide' ((b.block _ (ltS_of_block Q7.out)).trans Q7.out)
  have RC8 := hide' (RC7.out.below b)
  have RU8 := hide' (RU7.out.below b)
  clear CT b y0 y1 z0 z1
  have y0 := cell_of_row w8 _ 0 _ _ _ R8.out
  have y1 := cell_of_row w8 _ 1 _ _ _ R8.out
  have z0 := cell_of_row w8 _ 0 _ _ _ Q8.out
  have z1 := cell_of_row w8 _ 1 _ _ _ Q8.out
  simp at y0 y1 z0 z1
  have NO : ChG (n' : Int) xs (sn' : Int) cl 0 → wk < 1 ∨ 8 < wk := fun _ => by have := HW.out; omega
  have CT := hide' (crowdNo_any (n' : Int) xs ea en ec (sn' : Int) cl ca cn cc wk w8 (HE.out w8 B8.out) (HC.out w8 B8.out) NO)
  clear NO
  rcases HW.out with q | ⟨q1, q2⟩
  all_goals
    go_wp2_with fail
    refine CT.out.mono ?_
    rintro e w9 ⟨b, f3, g3, hf3, hg3, rfl⟩
    obtain rfl : f3 = 0 := hf3.only HF.out
    obtain rfl : g3 = 1 := hg3
    rw [E1.out]
    have B9 := hide' (B8.out.trans (b.mono B8.out.size))
    have R9 := hide' ((b.block _ (ltS_of_block R8.out)).trans R8.out)
    have Q9 := hide' ((b.block _ (ltS_of_block Q8.out)).trans Q8.out)
    have RC9 := hide' (RC8.out.below b)
    have RU9 := hide' (RU8.out.below b)
    clear CT b hf3 y0 y1 z0 z1
    have y0 := cell_of_row w9 _ 0 _ _ _ R9.out
    have y1 := cell_of_row w9 _ 1 _ _ _ R9.out
    have z0 := cell_of_row w9 _ 0 _ _ _ Q9.out
    have z1 := cell_of_row w9 _ 1 _ _ _ Q9.out
    simp at y0 y1 z0 z1
    go_wp2_with fail
    obtain ⟨pb, hpb⟩ : ∃ pb, w9.heap.size = pb := ⟨_, rfl⟩
    obtain ⟨w10, hw10⟩ : ∃ w10, w9.alloc (.cells #[.slice none 0 0, .slice none 0 0] 33) = w10 := ⟨_, rfl⟩
    rw [hpb, hw10]
    have b : Below w9.heap.size w9 w10 := by rw [← hw10]; exact (Below.refl _ _).alloc (Nat.le_refl _) _
    have B10 := hide' (B9.out.trans (b.mono B9.out.size))
    have R10 := hide' ((b.block _ (ltS_of_block R9.out)).trans R9.out)
    have Q10 := hide' ((b.block _ (ltS_of_block Q9.out)).trans Q9.out)
    have RC10 := hide' (RC9.out.below b)
    have RU10 := hide' (RU9.out.below b)
    have S10 := hide' (show w10.heap[pb]? = some (.cells #[.slice none 0 0, .slice none 0 0] 33 (0, 0)) by rw [← hw10, ← hpb]; exact heap_alloc_new _ _)
    clear hw10 b hpb y0 y1 z0 z1
    have y0 := cell_of_row w10 _ 0 _ _ _ R10.out
    have y1 := cell_of_row w10 _ 1 _ _ _ R10.out
    have z0 := cell_of_row w10 _ 0 _ _ _ Q10.out
    have z1 := cell_of_row w10 _ 1 _ _ _ Q10.out
    have u0 := cell_of_row w10 _ 0 _ _ _ S10.out
    have u1 := cell_of_row w10 _ 1 _ _ _ S10.out
    simp at y0 y1 z0 z1 u0 u1
    have CT := hide' (show Calls Tryd.prog 7 #[.iface 48 (.int .i64 1), .int .i64 1] w10 _ from by have h := errSameC_any 1 w10 (HH.out w10 B10.out); rw [E1.out] at h; exact h)
    go_wp2_with fail
    refine CT.out.mono ?_
    rintro e w11 ⟨rfl, b⟩
    have B11 := hide' (B10.out.trans (b.mono B10.out.size))
    have R11 := hide' ((b.block _ (ltS_of_block R10.out)).trans R10.out)
    have Q11 := hide' ((b.block _ (ltS_of_block Q10.out)).trans Q10.out)
    have S11 := hide' ((b.block _ (ltS_of_block S10.out)).trans S10.out)
    have RC11 := hide' (RC10.out.below b)
    have RU11 := hide' (RU10.out.below b)
    clear CT b y0 y1 z0 z1 u0 u1
    have y0 := cell_of_row w11 _ 0 _ _ _ R11.out
    have y1 := cell_of_row w11 _ 1 _ _ _ R11.out
    have z0 := cell_of_row w11 _ 0 _ _ _ Q11.out
    have z1 := cell_of_row w11 _ 1 _ _ _ Q11.out
    have u0 := cell_of_row w11 _ 0 _ _ _ S11.out
    have u1 := cell_of_row w11 _ 1 _ _ _ S11.out
    simp at y0 y1 z0 z1 u0 u1
    have CT := hide' (refSettle_any n' sn' xs ea en ec cl ca cn cc w11 GG.out (HE.out w11 B11.out) (HC.out w11 B11.out))
    go_wp2_with fail
    refine CT.out.mono ?_
    rintro e w12 ⟨b, ka, kq, kt, v, rfl, pl, st, rc, ru, _, _, _⟩
    have EU := hide' (show ∀ k, k < n' → u k = v k from fun k hk => PL.out.1.same PL.out.2 pl st k hk)
    have B12 := hide' (B11.out.trans (b.mono B11.out.size))
    have R12 := hide' ((b.block _ (ltS_of_block R11.out)).trans R11.out)
    have Q12 := hide' ((b.block _ (ltS_of_block Q11.out)).trans Q11.out)
    have S12 := hide' ((b.block _ (ltS_of_block S11.out)).trans S11.out)
    have RC12 := hide' (RC11.out.below b)
    have RU12 := hide' (RU11.out.below b)
    have RK12 := hide' rc
    have RV12 := hide' ru
    clear CT b pl st rc ru y0 y1 z0 z1 u0 u1
    simp only [slS]
    have y0 := cell_of_row w12 _ 0 _ _ _ R12.out
    have y1 := cell_of_row w12 _ 1 _ _ _ R12.out
    have z0 := cell_of_row w12 _ 0 _ _ _ Q12.out
    have z1 := cell_of_row w12 _ 1 _ _ _ Q12.out
    have u0 := cell_of_row w12 _ 0 _ _ _ S12.out
    have u1 := cell_of_row w12 _ 1 _ _ _ S12.out
    simp at y0 y1 z0 z1 u0 u1
    have CT := hide' (ints_bel ((List.range n').map (chS n' sn' (btX xs) (chF cl) u)) ((List.range n').map (chS n' sn' (btX xs) (chF cl) v)) (some ⟨fa, 0, none⟩) (some ⟨ka, 0, none⟩) n' fq n' kq w12 (arg_of_row RC12.out N10.out) (arg_of_row RK12.out N10.out) (list_eq fun k hk => chS.congU EU.out hk))
    go_wp2_with fail
    refine CT.out.mono ?_
    rintro e w13 ⟨rfl, b⟩
    have B13 := hide' (B12.out.trans (b.mono B12.out.size))
    have R13 := hide' ((b.block _ (ltS_of_block R12.out)).trans R12.out)
    have Q13 := hide' ((b.block _ (ltS_of_block Q12.out)).trans Q12.out)
    have S13 := hide' ((b.block _ (ltS_of_block S12.out)).trans S12.out)
    have RC13 := hide' (RC12.out.below b)
    have RU13 := hide' (RU12.out.below b)
    have RK13 := hide' (RK12.out.below b)
    have RV13 := hide' (RV12.out.below b)
    clear CT b y0 y1 z0 z1 u0 u1
    have y0 := cell_of_row w13 _ 0 _ _ _ R13.out
    have y1 := cell_of_row w13 _ 1 _ _ _ R13.out
    have z0 := cell_of_row w13 _ 0 _ _ _ Q13.out
    have z1 := cell_of_row w13 _ 1 _ _ _ Q13.out
    have u0 := cell_of_row w13 _ 0 _ _ _ S13.out
    have u1 := cell_of_row w13 _ 1 _ _ _ S13.out
    simp at y0 y1 z0 z1 u0 u1
    have CT := hide' (ints_bel ((List.range n').map u) ((List.range n').map v) (some ⟨ft, 0, none⟩) (some ⟨kt, 0, none⟩) n' n' n' n' w13 (arg_of_row RU13.out N10.out) (arg_of_row RV13.out N10.out) (list_eq EU.out))
    go_wp2_with fail
    refine CT.out.mono ?_
    rintro e w14 ⟨rfl, b⟩
    have B14 := hide' (B13.out.trans (b.mono B13.out.size))
    have R14 := hide' ((b.block _ (ltS_of_block R13.out)).trans R13.out)
    have Q14 := hide' ((b.block _ (ltS_of_block Q13.out)).trans Q13.out)
    have S14 := hide' ((b.block _ (ltS_of_block S13.out)).trans S13.out)
    clear CT b y0 y1 z0 z1 u0 u1
    have y0 := cell_of_row w14 _ 0 _ _ _ R14.out
    have y1 := cell_of_row w14 _ 1 _ _ _ R14.out
    have z0 := cell_of_row w14 _ 0 _ _ _ Q14.out
    have z1 := cell_of_row w14 _ 1 _ _ _ Q14.out
    have u0 := cell_of_row w14 _ 0 _ _ _ S14.out
    have u1 := cell_of_row w14 _ 1 _ _ _ S14.out
    simp at y0 y1 z0 z1 u0 u1
    have CT := hide' (refTop_any n' sn' xs ea en ec cl ca cn cc os oa on oc w14 GG.out (HE.out w14 B14.out) (HC.out w14 B14.out) (HO.out w14 B14.out))
    go_wp2_with fail
    refine CT.out.mono ?_
    rintro e w15 ⟨b, f4, hf4, hout⟩
    have B15 := hide' (B14.out.trans (b.mono B14.out.size))
    have R15 := hide' ((b.block _ (ltS_of_block R14.out)).trans R14.out)
    have Q15 := hide' ((b.block _ (ltS_of_block Q14.out)).trans Q14.out)
    have S15 := hide' ((b.block _ (ltS_of_block S14.out)).trans S14.out)
    have HT := hide' hf4
    clear CT hf4 y0 y1 z0 z1 u0 u1
    have y0 := cell_of_row w15 _ 0 _ _ _ R15.out
    have y1 := cell_of_row w15 _ 1 _ _ _ R15.out
    have z0 := cell_of_row w15 _ 0 _ _ _ Q15.out
    have z1 := cell_of_row w15 _ 1 _ _ _ Q15.out
    have u0 := cell_of_row w15 _ 0 _ _ _ S15.out
    have u1 := cell_of_row w15 _ 1 _ _ _ S15.out
    simp at y0 y1 z0 z1 u0 u1
    have CT := hide' (toppleA_any (n' : Int) xs ea en ec (sn' : Int) cl ca cn cc os oa on oc w15 (HE.out w15 B15.out) (HC.out w15 B15.out) (HO.out w15 B15.out))
    rcases hout with ⟨f0, rfl⟩ | ⟨rfl, ya, yq, rfl, ry, _⟩
    · clear b
      go_wp2_with fail
      refine CT.out.mono ?_
      rintro e w16 ⟨b, f5, hout⟩
      rcases hout with ⟨h5, hf5, _⟩ | ⟨Q', sn5, eQ, es5, G5, hT5, hout⟩
      case inl => exact (h5 (hf5.only HF.out)).elim
      obtain rfl : Q' = n' := by omega
      obtain rfl : sn5 = sn' := by omega
      obtain rfl : f5 = f4 := hT5.only HT.out
      rcases hout with ⟨_, rfl⟩ | ⟨h5, _⟩
      case inr => exact (f0 h5).elim
      have B16 := hide' (B15.out.trans (b.mono B15.out.size))
      obtain ⟨er, her⟩ : ∃ er, errOf f5 = er := ⟨_, rfl⟩
      rw [her]
      have CT := hide' (show Calls Tryd.prog 7 #[er, .int .i64 (f5 : Int)] w16 _ from by have h := errSameC_any f5 w16 (HH.out w16 B16.out); rw [her] at h; exact h)
      clear b eQ es5 G5 hT5 her f0 y0 y1 z0 z1 u0 u1
      go_wp2_with fail
      refine CT.out.mono ?_
      rintro e w17 ⟨rfl, b⟩
      have B17 := hide' (B16.out.trans (b.mono B16.out.size))
      clear CT b
      have CT := hide' (ints_bel [] [] none none 0 0 0 0 w17 (argP_nil _) (argP_nil _) rfl)
      go_wp2_with fail
      refine CT.out.mono ?_
      rintro e w18 ⟨rfl, b⟩
      have B18 := hide' (B17.out.trans (b.mono B17.out.size))
      clear CT b
      go_wp2
      exact HP.out _ B18.out
    · have RY15 := hide' ry
      clear b ry
      simp only [slS]
      go_wp2_with fail
      refine CT.out.mono ?_
      rintro e w16 ⟨b, f5, hout⟩
      rcases hout with ⟨h5, hf5, _⟩ | ⟨Q', sn5, eQ, es5, G5, hT5, hout⟩
      case inl => exact (h5 (hf5.only HF.out)).elim
      obtain rfl : Q' = n' := by omega
      obtain rfl : sn5 = sn' := by omega
      obtain rfl : f5 = 0 := hT5.only HT.out
      rcases hout with ⟨h5, _⟩ | ⟨_, xa, xq, rfl, rx, _⟩
      case inl => exact (h5 rfl).elim
      have B16 := hide' (B15.out.trans (b.mono B15.out.size))
      have RX16 := hide' rx
      have RY16 := hide' (RY15.out.below b)
      have CT := hide' (show Calls Tryd.prog 7 #[.nilIface, .int .i64 0] w16 _ from errSameC_any 0 w16 (HH.out w16 B16.out))
      clear b eQ es5 G5 hT5 rx y0 y1 z0 z1 u0 u1
      simp only [slS]
      go_wp2_with fail
      refine CT.out.mono ?_
      rintro e w17 ⟨rfl, b⟩
      have B17 := hide' (B16.out.trans (b.mono B16.out.size))
      have CT := hide' (ints_bel ((List.range Q').map (TpI Q' sn5 (btX xs) (chF cl) os os.length)) ((List.range Q').map (TpI Q' sn5 (btX xs) (chF cl) os os.length)) (some ⟨xa, 0, none⟩) (some ⟨ya, 0, none⟩) Q' xq Q' yq w17 (arg_of_row (RX16.out.below b) N10.out) (arg_of_row (RY16.out.below b) N10.out) rfl)
      clear b
      go_wp2_with fail
      refine CT.out.mono ?_
      rintro e w18 ⟨rfl, b⟩
      have B18 := hide' (B17.out.trans (b.mono B17.out.size))
      clear CT b
      go_wp2
      exact HP.out _ B18.out
end Go.Proofs.YtpajdmhgonmgoaaDoor

namespace Go.Proofs.YtpajdmhgonmgoaaDoor
open Go.RowKit
set_option linter.unusedVariables false
open Go.Conc Go.ConcN Go.RowKit
set_option linter.unusedSimpArgs false
def cT : Code → Code
  | .cond _ x _ => x
  | c => c
/-- What keeps all rows but those that are shunned. -/
structure KeepU (X : Nat → Prop) (V V' : World) : Prop where
  os : V'.os = V.os
  output : V'.output = V.output
  size : V.heap.size ≤ V'.heap.size
  block : ∀ k, k < V.heap.size → ¬ X k → V'.heap[k]? = V.heap[k]?
theorem keep_piece {X : Nat → Prop} {v V v' w' : World} (hv : Poi X v V) (b : Below v.heap.size v v') (p : Poi X v' w') : KeepU X V w' :=
  ⟨by rw [← p.os, b.os, hv.os], by rw [← p.out, b.output, hv.out], by rw [← hv.size, ← p.size]; exact b.size, fun k hk hX => by
    rw [← p.same k hX, b.block k (by rw [hv.size]; exact hk), hv.same k hX]⟩
theorem keep_poi {X : Nat → Prop} {v V : World} (hv : Poi X v V) : KeepU X V v := ⟨hv.os, hv.out, by rw [hv.size]; exact Nat.le_refl _, fun k _ hX => hv.same k hX⟩
theorem keep_below {X : Nat → Prop} {V V' : World} (b : Below V.heap.size V V') : KeepU X V V' := ⟨b.os, b.output, b.size, fun k hk _ => b.block k hk⟩
theorem keep_at {X : Nat → Prop} {V : World} (d : Nat) : KeepU X V (V.at d) := ⟨rfl, rfl, Nat.le_refl _, fun _ _ _ => rfl⟩
theorem KeepU.row {X : Nat → Prop} {V V' : World} (h : KeepU X V V') {a n : Nat} {f : Nat → Int} (r : RowAt V a n f) (hX : ¬ X a) : RowAt V' a n f := by
  obtain ⟨C, h1, h2⟩ := r
  exact ⟨C, (h.block a (ltS_of_block h1) hX).trans h1, h2⟩
theorem KeepU.blk {X : Nat → Prop} {V V' : World} (h : KeepU X V V') {a : Nat} {o : Obj} (r : V.heap[a]? = some o) (hX : ¬ X a) : V'.heap[a]? = some o := (h.block a (ltS_of_block r) hX).trans r
/-- What stands of the world of the call. -/
structure Old (w V : World) : Prop where
  os : V.os = w.os
  output : V.output = w.output
  size : w.heap.size ≤ V.heap.size
  block : ∀ k, k < w.heap.size → V.heap[k]? = w.heap[k]?
theorem Old.below {w V : World} (h : Old w V) (ht : V.tape = w.tape) : Below w.heap.size w V := ⟨h.os, ht, h.output, h.size, h.block⟩
theorem Old.arg {w V : World} (h : Old w V) {xs : List Int} {a : Option Addr} {n c : Nat} (hA : ArgP w xs a n c) : ArgP V xs a n c := by
  have b : Below w.heap.size w { V with tape := w.tape } := ⟨h.os, rfl, h.output, h.size, h.block⟩
  have r := hA.below b
  exact ⟨r.len, r.max, r.cells⟩
theorem Old.argE {w V : World} (h : Old w V) {xs : List EgT} {a : Option Addr} {n c : Nat} (hA : ArgE w xs a n c) : ArgE V xs a n c := by
  have b : Below w.heap.size w { V with tape := w.tape } := ⟨h.os, rfl, h.output, h.size, h.block⟩
  have r := hA.below b
  exact ⟨r.len, r.max, r.cells⟩
/-- What stands beside leavers, behind Crowd. -/
structure CoS (w : World) (n sn : Nat) (xs : List EgT) (cl : List Int) (ea : Option Addr) (en ec pa fa fq ft pb g1 g2 : Nat) (u : Nat → Int) (X : Nat → Prop) (V : World) : Prop where
  old : Old w V
  gr : V.heap[w.heap.size]? = some (.cells #[.int .i64 (n : Int), .slice ea en ec] 24 (0, 0))
  ca : V.heap[pa]? = some (.cells #[.slice (some ⟨fa, 0, none⟩) n fq, .slice (some ⟨ft, 0, none⟩) n n] 33 (0, 0))
  cb : V.heap[pb]? = some (.cells #[.slice (some ⟨g1, 0, none⟩) n n, .slice (some ⟨g2, 0, none⟩) n n] 33 (0, 0))
  rc : RowAt V fa n (chS n sn (btX xs) (chF cl) u)
  ru : RowAt V ft n u
  r1 : RowAt V g1 n (chS n sn (btX xs) (chF cl) u)
  r2 : RowAt V g2 n u
  pl : PlS n sn (btX xs) (chF cl) u
  st : stillS n sn (btX xs) (chF cl) u
  xo : ∀ k, k ≤ w.heap.size → ¬ X k
  xa : ¬ X pa ∧ ¬ X pb ∧ ¬ X fa ∧ ¬ X ft ∧ ¬ X g1 ∧ ¬ X g2
theorem CoS.keep {w : World} {n sn : Nat} {xs : List EgT} {cl : List Int} {ea : Option Addr} {en ec pa fa fq ft pb g1 g2 : Nat} {u : Nat → Int} {X : Nat → Prop} {V V' : World} (h : CoS w n sn xs cl ea en ec pa fa fq ft pb g1 g2 u X V) (k : KeepU X V V') : CoS w n sn xs cl ea en ec pa fa fq ft pb g1 g2 u X V' :=
  ⟨⟨k.os.trans h.old.os, k.output.trans h.old.output, Nat.le_trans h.old.size k.size, fun j hj => (k.block j (Nat.lt_of_lt_of_le hj h.old.size) (h.xo j (Nat.le_of_lt hj))).trans (h.old.block j hj)⟩,
    k.blk h.gr (h.xo _ (Nat.le_refl _)), k.blk h.ca h.xa.1, k.blk h.cb h.xa.2.1, k.row h.rc h.xa.2.2.1, k.row h.ru h.xa.2.2.2.1, k.row h.r1 h.xa.2.2.2.2.1, k.row h.r2 h.xa.2.2.2.2.2, h.pl, h.st, h.xo, h.xa⟩
/-- A row that a piece made is not shunned. -/
theorem row_new {Shun : Loc → Prop} {v V v' w' : World} (hc : Cx Shun V) (hv : Poi (Xs Shun) v V) (p : Poi (Xs Shun) v' w') {a n : Nat} {f : Nat → Int} (r : RowAt v' a n f) (ha : v.heap.size ≤ a) : RowAt w' a n f ∧ ¬ Xs Shun a := by
  have hX : ¬ Xs Shun a := fun h => by have := hc.lowX a h; have := hv.size; omega
  obtain ⟨C, h1, h2⟩ := r
  exact ⟨⟨C, (p.same a hX).symm.trans h1, h2⟩, hX⟩
section
variable {P : Program} {Shun : Loc → Prop} {T : Machine → Trace → Prop}
/-- Own steps that make two rows at most. -/
theorem on_gpw {g : Goroutine} {V V2 : World} {n : Nat} (hsz : V2.heap.size ≤ V.heap.size + 2) (hG : ∀ B, V.heap.size ≤ B → Gp P (EvL Shun (B + 2)) (fun h w' => ∃ d, w' = V2.at d ∧ On P Shun h (V2.at d) T) n g (AtRel V)) : On P Shun g V T := fun B m t hB hb => by
  obtain ⟨N, m1, t1, g1, w1, r1, ⟨d, rfl, hn⟩, hb1⟩ := bes_walk (hG B hB) (atRel_refl V) (hb.mono (by omega))
  obtain ⟨N2, m2, t2, u1, u2⟩ := hn (B + 2) m1 t1 (by show V2.heap.size ≤ B + 2; omega) hb1
  exact ⟨N + N2, m2, t2, by rw [runNT_then r1]; exact u1, u2⟩
theorem Cx.at {w : World} (h : Cx Shun w) (d : Nat) : Cx Shun (w.at d) := ⟨h.kind, h.low, h.chan⟩
end
end Go.Proofs.YtpajdmhgonmgoaaDoor

