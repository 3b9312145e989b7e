/-
  What the last text of this claim leans on, part 25: Hm4, Hm5, Hm6.
-/
import Derived.Test.YtemhcpldflcfbaaGreatDoorYf22
import Derived.Test.YtemhcpldflcfbaaGreatDoorYf23
import Derived.Test.YtemhcpldflcfbaaGreatDoorYf24
import Derived.Test.YtemhcpldflcfbaaGreatDoorYf11
import Derived.Test.YtemhcpldflcfbaaGreatDoorYf18
import Derived.Deep.MidRow
namespace Go.Proofs.YtemhcpldflcfbaaGreatDoor
open Go.RowKit
set_option linter.unusedVariables false
theorem nine_eq (nine : Nat → Nat) (w : World) : (Op.equalIn 10000 134 (.agg (arrQ 9 (jQ nine))) (.agg #[.int .i32 0, .int .i32 0, .int .i32 0, .int .i32 0, .int .i32 0, .int .i32 0, .int .i32 0, .int .i32 0, .int .i32 0])).run Tryz.prog w = .ok ((List.range 9).all fun j => ((nine j : Nat) : Int) == 0) w := by
 exact equal_ints (P := Tryz.prog) w 9998 (t := 134) (e := 21) (n := 9) (k := .i32) Tryz.underlying134 (i := (Tryz.prog.info? 21).getD default) (by kernel_rfl) (by kernel_rfl) Tryz.underlying21 (arrQ 9 (jQ nine)) #[.int .i32 0, .int .i32 0, .int .i32 0, .int .i32 0, .int .i32 0, .int .i32 0, .int .i32 0, .int .i32 0, .int .i32 0] (fun j => ((nine j : Nat) : Int)) (fun _ => 0) (fun j hj => by
  refine ⟨arrQ_get _ hj, ?_⟩
  match j, hj with
  | 0, _ => rfl
  | 1, _ => rfl
  | 2, _ => rfl
  | 3, _ => rfl
  | 4, _ => rfl
  | 5, _ => rfl
  | 6, _ => rfl
  | 7, _ => rfl
  | 8, _ => rfl)
theorem nine_yes {nine : Nat → Nat} (h : N0 nine) (w : World) : (Op.equalIn 10000 134 (.agg (arrQ 9 (jQ nine))) (.agg #[.int .i32 0, .int .i32 0, .int .i32 0, .int .i32 0, .int .i32 0, .int .i32 0, .int .i32 0, .int .i32 0, .int .i32 0])).run Tryz.prog w = .ok true w := by
 rw [nine_eq]
 congr 1
 rw [List.all_eq_true]
 intro j hj
 rw [h j (List.mem_range.1 hj)]
 rfl
theorem nine_no {nine : Nat → Nat} (h : ¬ N0 nine) (w : World) : (Op.equalIn 10000 134 (.agg (arrQ 9 (jQ nine))) (.agg #[.int .i32 0, .int .i32 0, .int .i32 0, .int .i32 0, .int .i32 0, .int .i32 0, .int .i32 0, .int .i32 0, .int .i32 0])).run Tryz.prog w = .ok false w := by
 rw [nine_eq]
 congr 1
 refine Bool.eq_false_iff.2 fun q => h fun i hi => ?_
 have := List.all_eq_true.1 q i (List.mem_range.2 hi)
 simp at this
 exact this
set_option maxRecDepth 100000 in
set_option maxHeartbeats 3200000 in
theorem wfull_no (wb fs ts tb s u : Nat) (most : Nat) (B g cap : Nat) (ms : List Sq) (w : World) (hW : WkA w wb fs ts tb s u most) (h : StkA w ts B g cap ms) (hl : ms.length ≤ most) :
  Calls Tryz.prog 62 #[.pointer (some ⟨wb, 0, none⟩)] w fun e w' => e = .returned (.bool false) ∧ w' = w.drew := by
 have k1 := cell_of_row w wb 1 _ _ _ hW
 have k5 := cell_of_row w wb 5 _ _ _ hW
 have c0 := h.c0
 simp at k1 k5
 obtain ⟨n, hn⟩ : ∃ n, ms.length = n := ⟨_, rfl⟩
 rw [hn] at c0 hl
 have l1 : ¬ ((most : Int) < (n : Int)) := by omega
 clear h hW hn hl
 go_enter Tryz.func62, Tryz.ntmps62
 go_upto_region 1 with fail
 go_region
 go_wp2
 go_ret
 exact ⟨rfl, rfl⟩
def WaP (ts Bt gt : Nat) (qs : List Sq) (T : Nat → Nat) (s u n : Nat) (nine : Nat → Nat) (ms : List Sq) (w : World) (e : Ending) (w' : World) : Prop :=
 ∃ gt' ct' ms' t, e = .returned (.int .i32 ((t : Nat) : Int)) ∧ StkA w' ts Bt gt' ct' ms' ∧ WkQ qs T s u n nine ms ms' t ∧ KpS ts gt gt' w w'
structure WaI (mf : Option (Nat × Nat)) (w : World) (wb fs Bf gf cf ts Bt gt ct tb s u most : Nat) (qs ms : List Sq) (T : Nat → Nat) : Prop where
 frm : StkA w fs Bf gf cf qs mf
 too : StkA w ts Bt gt ct ms
 wk : WkA w wb fs ts tb s u most
 tab : TtA w tb T
 t0 : T 0 = 0
 s2 : s ≤ 2
 u2 : u ≤ 2
 fl : fs < Bt ∧ gf < Bt ∧ tb < Bt
 ml : ∀ k, mpB mf k → k < Bt
 bl : Bt ≤ w.heap.size
theorem WaI.go {mf : Option (Nat × Nat)} {w w' : World} {wb fs Bf gf cf ts Bt gt gt' ct ct' tb s u most : Nat} {qs ms ms' : List Sq} {T : Nat → Nat} (h : WaI mf w wb fs Bf gf cf ts Bt gt ct tb s u most qs ms T) (hs : StkA w' ts Bt gt' ct' ms') (hk : KpS ts gt gt' w w') : WaI mf w' wb fs Bf gf cf ts Bt gt' ct' tb s u most qs ms' T := by
 have l1 := h.too.le
 have l2 := h.too.rowB.1
 have f := h.fl
 have kb : ∀ k, k < Bt → w'.heap[k]? = w.heap[k]? := fun k hk' => hk.keep k (by have := h.bl; omega) (by omega) (by omega)
 have nf := h.too.ne_four h.wk (by decide) (by decide)
 exact ⟨h.frm.keepM (kb _ f.1) (kb _ f.2.1) (fun k e => kb _ (h.ml k e)), hs, (hk.keep wb (lt_of_block h.wk) nf.1 nf.2).trans h.wk, ⟨fun c hc => (World.cell?_of_block (a := ⟨tb, c, none⟩) (kb _ f.2.2)).trans (h.tab.cell c hc), h.tab.low⟩, h.t0, h.s2, h.u2, h.fl, h.ml, Nat.le_trans h.bl hk.size⟩
theorem WaI.below {mf : Option (Nat × Nat)} {w w' : World} {wb fs Bf gf cf ts Bt gt ct tb s u most : Nat} {qs ms : List Sq} {T : Nat → Nat} (h : WaI mf w wb fs Bf gf cf ts Bt gt ct tb s u most qs ms T) (hb : Below w.heap.size w w') : WaI mf w' wb fs Bf gf cf ts Bt gt ct tb s u most qs ms T := h.go (h.too.below hb) (KpS.of_below hb)
theorem NwF.lt {qs : List Sq} (hS : StQ qs) {n : Nat} {nine : Nat → Nat} (h : NwF qs n nine) (i : Nat) (hi : i < 9) : nine i < qs.length := (h i hi).lt hS
theorem NwF.kl {qs : List Sq} (hS : StQ qs) {nine : Nat → Nat} (h : NwF qs 0 nine) (i : Nat) (hi : i < 9) : sqK qs nine i < 18446744073709551616 := by
 unfold sqK
 rcases h i hi with e | e
 ·rw [e, hS.2.2.2.2.2]; decide
 ·exact e.2.2
set_option maxRecDepth 100000 in
set_option maxHeartbeats 3200000 in
theorem wahead_nil (n L : Nat) (mf : Option (Nat × Nat)) (w : World) (wb fs Bf gf cf ts Bt gt ct tb s u most : Nat) (qs ms : List Sq) (T nine : Nat → Nat) (h : WaI mf w wb fs Bf gf cf ts Bt gt ct tb s u most qs ms T) (hz : N0 nine) :
  Calls Tryz.prog 61 #[.pointer (some ⟨wb, 0, none⟩), .agg (arrQ 9 (jQ nine)), .int .i64 (L : Int)] w (WaP ts Bt gt qs T s u n nine ms w) := by
 have ny := nine_yes hz
 obtain ⟨A, hA⟩ : ∃ A, arrQ 9 (jQ nine) = A := ⟨_, rfl⟩
 rw [hA] at ny ⊢
 have zA : A.size = 9 := by rw [← hA]; exact arrQ_size _ _
 have a1 : (w.alloc (.cells A 134)).heap[w.heap.size]? = some (.cells A 134 (0, 0)) := heap_alloc_new _ _
 have FIN := hide' (show WaP ts Bt gt qs T s u n nine ms w (.returned (.int .i32 0)) (w.alloc (.cells A 134)) from by
  have b : Below w.heap.size w (w.alloc (.cells A 134)) := (Below.refl _ _).alloc (Nat.le_refl _) _
  exact ⟨gt, ct, ms, 0, rfl, h.too.below b, by cases n <;> exact Or.inl ⟨hz, rfl, rfl⟩, KpS.of_below b⟩)
 clear h hz hA
 go_enter Tryz.func61, Tryz.ntmps61
 go_wp2_with (first
  | (refine wpList_load_row rfl 134 _ rfl w.heap.size rfl 134 A (0, 0) _ a1 Tryz.underlying134 rfl (by rw [zA]; kernel_rfl) ?_))
 go_ret
 exact FIN.out
set_option maxRecDepth 100000 in
set_option maxHeartbeats 6400000 in
theorem wahead_eight (mf : Option (Nat × Nat)) (w : World) (wb fs Bf gf cf ts Bt gt ct tb s u most : Nat) (qs ms : List Sq) (T nine : Nat → Nat) (h : WaI mf w wb fs Bf gf cf ts Bt gt ct tb s u most qs ms T) (hz : ¬ N0 nine) (hN : NwF qs 0 nine) (hm : ms.length ≤ 1900000) (hmo : 1900000 ≤ most) :
  Calls Tryz.prog 61 #[.pointer (some ⟨wb, 0, none⟩), .agg (arrQ 9 (jQ nine)), .int .i64 3] w (WaP ts Bt gt qs T s u 0 nine ms w) := by
 have ny := nine_no hz
 have HI := hide' h
 have HZ := hide' hz
 have AR := hide' (fun V (hV : WaI mf V wb fs Bf gf cf ts Bt gt ct tb s u most qs ms T) => around_any wb ts tb s u most fs Bf gf cf qs nine V hV.frm hV.wk (fun i hi => hN.lt h.frm.st i hi) (fun i hi => hN.kl h.frm.st i hi))
 have FU := hide' (fun V (hV : WaI mf V wb fs Bf gf cf ts Bt gt ct tb s u most qs ms T) => wfull_no wb fs ts tb s u most Bt gt ct ms V hV.wk hV.too (by omega))
 have SX := hide' (fun V (hV : WaI mf V wb fs Bf gf cf ts Bt gt ct tb s u most qs ms T) => show Calls Tryz.prog 97 #[.pointer (some ⟨tb, 0, none⟩), .agg #[.int .u64 ((arE (sqK qs nine) 0 : Nat) : Int), .int .u64 ((arE (sqK qs nine) 1 : Nat) : Int), .int .u64 ((arE (sqK qs nine) 2 : Nat) : Int), .int .u64 ((arE (sqK qs nine) 3 : Nat) : Int)], .agg #[.int .i64 (s : Int), .int .i64 (u : Int)]] V fun e w' => e = .returned (.int .u64 ((gnE qs T s u nine : Nat) : Int)) ∧ Below V.heap.size V w' from sixteen_any tb _ _ _ _ s u T V (ar_lt _ _) (ar_lt _ _) (ar_lt _ _) (ar_lt _ _) hV.tab hV.t0 hV.s2 hV.u2 (by have := hV.fl; have := hV.bl; omega))
 have EG := hide' (fun V (hV : WaI mf V wb fs Bf gf cf ts Bt gt ct tb s u most qs ms T) => eight_stk ts Bt gt ct ms (gnE qs T s u nine) V hV.too hV.bl (by omega) (sx_lt _ _ _ _ _ _ _))
 unfold ArP at AR
 obtain ⟨a0, h0⟩ : ∃ a, arE (sqK qs nine) 0 = a := ⟨_, rfl⟩
 obtain ⟨a1, h1⟩ : ∃ a, arE (sqK qs nine) 1 = a := ⟨_, rfl⟩
 obtain ⟨a2, h2⟩ : ∃ a, arE (sqK qs nine) 2 = a := ⟨_, rfl⟩
 obtain ⟨a3, h3⟩ : ∃ a, arE (sqK qs nine) 3 = a := ⟨_, rfl⟩
 rw [h0, h1, h2, h3] at AR SX
 obtain ⟨gn, hgn⟩ : ∃ a, gnE qs T s u nine = a := ⟨_, rfl⟩
 rw [hgn] at SX EG
 have HGN := hide' hgn
 obtain ⟨x0, hx0⟩ : ∃ a, nine 0 = a := ⟨_, rfl⟩
 obtain ⟨x1, hx1⟩ : ∃ a, nine 1 = a := ⟨_, rfl⟩
 obtain ⟨x2, hx2⟩ : ∃ a, nine 2 = a := ⟨_, rfl⟩
 obtain ⟨x3, hx3⟩ : ∃ a, nine 3 = a := ⟨_, rfl⟩
 obtain ⟨x4, hx4⟩ : ∃ a, nine 4 = a := ⟨_, rfl⟩
 obtain ⟨x5, hx5⟩ : ∃ a, nine 5 = a := ⟨_, rfl⟩
 obtain ⟨x6, hx6⟩ : ∃ a, nine 6 = a := ⟨_, rfl⟩
 obtain ⟨x7, hx7⟩ : ∃ a, nine 7 = a := ⟨_, rfl⟩
 obtain ⟨x8, hx8⟩ : ∃ a, nine 8 = a := ⟨_, rfl⟩
 have hA : arrQ 9 (jQ nine) = #[.int .i32 (x0 : Int), .int .i32 (x1 : Int), .int .i32 (x2 : Int), .int .i32 (x3 : Int), .int .i32 (x4 : Int), .int .i32 (x5 : Int), .int .i32 (x6 : Int), .int .i32 (x7 : Int), .int .i32 (x8 : Int)] := by
  rw [← hx0, ← hx1, ← hx2, ← hx3, ← hx4, ← hx5, ← hx6, ← hx7, ← hx8]; rfl
 rw [hA] at ny AR ⊢
 obtain ⟨nb, hnb⟩ : ∃ nb, w.heap.size = nb := ⟨_, rfl⟩
 have HNB := hide' hnb
 obtain ⟨w1, hw1⟩ : ∃ w1, w.alloc (.cells #[.int .i32 (x0 : Int), .int .i32 (x1 : Int), .int .i32 (x2 : Int), .int .i32 (x3 : Int), .int .i32 (x4 : Int), .int .i32 (x5 : Int), .int .i32 (x6 : Int), .int .i32 (x7 : Int), .int .i32 (x8 : Int)] 134) = w1 := ⟨_, rfl⟩
 have HW1 := hide' hw1
 have B1 := hide' (show Below w.heap.size w w1 by rw [← hw1]; exact (Below.refl _ _).alloc (Nat.le_refl _) _)
 have N1 := hide' (show w1.heap[nb]? = some (.cells #[.int .i32 (x0 : Int), .int .i32 (x1 : Int), .int .i32 (x2 : Int), .int .i32 (x3 : Int), .int .i32 (x4 : Int), .int .i32 (x5 : Int), .int .i32 (x6 : Int), .int .i32 (x7 : Int), .int .i32 (x8 : Int)] 134 (0, 0)) by rw [← hw1, ← hnb]; exact heap_alloc_new _ _)
 have I1 := hide' (h.below B1.out)
 have SC := hide' (show w1.cell? ⟨nb, 0, none⟩ = some (.int .i32 (x0 : Int)) ∧ w1.cell? ⟨nb, 1, none⟩ = some (.int .i32 (x1 : Int)) ∧ w1.cell? ⟨nb, 2, none⟩ = some (.int .i32 (x2 : Int)) ∧ w1.cell? ⟨nb, 3, none⟩ = some (.int .i32 (x3 : Int)) ∧ w1.cell? ⟨nb, 4, none⟩ = some (.int .i32 (x4 : Int)) ∧ w1.cell? ⟨nb, 5, none⟩ = some (.int .i32 (x5 : Int)) ∧ w1.cell? ⟨nb, 6, none⟩ = some (.int .i32 (x6 : Int)) ∧ w1.cell? ⟨nb, 7, none⟩ = some (.int .i32 (x7 : Int)) ∧ w1.cell? ⟨nb, 8, none⟩ = some (.int .i32 (x8 : Int)) from by
  refine ⟨?_, ?_, ?_, ?_, ?_, ?_, ?_, ?_, ?_⟩
  all_goals (rw [cell_of_row w1 nb _ _ _ _ N1.out]; rfl))
 have SV := hide' (fun (V : World) (hn : V.heap[nb]? = w1.heap[nb]?) (hw : V.heap[wb]? = w1.heap[wb]?) => show V.rangeAt nb 0 [.int .i32 (x0 : Int), .int .i32 (x1 : Int), .int .i32 (x2 : Int), .int .i32 (x3 : Int), .int .i32 (x4 : Int), .int .i32 (x5 : Int), .int .i32 (x6 : Int), .int .i32 (x7 : Int), .int .i32 (x8 : Int)] ∧ V.cell? ⟨wb, 1, none⟩ = some (.pointer (some ⟨ts, 0, none⟩)) ∧ V.cell? ⟨wb, 2, none⟩ = some (.pointer (some ⟨tb, 0, none⟩)) ∧ V.cell? ⟨wb, 3, none⟩ = some (.int .i64 (s : Int)) ∧ V.cell? ⟨wb, 4, none⟩ = some (.int .i64 (u : Int)) from by
  have e := hn.trans N1.out
  have f := hw.trans I1.out.wk
  refine ⟨fun j v hv => ?_, ?_, ?_, ?_, ?_⟩
  ·rw [Nat.zero_add, cell_of_row V nb j _ _ _ e]; simpa using hv
  all_goals (rw [cell_of_row V wb _ _ _ _ f]; rfl))
 have un9 := Tryz.underlying134
 have in9 : (Tryz.prog.info? 134).map (·.size) = some ([.int .i32 (x0 : Int), .int .i32 (x1 : Int), .int .i32 (x2 : Int), .int .i32 (x3 : Int), .int .i32 (x4 : Int), .int .i32 (x5 : Int), .int .i32 (x6 : Int), .int .i32 (x7 : Int), .int .i32 (x8 : Int)] : List Value).length := by kernel_rfl
 clear h hz hN hm hmo h0 h1 h2 h3 hgn hx0 hx1 hx2 hx3 hx4 hx5 hx6 hx7 hx8 hA hnb hw1
 go_enter Tryz.func61, Tryz.ntmps61
 go_upto_region 1 with fail
 rw [HW1.out, HNB.out]
 obtain ⟨c0, c1, c2, c3, c4, c5, c6, c7, c8⟩ := SC.out
 go_wp2_with fail
 refine (FU.out _ I1.out).mono ?_
 rintro o w2 ⟨rfl, rfl⟩
 clear c0 c1 c2 c3 c4 c5 c6 c7 c8
 have ID := hide' (fun (V : World) (b : Below w1.heap.size w1 V) => I1.out.below b)
 have SB := hide' (fun (V : World) (b : Below w1.heap.size w1 V) => SV.out V (b.block nb (lt_of_block N1.out)) (b.block wb (lt_of_block I1.out.wk)))
 have BD := hide' (show Below w1.heap.size w1 w1.drew.drew from (Below.refl _ _).drew.drew)
 go_upto_region 4 with fail
 go_region_held3 (fun V => V.rangeAt nb 0 [.int .i32 (x0 : Int), .int .i32 (x1 : Int), .int .i32 (x2 : Int), .int .i32 (x3 : Int), .int .i32 (x4 : Int), .int .i32 (x5 : Int), .int .i32 (x6 : Int), .int .i32 (x7 : Int), .int .i32 (x8 : Int)] ∧ V.cell? ⟨wb, 1, none⟩ = some (.pointer (some ⟨ts, 0, none⟩)) ∧ V.cell? ⟨wb, 2, none⟩ = some (.pointer (some ⟨tb, 0, none⟩)) ∧ V.cell? ⟨wb, 3, none⟩ = some (.int .i64 (s : Int)) ∧ V.cell? ⟨wb, 4, none⟩ = some (.int .i64 (u : Int))) (first | exact SG.out | exact SB.out _ BS.out | exact SB.out _ BA.out | exact SB.out _ BD.out | fail) (first
  | (go_at_call 98; refine (AR.out _ (ID.out _ BD.out)).mono ?_; rintro o w4 ⟨rfl, b4⟩; have BA := hide' (BD.out.trans b4))
  | (go_at_call 97; refine (SX.out _ (ID.out _ BA.out)).mono ?_; rintro o w5 ⟨rfl, b5⟩; have BS := hide' (BA.out.trans (b5.mono BA.out.size)))
  | (go_at_call 90; refine (EG.out _ (ID.out _ BS.out)).mono ?_; rintro o w6 ⟨g', cap', ms', t, rfl, hs, he, hk⟩; have nf := (I1.out.below BS.out).too.ne_four ((BS.out.block nb (lt_of_block N1.out)).trans N1.out) (by decide) (by decide); have nw := (I1.out.below BS.out).too.ne_four (I1.out.below BS.out).wk (by decide) (by decide); have SG := hide' (SV.out _ ((hk.keep nb (Nat.lt_of_lt_of_le (lt_of_block N1.out) BS.out.size) nf.1 nf.2).trans (BS.out.block nb (lt_of_block N1.out))) ((hk.keep wb (Nat.lt_of_lt_of_le (lt_of_block I1.out.wk) BS.out.size) nw.1 nw.2).trans (BS.out.block wb (lt_of_block I1.out.wk)))))
  | fail)
 have FIN := hide' (show WaP ts Bt gt qs T s u 0 nine ms w (.returned (.int .i32 (t : Int))) w6 from ⟨g', cap', ms', t, rfl, hs, Or.inr ⟨HZ.out, by rw [HGN.out]; exact he⟩, (KpS.of_below (B1.out.trans (BS.out.mono B1.out.size))).trans hk⟩)
 clear hs he hk nf nw
 go_wp2
 go_ret
 exact FIN.out
def WkC (qs : List Sq) (T : Nat → Nat) (s u n : Nat) (nine : Nat → Nat) (p : Nat → Nat) : Nat → List Sq → List Sq → Prop
 | 0, ms, ms' => ms' = ms
 | i + 1, ms, ms' => ∃ m, WkC qs T s u n nine p i ms m ∧ WkQ qs T s u n (nrQ qs nine (1 + i % 2) (1 + i / 2)) m ms' (p i)
theorem WkC.ext {qs : List Sq} {T : Nat → Nat} {s u n : Nat} {nine p p' : Nat → Nat} : ∀ {i : Nat} {ms ms' : List Sq}, WkC qs T s u n nine p i ms ms' → (∀ j, j < i → p' j = p j) → WkC qs T s u n nine p' i ms ms'
 | 0, ms, ms', h, _ => h
 | i + 1, ms, ms', ⟨m, h1, h2⟩, e => ⟨m, h1.ext fun j hj => e j (by omega), by rw [e i (by omega)]; exact h2⟩
theorem WkC.all {qs : List Sq} {T : Nat → Nat} {s u n : Nat} {nine p : Nat → Nat} {ms m4 ms' : List Sq} {t : Nat} (z : ¬ N0 nine) (h : WkC qs T s u n nine p 4 ms m4) (hj : JoinQ m4 (p 0) (p 1) (p 2) (p 3) ms' t) : WkQ qs T s u (n + 1) nine ms ms' t := by
 obtain ⟨m3, ⟨m2, ⟨m1, ⟨m0, rfl, a0⟩, a1⟩, a2⟩, a3⟩ := h
 exact Or.inr ⟨z, _, _, _, _, _, _, _, _, a0, a1, a2, a3, hj⟩
theorem WkQ.lies {qs : List Sq} {T : Nat → Nat} {s u : Nat} : ∀ {n : Nat} {nine : Nat → Nat} {ms ms' : List Sq} {t : Nat}, StQ ms → WkQ qs T s u n nine ms ms' t → StQ ms' ∧ (∃ l, ms' = ms ++ l) ∧ WFQ ms' n t
 | 0, nine, ms, ms', t, hM, hw => by
  rcases hw with ⟨z, rfl, rfl⟩ | ⟨z, he⟩
  ·exact ⟨hM, ⟨[], by simp⟩, WFQ.nil _ _⟩
  ·obtain ⟨l, rfl, _⟩ := he.app
   exact ⟨hM.app l, ⟨l, rfl⟩, he.wf (sx_lt _ _ _ _ _ _ _)⟩
 | n + 1, nine, ms, ms', t, hM, hw => by
  rcases hw with ⟨z, rfl, rfl⟩ | ⟨z, m1, m2, m3, m4, t0, t1, t2, t3, w0, w1, w2, w3, hj⟩
  ·exact ⟨hM, ⟨[], by simp⟩, WFQ.nil _ _⟩
  ·obtain ⟨s1, ⟨l1, e1⟩, x1⟩ := WkQ.lies hM w0
   obtain ⟨s2, ⟨l2, e2⟩, x2⟩ := WkQ.lies s1 w1
   obtain ⟨s3, ⟨l3, e3⟩, x3⟩ := WkQ.lies s2 w2
   obtain ⟨s4, ⟨l4, e4⟩, x4⟩ := WkQ.lies s3 w3
   obtain ⟨l5, e5, _⟩ := hj.app
   exact ⟨by rw [e5]; exact s4.app _, ⟨l1 ++ (l2 ++ (l3 ++ (l4 ++ l5))), by rw [e5, e4, e3, e2, e1]; simp only [List.append_assoc]⟩, hj.wf s4 (by rw [e4, e3, e2]; exact ((x1.app _).app _).app _) (by rw [e4, e3]; exact (x2.app _).app _) (by rw [e4]; exact x3.app _) x4⟩
theorem WkC.lts {qs : List Sq} {T : Nat → Nat} {s u n : Nat} {nine p : Nat → Nat} {ms m4 : List Sq} (hM : StQ ms) (h : WkC qs T s u n nine p 4 ms m4) : (p 0 < m4.length ∧ p 1 < m4.length) ∧ p 2 < m4.length ∧ p 3 < m4.length := by
 obtain ⟨m3, ⟨m2, ⟨m1, ⟨m0, rfl, a0⟩, a1⟩, a2⟩, a3⟩ := h
 obtain ⟨s1, ⟨l1, e1⟩, w1⟩ := a0.lies hM
 obtain ⟨s2, ⟨l2, e2⟩, w2⟩ := a1.lies s1
 obtain ⟨s3, ⟨l3, e3⟩, w3⟩ := a2.lies s2
 obtain ⟨s4, ⟨l4, e4⟩, w4⟩ := a3.lies s3
 have q1 : p 0 < m1.length := w1.lt s1
 have q2 : p 1 < m2.length := w2.lt s2
 have q3 : p 2 < m3.length := w3.lt s3
 have q4 : p 3 < m4.length := w4.lt s4
 have z2 := congrArg List.length e2
 have z3 := congrArg List.length e3
 have z4 := congrArg List.length e4
 rw [List.length_append] at z2 z3 z4
 exact ⟨⟨by omega, by omega⟩, by omega, by omega⟩
def smW (l r u d : Int) (n : Nat) (X Y : Int) : Nat → Nat
 | 0 => 0
 | i + 1 => smW l r u d n X Y i + sumW l r u d n (X + ((1 + i % 2 : Nat) : Int) * sideI n) (Y + ((1 + i / 2 : Nat) : Int) * sideI n) (n + 1)
theorem smW_all (l r u d : Int) (n : Nat) (X Y : Int) : smW l r u d n X Y 4 ≤ sumW l r u d (n + 1) X Y (n + 2) := by
 have a := sumW_next l r u d n X Y (n + 1) (Nat.le_refl _)
 have e : ∀ i : Nat, ((1 + i : Nat) : Int) = 1 + (i : Int) := fun i => by push_cast; rfl
 have q : smW l r u d n X Y 4 = sumW l r u d (n + 1) X Y (n + 1) := by
  rw [a]
  simp [smW]
 rw [q]
 show _ ≤ sumW l r u d (n + 1) X Y (n + 1) + _
 omega
theorem smW_mono (l r u d : Int) (n : Nat) (X Y : Int) {i : Nat} (hi : i ≤ 4) : smW l r u d n X Y i ≤ smW l r u d n X Y 4 := by
 have : i = 0 ∨ i = 1 ∨ i = 2 ∨ i = 3 ∨ i = 4 := by omega
 rcases this with rfl | rfl | rfl | rfl | rfl <;> simp only [smW] <;> omega
theorem N9.near_at {qs : List Sq} {n : Nat} {nine : Nat → Nat} {F : Int → Int → Int} {X Y : Int} (h : N9 qs (n + 1) nine fun x y => F (X + x) (Y + y)) {x y : Nat} (hx : x ≤ 3) (hy : y ≤ 3) : N9 qs n (nrQ qs nine x y) fun a b => F (X + (x : Int) * sideI n + a) (Y + (y : Int) * sideI n + b) := by
 have q := h.nearer hx hy
 have e : (fun a b => F (X + (x : Int) * sideI n + a) (Y + (y : Int) * sideI n + b)) = fun a b => F (X + (a + (x : Int) * sideI n)) (Y + (b + (y : Int) * sideI n)) := by
  funext a b
  congr 1 <;> omega
 rw [e]
 exact q
def WaC (n : Nat) : Prop := ∀ (mf : Option (Nat × Nat)) (w : World) (L wb fs Bf gf cf ts Bt gt ct tb s u most : Nat) (qs ms : List Sq) (T nine : Nat → Nat) (F : Int → Int → Int) (X Y l r v d : Int), L = n + 3 → WaI mf w wb fs Bf gf cf ts Bt gt ct tb s u most qs ms T → NwF qs n nine → N9 qs n nine (fun x y => F (X + x) (Y + y)) → (∀ x y, ¬ (l ≤ x ∧ x < r ∧ v ≤ y ∧ y < d) → F x y = 0) → ms.length + sumW l r v d n X Y (n + 1) ≤ 1900000 → 1900000 ≤ most →
  Calls Tryz.prog 61 #[.pointer (some ⟨wb, 0, none⟩), .agg (arrQ 9 (jQ nine)), .int .i64 (L : Int)] w (WaP ts Bt gt qs T s u n nine ms w)
set_option maxRecDepth 100000 in
set_option maxHeartbeats 6400000 in
theorem wahead_four (n : Nat) (ih : WaC n) (mf : Option (Nat × Nat)) (w : World) (L wb fs Bf gf cf ts Bt gt ct tb s u most : Nat) (qs ms : List Sq) (T nine : Nat → Nat) (F : Int → Int → Int) (X Y l r v d : Int) (hL : L = n + 4) (hn : n ≤ 43) (h : WaI mf w wb fs Bf gf cf ts Bt gt ct tb s u most qs ms T) (hz : ¬ N0 nine) (hN : NwF qs (n + 1) nine) (h9 : N9 qs (n + 1) nine (fun x y => F (X + x) (Y + y))) (hF : ∀ x y, ¬ (l ≤ x ∧ x < r ∧ v ≤ y ∧ y < d) → F x y = 0) (hm : ms.length + sumW l r v d (n + 1) X Y (n + 2) ≤ 1900000) (hmo : 1900000 ≤ most) :
  Calls Tryz.prog 61 #[.pointer (some ⟨wb, 0, none⟩), .agg (arrQ 9 (jQ nine)), .int .i64 (L : Int)] w (WaP ts Bt gt qs T s u (n + 1) nine ms w) := by
 have ny := nine_no hz
 have HZ := hide' hz
 have NR := hide' (fun (x y : Nat) (hx : x ≤ 3) (hy : y ≤ 3) V gt' ct' ms' (hV : WaI mf V wb fs Bf gf cf ts Bt gt' ct' tb s u most qs ms' T) => nearer_any wb ts tb s u most fs Bf gf cf qs nine x y V hV.frm hV.wk hx hy (fun i hi => hN.lt h.frm.st i hi))
 have FU := hide' (fun V (hV : WaI mf V wb fs Bf gf cf ts Bt gt ct tb s u most qs ms T) => wfull_no wb fs ts tb s u most Bt gt ct ms V hV.wk hV.too (by omega))
 have SM := hide' (fun i (hi : i ≤ 4) => Nat.le_trans (smW_mono l r v d n X Y hi) (smW_all l r v d n X Y))
 have HH := hide' (And.intro hN (And.intro h9 (And.intro hF (And.intro hm hmo))))
 have HST := hide' h.frm.st
 obtain ⟨A, hA⟩ : ∃ A, arrQ 9 (jQ nine) = A := ⟨_, rfl⟩
 have HA := hide' hA
 rw [hA] at ny NR ⊢
 have zA : A.size = 9 := by rw [← hA]; exact arrQ_size _ _
 obtain ⟨nb, hnb⟩ : ∃ nb, w.heap.size = nb := ⟨_, rfl⟩
 have HNB := hide' hnb
 obtain ⟨w1, hw1⟩ : ∃ w1, w.alloc (.cells A 134) = w1 := ⟨_, rfl⟩
 have HW1 := hide' hw1
 have B1 := hide' (show Below w.heap.size w w1 by rw [← hw1]; exact (Below.refl _ _).alloc (Nat.le_refl _) _)
 have a1 : w1.heap[nb]? = some (.cells A 134 (0, 0)) := by rw [← hw1, ← hnb]; exact heap_alloc_new _ _
 have N1 := hide' a1
 have I1 := hide' (h.below B1.out)
 obtain ⟨L', hL'⟩ : ∃ L', n + 3 = L' := ⟨_, rfl⟩
 have f1 : (L : Int) - 1 = (L' : Int) := by omega
 have f2 : ((L : Int) == 3) = false := by simp; omega
 have f3 : L' ≤ 47 := by omega
 have HLL := hide' hL'.symm
 clear h hz hN h9 hF hm hmo hA hnb hw1 hL hL' hn
 go_enter Tryz.func61, Tryz.ntmps61
 go_upto_region 1 with fail
 rw [HW1.out, HNB.out]
 go_wp2_with (first
  | (refine wpList_load_row rfl 134 _ rfl nb rfl 134 A (0, 0) _ a1 Tryz.underlying134 rfl (by rw [zA]; kernel_rfl) ?_))
 refine (FU.out _ I1.out).mono ?_
 rintro o w2 ⟨rfl, e2⟩
 have B12 := hide' (show Below w1.heap.size w1 w2 by rw [e2]; exact (Below.refl _ _).drew)
 have B2 := hide' (B1.out.trans (B12.out.mono B1.out.size))
 have I2 := hide' (I1.out.below B12.out)
 have N2 := hide' ((B12.out.block nb (lt_of_block N1.out)).trans N1.out)
 clear e2 a1
 go_upto_region 6 with fail
 obtain ⟨pb, hpb⟩ : ∃ pb, w2.heap.size = pb := ⟨_, rfl⟩
 obtain ⟨w3, hw3⟩ : ∃ w3, w2.alloc (.cells #[.int .i32 0, .int .i32 0, .int .i32 0, .int .i32 0] 87) = w3 := ⟨_, rfl⟩
 have B23 := hide' (show Below w2.heap.size w2 w3 by rw [← hw3]; exact (Below.refl _ _).alloc (Nat.le_refl _) _)
 have G3 := hide' (show w3.heap[pb]? = some (.cells #[.int .i32 0, .int .i32 0, .int .i32 0, .int .i32 0] 87 (0, 0)) by rw [← hw3, ← hpb]; exact heap_alloc_new _ _)
 have Z3 := hide' hpb
 rw [hw3, hpb]
 clear hw3 hpb
 go_wp2
 go_loopw [35] (fun iv wr => ∃ (i : Nat) (p : Nat → Nat) (g' cap' : Nat) (ms' : List Sq), iv = .int .i64 (i : Int) ∧ i ≤ 4 ∧ Hid (StkA wr ts Bt g' cap' ms') ∧ Hid (WkC qs T s u n nine p i ms ms' ∧ ms'.length ≤ ms.length + smW l r v d n X Y i) ∧ Hid (wr.heap[pb]? = some (.cells #[.int .i32 (p 0 : Int), .int .i32 (p 1 : Int), .int .i32 (p 2 : Int), .int .i32 (p 3 : Int)] 87 (0, 0))) ∧ Hid (KpS ts gt g' w2 wr)) (fun iv _ => 4 - (intOf iv).toNat)
 case atStart => exact ⟨0, fun _ => 0, gt, ct, ms, rfl, by omega, hide' (I2.out.too.below B23.out), hide' ⟨rfl, by simp [smW]⟩, G3, hide' (KpS.of_below B23.out)⟩
 case round =>
  obtain ⟨i, p, g', cap', ms', rfl, hi, KR, HMS, HG, HKP⟩ := hrel
  have IR := hide' (I2.out.go KR.out HKP.out)
  by_cases di : i < 4
  ·have d1 : (i : Int) < 4 := by omega
   have nf := I2.out.too.ne_four N2.out (by decide) (by decide)
   have a1 := (HKP.out.keep nb (lt_of_block N2.out) nf.1 nf.2).trans N2.out
   obtain ⟨x, hx⟩ : ∃ x, 1 + i % 2 = x := ⟨_, rfl⟩
   obtain ⟨y, hy⟩ : ∃ x, 1 + i / 2 = x := ⟨_, rfl⟩
   have e1 : 1 + (i : Int) % 2 = (x : Int) := by omega
   have e2 : 1 + (i : Int) / 2 = (y : Int) := by omega
   have x3 : x ≤ 3 := by omega
   have y3 : y ≤ 3 := by omega
   have HXY := hide' (And.intro hx hy)
   clear hx hy nf
   go_wp2_with (first
    | (refine wpList_load_row rfl 134 _ rfl nb rfl 134 A (0, 0) _ a1 Tryz.underlying134 rfl (by rw [zA]; kernel_rfl) ?_))
   refine (NR.out x y x3 y3 _ _ _ _ IR.out).mono ?_
   rintro o w3' ⟨rfl, b3⟩
   have IQ := hide' (IR.out.below b3)
   have B3 := hide' b3
   clear a1 b3
   go_wp2_with fail
   refine (ih mf _ L' wb fs Bf gf cf ts Bt g' cap' tb s u most qs ms' T (nrQ qs nine x y) F (X + (x : Int) * sideI n) (Y + (y : Int) * sideI n) l r v d HLL.out IQ.out (HH.out.1.nearer HST.out x3 y3) (HH.out.2.1.near_at x3 y3) HH.out.2.2.1 ?_ HH.out.2.2.2.2).mono ?_
   ·have q1 := SM.out (i + 1) (by omega)
    have q2 := HMS.out.2
    have q3 := HH.out.2.2.2.1
    unfold smW at q1
    rw [HXY.out.1, HXY.out.2] at q1
    omega
   rintro o w4 ⟨g2, cap2, ms2, t2, rfl, hs, hk, hp⟩
   have k4 : KpS ts g' g2 wr w4 := (KpS.of_below B3.out).trans hp
   have gp := k4.keep pb (lt_of_block HG.out) (KR.out.ne_four HG.out (by decide) (by decide)).1 (KR.out.ne_four HG.out (by decide) (by decide)).2
   have G4 := hide' (gp.trans HG.out)
   have NP := hide' (hs.ne_four G4.out (by decide) (by decide))
   have f4 := frozen_of_row w4 pb i _ _ G4.out
   have r4 := (cell_of_row w4 pb i _ _ _ G4.out).trans (four_get di)
   have M1 := hide' (show StkA (w4.setCell ⟨pb, i, none⟩ (.int .i32 (t2 : Int))) ts Bt g2 cap2 ms2 from hs.set NP.out.1 NP.out.2 _)
   have M2 := hide' (show WkC qs T s u n nine (fun j => if j = i then t2 else p j) (i + 1) ms ms2 ∧ ms2.length ≤ ms.length + smW l r v d n X Y (i + 1) from by
    refine ⟨⟨ms', HMS.out.1.ext fun j hj => if_neg (by omega), ?_⟩, ?_⟩
    ·rw [HXY.out.1, HXY.out.2]
     simp only [if_true]
     exact hk
    ·have c := WkQ.count HST.out HH.out.2.2.1 (HH.out.1.nearer HST.out x3 y3) (HH.out.2.1.near_at x3 y3) hk
     have q2 := HMS.out.2
     unfold smW
     rw [HXY.out.1, HXY.out.2]
     omega)
   have M3 := hide' (show (w4.setCell ⟨pb, i, none⟩ (.int .i32 (t2 : Int))).heap[pb]? = _ from (heap_setCell_same _ _ _ _ _ _ G4.out).trans (by rw [four_set di]))
   have M5 := hide' (show KpS ts gt g2 w2 (w4.setCell ⟨pb, i, none⟩ (.int .i32 (t2 : Int))) from (HKP.out.trans k4).set (by have := Z3.out; omega) _)
   clear gp hs hk hp k4
   go_wp2
   exact ⟨⟨i + 1, _, g2, cap2, ms2, by go_num, by omega, M1, M2, M3, M5⟩, by simp [intOf]; omega⟩
  ·have d1 : ¬ (i : Int) < 4 := by omega
   obtain rfl : i = 4 := by omega
   have r0 := cell_of_row wr pb 0 _ _ _ HG.out
   have r1 := cell_of_row wr pb 1 _ _ _ HG.out
   have r2 := cell_of_row wr pb 2 _ _ _ HG.out
   have r3 := cell_of_row wr pb 3 _ _ _ HG.out
   have k1 := cell_of_row wr wb 1 _ _ _ IR.out.wk
   simp at r0 r1 r2 r3 k1
   have WC := hide' HMS.out.1
   have ML := hide' (show ms'.length ≤ 1900000 by have := SM.out 4 (by omega); have := HMS.out.2; have := HH.out.2.2.2.1; omega)
   obtain ⟨v0, hv0⟩ : ∃ v, p 0 = v := ⟨_, rfl⟩
   obtain ⟨v1, hv1⟩ : ∃ v, p 1 = v := ⟨_, rfl⟩
   obtain ⟨v2, hv2⟩ : ∃ v, p 2 = v := ⟨_, rfl⟩
   obtain ⟨v3, hv3⟩ : ∃ v, p 3 = v := ⟨_, rfl⟩
   have WF := hide' (HMS.out.1.lts I2.out.too.st)
   rw [hv0, hv1, hv2, hv3] at WF
   have HVV := hide' (And.intro hv0 (And.intro hv1 (And.intro hv2 hv3)))
   rw [hv0] at r0
   rw [hv1] at r1
   rw [hv2] at r2
   rw [hv3] at r3
   clear hv0 hv1 hv2 hv3
   have EC := hide' (join_stk ts Bt g' cap' ms' v0 v1 v2 v3 pb 4 wr.drew KR.out.drewS (Nat.le_trans I2.out.bl HKP.out.size) (by have := ML.out; omega) WF.out.1.1 WF.out.1.2 WF.out.2.1 WF.out.2.2 r0 r1 r2 r3)
   go_upto_region 11 with fail
   go_region_with (go_at_call 84; refine EC.out.mono ?_; rintro e w4 ⟨g2, cap2, ms2, t2, rfl, hs, hj, hk⟩)
   all_goals
    have FIN := hide' (show WaP ts Bt gt qs T s u (n + 1) nine ms w (.returned (.int .i32 (t2 : Int))) w4 from by
     refine ⟨g2, cap2, ms2, t2, rfl, hs, WC.out.all HZ.out ?_, ?_⟩
     ·rw [HVV.out.1, HVV.out.2.1, HVV.out.2.2.1, HVV.out.2.2.2]; exact hj
     ·exact (KpS.of_below B2.out).trans (HKP.out.trans hk.drewL))
    clear hs hj hk
    go_wp2
    go_ret
    exact FIN.out
theorem wahead_any : ∀ n, n ≤ 44 → WaC n
 | 0, _ => by
  intro mf w L wb fs Bf gf cf ts Bt gt ct tb s u most qs ms T nine F X Y l r v d hL h hN h9 hF hm hmo
  subst hL
  by_cases hz : N0 nine
  ·exact wahead_nil 0 _ mf w wb fs Bf gf cf ts Bt gt ct tb s u most qs ms T nine h hz
  ·exact wahead_eight mf w wb fs Bf gf cf ts Bt gt ct tb s u most qs ms T nine h hz hN (by omega) hmo
 | n + 1, hn => by
  intro mf w L wb fs Bf gf cf ts Bt gt ct tb s u most qs ms T nine F X Y l r v d hL h hN h9 hF hm hmo
  by_cases hz : N0 nine
  ·exact wahead_nil (n + 1) _ mf w wb fs Bf gf cf ts Bt gt ct tb s u most qs ms T nine h hz
  ·exact wahead_four n (wahead_any n (by omega)) mf w L wb fs Bf gf cf ts Bt gt ct tb s u most qs ms T nine F X Y l r v d (by omega) (by omega) h hz hN h9 hF hm hmo
def midN (t i : Nat) : Nat := if i = 4 then t else 0
theorem mid_wf {qs : List Sq} {n t : Nat} (h : WFQ qs n t) : NwF qs n (midN t) := fun i hi => by
 unfold midN
 split
 ·exact h
 ·exact WFQ.nil _ _
theorem mid_nine {qs : List Sq} (hS : StQ qs) {n t : Nat} {F : Int → Int → Int} {fr fd : Int} (hv : ∀ u v, valQ qs n t (u - fr) (v - fd) = F u v) : N9 qs n (midN t) (fun x y => F (fr - sideI n + x) (fd - sideI n + y)) := fun a b ha hb u v hu hv' => by
 have p := sideI_pos n
 show _ = F (fr - sideI n + ((a : Int) * sideI n + u)) (fd - sideI n + ((b : Int) * sideI n + v))
 rw [← hv]
 have at_ : ∀ (z : Nat) (q : Int), z < 3 → (0 ≤ q ∧ q < sideI n) → z ≠ 1 → ¬ (0 ≤ (z : Int) * sideI n + q - sideI n ∧ (z : Int) * sideI n + q - sideI n < sideI n) := fun z q hz hq h1 => by
  have : z = 0 ∨ z = 2 := by omega
  rcases this with rfl | rfl <;> simp <;> omega
 by_cases c : a = 1 ∧ b = 1
 ·obtain ⟨rfl, rfl⟩ := c
  show valQ qs n t u v = _
  congr 1 <;> simp <;> omega
 ·have e : midN t (b * 3 + a) = 0 := if_neg (by omega)
  rw [e, val_nil hS]
  refine (val_out _ _ _ _ fun q => ?_).symm
  by_cases c1 : a = 1
  ·exact at_ b v hb hv' (by omega) ⟨by omega, by omega⟩
  ·exact at_ a u ha hu c1 ⟨by omega, by omega⟩
theorem WkQ.field {born stay : Nat} (hb : born % 2 = 0) {T : Nat → Nat} (hT : TbE born stay T) {qs : List Sq} (hS : StQ qs) {s u : Nat} (hs : s ≤ 2) (hu : u ≤ 2) {n t : Nat} {F : Int → Int → Int} {fr fd : Int} (hv : ∀ u v, valQ qs n t (u - fr) (v - fd) = F u v) {ms ms' : List Sq} {t' : Nat} (hM : StQ ms) (h : WkQ qs T s u n (midN t) ms ms' t') (hin : ∀ x y, ¬ (fr + 4 ≤ x ∧ x < fr + sideI n - 4 ∧ fd + 4 ≤ y ∧ y < fd + sideI n - 4) → F x y = 0) (x y : Int) : valQ ms' n t' (x - fr) (y - fd) = stF born stay (s + u) F x y := by
 have k := (WkQ.is hb hT hS hs hu hM (mid_nine hS hv) h).val
 by_cases c : 0 ≤ x - fr ∧ x - fr < sideI n ∧ 0 ≤ y - fd ∧ y - fd < sideI n
 ·rw [k _ _ c.1 c.2.1 c.2.2.1 c.2.2.2, stF_shift]
  show stF born stay (s + u) F _ _ = _
  congr 1 <;> omega
 ·rw [val_out _ _ _ _ c]
  exact (stF_box hb hin (by push_cast; omega)).symm
theorem sideI_mono {a : Nat} : ∀ {b : Nat}, a ≤ b → sideI a ≤ sideI b
 | 0, h => by rw [show a = 0 by omega]; exact Int.le_refl _
 | b + 1, h => by
  by_cases e : a = b + 1
  ·rw [e]; exact Int.le_refl _
  ·have := sideI_mono (a := a) (b := b) (by omega)
   have := sideI_pos b
   rw [sideI_next]
   omega
def InBx (F : Int → Int → Int) (l r u d : Int) : Prop := ∀ x y, ¬ (l ≤ x ∧ x < r ∧ u ≤ y ∧ y < d) → F x y = 0
theorem InBx.go {born stay : Nat} (hb : born % 2 = 0) {F : Int → Int → Int} {l r u d : Int} (h : InBx F l r u d) (t : Nat) : InBx (stF born stay t F) (l - t) (r + t) (u - t) (d + t) := fun x y q => stF_box hb h q
theorem InBx.more {F : Int → Int → Int} {l r u d l' r' u' d' : Int} (h : InBx F l r u d) (h1 : l' ≤ l) (h2 : r ≤ r') (h3 : u' ≤ u) (h4 : d ≤ d') : InBx F l' r' u' d' := fun x y q => h x y (by omega)
theorem InBx.mem {F : Int → Int → Int} {l r u d x y : Int} (h : InBx F l r u d) (q : F x y ≠ 0) : l ≤ x ∧ x < r ∧ u ≤ y ∧ y < d := Classical.byContradiction fun c => q (h x y c)
theorem TgtF.below {n m : Nat} {F : Int → Int → Int} {l r u d : Int} (h : TgtF n F) (hF : InBx F l r u d) (hW : r - l ≤ sideI m) (hH : d - u ≤ sideI m) : n ≤ m + 1 := by
 rcases h with h | ⟨x, y, x', y', h1, h2, h3⟩
 ·omega
 ·have a := hF.mem h1
  have b := hF.mem h2
  refine Classical.byContradiction fun c => ?_
  have := sideI_mono (a := m) (b := n - 2) (by omega)
  omega
theorem TgtF.low {n : Nat} {F : Int → Int → Int} {l r u d : Int} (h : TgtF n F) (hF : InBx F l r u d) (hW : r - l ≤ 8300) (hH : d - u ≤ 8300) : n ≤ 12 := h.below (m := 11) hF (by rw [show sideI 11 = 16384 by decide]; omega) (by rw [show sideI 11 = 16384 by decide]; omega)
theorem sum_few {l r u d : Int} (h1 : l ≤ r) (h2 : u ≤ d) (hW : r - l ≤ 8300) (hH : d - u ≤ 8300) {n : Nat} (hn : n ≤ 13) (X Y : Int) : sumW l r u d n X Y (n + 1) ≤ 1450000 := by
 refine Nat.le_trans (sumW_le h1 h2 (W := 8300) (H := 8300) hW hH X Y (n + 1) (Nat.le_refl _)) ?_
 have : n = 0 ∨ n = 1 ∨ n = 2 ∨ n = 3 ∨ n = 4 ∨ n = 5 ∨ n = 6 ∨ n = 7 ∨ n = 8 ∨ n = 9 ∨ n = 10 ∨ n = 11 ∨ n = 12 ∨ n = 13 := by omega
 rcases this with rfl | rfl | rfl | rfl | rfl | rfl | rfl | rfl | rfl | rfl | rfl | rfl | rfl | rfl <;> decide
end Go.Proofs.YtemhcpldflcfbaaGreatDoor
