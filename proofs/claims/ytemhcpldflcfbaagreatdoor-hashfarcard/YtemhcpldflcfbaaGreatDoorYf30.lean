/-
  What the last text of this claim leans on, part 30: Hk9.
-/
import Derived.Test.YtemhcpldflcfbaaGreatDoorYf29
import Derived.Test.YtemhcpldflcfbaaGreatDoorYf11
namespace Go.Proofs.YtemhcpldflcfbaaGreatDoor
open Go.RowKit
set_option linter.unusedVariables false
theorem jQ_set (p : Nat → Nat) (i r j : Nat) : (if j = i then Value.int .i32 (r : Int) else jQ p j) = jQ (fun j => if j = i then r else p j) j := by
 unfold jQ
 by_cases e : j = i
 ·rw [if_pos e]; simp only [if_pos e]
 ·rw [if_neg e]; simp only [if_neg e]
def LgQ (c : LpK) (qs : List Sq) (la : List Nat) (n i : Nat) (qs' : List Sq) (la' : List Nat) : Prop := (∃ ms, qs' = qs ++ ms) ∧ qs'.length ≤ c.most + 18 * (n + 1) + i ∧ la.length ≤ la'.length
theorem arr16_get {f : Nat → Nat} {V : World} {gb : Nat} (h : V.heap[gb]? = some (.cells (arr16 f) 154 (0, 0))) {j : Nat} (hj : j < 16) : V.cell? ⟨gb, j, none⟩ = some (.int .i32 ((f j : Nat) : Int)) := by rw [cell_of_row V gb j _ _ _ h]; exact get16 hj
theorem wrap_natK (n : Nat) (h : n ≤ 1000000) : IntKind.i64.wrap (n : Int) = (n : Int) := by simp [IntKind.wrap, IntKind.bits, IntKind.signed]; omega
theorem join_lp {c : LpK} (ok : LpOk c) {w : World} {g cap : Nat} {qs : List Sq} {lv : Value} {la : List Nat} (h : LpA c w g cap qs lv la) (hl : qs.length ≤ 1500000) {a b d e : Nat} (ha : a < qs.length) (hb : b < qs.length) (hd : d < qs.length) (he : e < qs.length) {U : World} (hU : Below w.heap.size w U) {pb : Nat} {ty : TypeId} (A : U.heap[pb]? = some (.cells #[.int .i32 (a : Int), .int .i32 (b : Int), .int .i32 (d : Int), .int .i32 (e : Int)] ty (0, 0))) (hwin : ∀ qs' t, JoinQ qs a b d e qs' t → AwQ c qs') :
  Calls Tryz.prog 84 #[.pointer (some ⟨c.sb, 0, none⟩), .slice (some ⟨pb, 0, none⟩) 4 4] U fun o w' => ∃ g' cap' qs' t, o = .returned (.int .i32 ((t : Nat) : Int)) ∧ LpA c w' g' cap' qs' lv la ∧ JoinQ qs a b d e qs' t ∧ Below c.B w w' ∧ KpT w w' := by
 have h1 := h.below ok hU
 refine (join_stkM (some c.p) c.sb c.B g cap qs a b d e pb 4 _ h1.stk h1.le.2 (by omega) ha hb hd he (cell_of_row _ _ 0 _ _ _ A) (cell_of_row _ _ 1 _ _ _ A) (cell_of_row _ _ 2 _ _ _ A) (cell_of_row _ _ 3 _ _ _ A)).mono ?_
 rintro o w' ⟨g', cap', qs', t, rfl, hs, hj, hk⟩
 obtain ⟨ms, e1, l1⟩ := hj.app
 exact ⟨g', cap', qs', t, rfl, h1.grown ok hs hk ⟨ms, e1⟩ (hwin _ _ hj), hj, (hU.mono h.le.2).trans (hk.bel h1.stk h1.le.2), (KpT.of_below hU).trans (hk.kpt h1.stk)⟩
set_option maxRecDepth 100000 in
set_option maxHeartbeats 12800000 in
theorem look_more (n : Nat) (ih : AheadC n) : LookC (n + 1) := by
 intro c ok g cap qs lv la t L w h hq hw hL hn hwt hkk
 have WTK := hide' (And.intro hwt hkk)
 clear hwt hkk
 have HK := hide' h
 have HW := hide' hw
 have HOK := hide' ok
 have HQ := hide' hq
 have GC := hide' (grid_stk c.sb c.B g cap qs t w h.stk (hw.lt h.stk.st) (fun i => (hw.prt h.stk.st i).lt h.stk.st))
 have GW := hide' (fun i => grid_wf h.stk.st hw i)
 have d0 : ((L : Int) == 4) = false := by simp; omega
 obtain ⟨L', hL'⟩ : ∃ l, n + 4 = l := ⟨_, rfl⟩
 have f1 : (L : Int) - 1 = (L' : Int) := by omega
 have f3 : L' ≤ 47 := by omega
 have HL := hide' (And.intro hL'.symm (And.intro hL hn))
 obtain ⟨lb, hlb⟩ : ∃ l, c.lb = l := ⟨_, rfl⟩
 obtain ⟨sb, hsb⟩ : ∃ l, c.sb = l := ⟨_, rfl⟩
 obtain ⟨kk, hkk⟩ : ∃ l, c.k = l := ⟨_, rfl⟩
 have HN := hide' (And.intro hlb (And.intro hsb hkk))
 have LD := hide' (fun (V : World) (g' cap' : Nat) (qs' : List Sq) (lv' : Value) (la' : List Nat) (hV : LpA c V g' cap' qs' lv' la') => show V.cell? ⟨lb, 0, none⟩ = some (.pointer (some ⟨sb, 0, none⟩)) ∧ V.cell? ⟨lb, 2, none⟩ = some (.int .i64 (kk : Int)) from by
  have l := hV.ldr
  rw [hlb, hsb, hkk] at l
  refine ⟨?_, ?_⟩
  all_goals (rw [cell_of_row V lb _ _ _ _ l]; rfl))
 have kb : kk ≤ 40 := by rw [← hkk]; exact ok.hk
 have x0 := (LD.out w g cap qs lv la h).1
 rw [hsb] at GC
 rw [hlb]
 clear h hq hw hL hn ok hL' hlb hsb hkk
 go_enter Tryz.func96, Tryz.ntmps96
 go_wp2_with fail
 refine GC.out.mono ?_
 rintro e w3 ⟨rfl, b3⟩
 obtain ⟨Z, hZ⟩ : ∃ Z, arr16 (gridQ qs t) = Z := ⟨_, rfl⟩
 rw [hZ]
 have zs : Z.size = 16 := by rw [← hZ]; rfl
 have za : Z.all (·.oneCell') = true := by rw [← hZ]; simp [arr16, Value.oneCell']
 have hz : (w3.alloc (.cells #[.int .i32 0, .int .i32 0, .int .i32 0, .int .i32 0, .int .i32 0, .int .i32 0, .int .i32 0, .int .i32 0, .int .i32 0, .int .i32 0, .int .i32 0, .int .i32 0, .int .i32 0, .int .i32 0, .int .i32 0, .int .i32 0] 154)).heap[w3.heap.size]? = some (.cells #[.int .i32 0, .int .i32 0, .int .i32 0, .int .i32 0, .int .i32 0, .int .i32 0, .int .i32 0, .int .i32 0, .int .i32 0, .int .i32 0, .int .i32 0, .int .i32 0, .int .i32 0, .int .i32 0, .int .i32 0, .int .i32 0] 154 (0, 0)) := heap_alloc_new _ _
 obtain ⟨w4, hw4⟩ : ∃ w4, (w3.alloc (.cells #[.int .i32 0, .int .i32 0, .int .i32 0, .int .i32 0, .int .i32 0, .int .i32 0, .int .i32 0, .int .i32 0, .int .i32 0, .int .i32 0, .int .i32 0, .int .i32 0, .int .i32 0, .int .i32 0, .int .i32 0, .int .i32 0] 154)).setRow w3.heap.size Z = w4 := ⟨_, rfl⟩
 have g4 : w4.heap[w3.heap.size]? = some (.cells Z 154 (0, 0)) := by rw [← hw4]; exact setRow_heap _ _ _ _ _ _ hz
 have B4 := hide' (show Below w.heap.size w w4 by rw [← hw4]; exact below_setRow (b3.alloc b3.size _) b3.size _)
 obtain ⟨gb, hgb⟩ : ∃ gb, w3.heap.size = gb := ⟨_, rfl⟩
 have G4 := hide' (show w4.heap[gb]? = some (.cells (arr16 (gridQ qs t)) 154 (0, 0)) by rw [← hgb, hZ]; exact g4)
 have HGB := hide' hgb
 have GBW := hide' (show w.heap.size ≤ gb by rw [← hgb]; exact b3.size)
 clear b3 g4 hgb x0
 go_upto_region 4 with (first
  | (refine wpList_store_row rfl 154 _ _ rfl w3.heap.size Z rfl rfl 154 _ hz (by rw [zs]; kernel_rfl) (by rw [zs]; rfl) za ?_; rw [hw4]))
 rw [HGB.out]
 clear hz hw4 hZ zs za
 go_upto_region 5 with fail
 obtain ⟨nb, hnb⟩ : ∃ nb, w4.heap.size = nb := ⟨_, rfl⟩
 obtain ⟨w5, hw5⟩ : ∃ w5, w4.alloc (.cells #[.int .i32 0, .int .i32 0, .int .i32 0, .int .i32 0, .int .i32 0, .int .i32 0, .int .i32 0, .int .i32 0, .int .i32 0] 134) = w5 := ⟨_, rfl⟩
 rw [hw5, hnb]
 have B5 := hide' (show Below w.heap.size w w5 by rw [← hw5]; exact B4.out.alloc B4.out.size _)
 have A5 := hide' (show LpA c w5 g cap qs lv la from HK.out.below HOK.out B5.out)
 have N5 := hide' (show ArV w5 nb 9 134 (jQ fun _ => 0) by unfold ArV; rw [← hw5, ← hnb]; exact heap_alloc_new _ _)
 have G5 := hide' (show w5.heap[gb]? = some (.cells (arr16 (gridQ qs t)) 154 (0, 0)) by rw [← hw5]; exact (heap_alloc_old _ _ (lt_of_block G4.out)).trans G4.out)
 have NBW := hide' (show c.B ≤ nb by rw [← hnb]; exact Nat.le_trans HK.out.le.2 B4.out.size)
 have BT5 := hide' (show Below c.B w w5 ∧ KpT w w5 from ⟨B5.out.mono HK.out.le.2, KpT.of_below B5.out⟩)
 have NB4 := hide' (show w4.heap.size = nb from hnb)
 clear hnb hw5
 go_wp2
 go_loopw [44] (fun iv wr => ∃ (i : Nat) (P p : Nat → Nat) (g' cap' : Nat) (qs' : List Sq) (lv' : Value) (la' : List Nat), iv = .int .i64 (i : Int) ∧ i ≤ 9 ∧ Hid (LpA c wr g' cap' qs' lv' la') ∧ Hid (LgQ c qs la n i qs' la') ∧ Hid (ArV wr nb 9 134 (jQ p)) ∧ Hid (wr.heap[gb]? = some (.cells (arr16 (gridQ qs t)) 154 (0, 0))) ∧ Hid (∀ j, j < i → NkQ c false qs' n (P j) (p j) (gridQ qs t (j / 3 * 4 + j % 3)) (gridQ qs t (j / 3 * 4 + j % 3 + 1)) (gridQ qs t (j / 3 * 4 + j % 3 + 4)) (gridQ qs t (j / 3 * 4 + j % 3 + 5))) ∧ Hid (Below c.B w wr ∧ KpT w wr)) (fun iv _ => 9 - (intOf iv).toNat)
 case atStart => exact ⟨0, fun _ => 0, fun _ => 0, g, cap, qs, lv, la, rfl, by omega, A5, hide' ⟨⟨[], by simp⟩, by have := HQ.out; omega, Nat.le_refl _⟩, N5, G5, hide' (fun j hj => absurd hj (by omega)), BT5⟩
 case round =>
  obtain ⟨i, P, p, g', cap', qs', lv', la', rfl, hi, HA, HLG, HNB, HG, HP, HBT⟩ := hrel
  have QL := hide' (show qs'.length ≤ 1400000 by have := HLG.out.2.1; have := HOK.out.hm; have := HL.out.2.2; omega)
  by_cases di : i < 9
  ·have d1 : (i : Int) < 9 := by omega
   obtain ⟨cr, hcr⟩ : ∃ x, i / 3 * 4 + i % 3 = x := ⟨_, rfl⟩
   have e1 : (i : Int) / 3 * 4 + (i : Int) % 3 = (cr : Int) := by omega
   have cb : cr ≤ 10 := by omega
   have HCR := hide' hcr
   obtain ⟨a0, h0⟩ : ∃ x, gridQ qs t cr = x := ⟨_, rfl⟩
   obtain ⟨a1, h1⟩ : ∃ x, gridQ qs t (cr + 1) = x := ⟨_, rfl⟩
   obtain ⟨a2, h2⟩ : ∃ x, gridQ qs t (cr + 4) = x := ⟨_, rfl⟩
   obtain ⟨a3, h3⟩ : ∃ x, gridQ qs t (cr + 5) = x := ⟨_, rfl⟩
   have WG := hide' (show (WFQ qs' n a0 ∧ WFQ qs' n a1) ∧ WFQ qs' n a2 ∧ WFQ qs' n a3 by
    obtain ⟨⟨ms, e⟩, -⟩ := HLG.out
    rw [← h0, ← h1, ← h2, ← h3, e]
    exact ⟨⟨(GW.out _).app ms, (GW.out _).app ms⟩, (GW.out _).app ms, (GW.out _).app ms⟩)
   have CG := hide' (fun (V : World) (eg : V.heap[gb]? = some (.cells (arr16 (gridQ qs t)) 154 (0, 0))) => show V.cell? ⟨gb, cr, none⟩ = some (.int .i32 (a0 : Int)) ∧ V.cell? ⟨gb, cr + 1, none⟩ = some (.int .i32 (a1 : Int)) ∧ V.cell? ⟨gb, cr + 4, none⟩ = some (.int .i32 (a2 : Int)) ∧ V.cell? ⟨gb, cr + 5, none⟩ = some (.int .i32 (a3 : Int)) from by
    rw [← h0, ← h1, ← h2, ← h3]
    exact ⟨arr16_get eg (by omega), arr16_get eg (by omega), arr16_get eg (by omega), arr16_get eg (by omega)⟩)
   have HGG := hide' (And.intro h0 (And.intro h1 (And.intro h2 h3)))
   have r1 : (cr : Int) + 1 = ((cr + 1 : Nat) : Int) := by push_cast; rfl
   have r4 : (cr : Int) + 4 = ((cr + 4 : Nat) : Int) := by push_cast; rfl
   have r5 : (cr : Int) + 5 = ((cr + 5 : Nat) : Int) := by push_cast; rfl
   obtain ⟨c1, hc1⟩ : ∃ x, cr + 1 = x := ⟨_, rfl⟩
   obtain ⟨c4, hc4⟩ : ∃ x, cr + 4 = x := ⟨_, rfl⟩
   obtain ⟨c5, hc5⟩ : ∃ x, cr + 5 = x := ⟨_, rfl⟩
   rw [hc1] at r1 CG
   rw [hc4] at r4 CG
   rw [hc5] at r5 CG
   have i0 : (cr : Int) < 16 := by omega
   have i1 : (c1 : Int) < 16 := by omega
   have i4 : (c4 : Int) < 16 := by omega
   have i5 : (c5 : Int) < 16 := by omega
   have w1 : IntKind.i64.wrap (c1 : Int) = (c1 : Int) := wrap_natK _ (by omega)
   have w4' : IntKind.i64.wrap (c4 : Int) = (c4 : Int) := wrap_natK _ (by omega)
   have w5' : IntKind.i64.wrap (c5 : Int) = (c5 : Int) := wrap_natK _ (by omega)
   have n1 : (0 : Int) ≤ (c1 : Int) := by omega
   have n4 : (0 : Int) ≤ (c4 : Int) := by omega
   have n5 : (0 : Int) ≤ (c5 : Int) := by omega
   have u1 : c1 ≤ 15 := by omega
   have u4 : c4 ≤ 15 := by omega
   have u5 : c5 ≤ 15 := by omega
   have SC := hide' (fun (V : World) (b : Below wr.heap.size wr V) => show V.cell? ⟨lb, 0, none⟩ = some (.pointer (some ⟨sb, 0, none⟩)) ∧ V.cell? ⟨gb, cr, none⟩ = some (.int .i32 (a0 : Int)) ∧ V.cell? ⟨gb, c1, none⟩ = some (.int .i32 (a1 : Int)) ∧ V.cell? ⟨gb, c4, none⟩ = some (.int .i32 (a2 : Int)) ∧ V.cell? ⟨gb, c5, none⟩ = some (.int .i32 (a3 : Int)) from ⟨(LD.out V _ _ _ _ _ (HA.out.below HOK.out b)).1, CG.out V ((b.block gb (lt_of_block HG.out)).trans HG.out)⟩)
   have BR := hide' (show Below wr.heap.size wr wr from Below.refl _ _)
   have BD := hide' (show Below wr.heap.size wr wr.drew from (Below.refl _ _).drew)
   have BA := hide' (show Below wr.heap.size wr (wr.alloc (.cells #[.int .i32 (a0 : Int), .int .i32 (a1 : Int), .int .i32 (a2 : Int), .int .i32 (a3 : Int)] 21)).drew from ((Below.refl _ _).alloc (Nat.le_refl _) _).drew)
   have WA1 := hide' (show ∀ (q6 : List Sq) (P6 : Nat), JoinQ qs' a0 a1 a2 a3 q6 P6 → AwQ c q6 ∧ WtQ c q6 (n + 1) P6 from fun q6 P6 hj => by
    obtain ⟨m6, e6, l6, t6⟩ := hj.one
    obtain ⟨⟨ms, e⟩, -⟩ := HLG.out
    have st' : StQ qs' := HA.out.stk.st
    have wf6 := hj.wf st' WG.out.1.1 WG.out.1.2 WG.out.2.1 WG.out.2.2
    have jn := hj.shows st' WG.out.1.1 WG.out.1.2 WG.out.2.1 WG.out.2.2
    have wt6 : WtQ c q6 (n + 1) P6 := fun ho => by
     obtain ⟨m, a, b, q⟩ := WTK.out.1 ho
     have ex : q6 = qs ++ (ms ++ m6) := by rw [e6, e, List.append_assoc]
     have q2 : WnF c.born c.stay c.F q6 (n + 2) t m a b := by rw [ex]; exact q.app HK.out.stk.st HW.out _
     have g : ∀ z, gridQ q6 t z = gridQ qs t z := fun z => by rw [ex]; exact grid_app HK.out.stk.st HW.out _ z
     refine ⟨_, _, _, wn_part (i := i) di q2 ?_⟩
     rw [g, g, g, g, HCR.out, HGG.out.1, HGG.out.2.1, HGG.out.2.2.1, HGG.out.2.2.2]
     exact jn
    refine ⟨?_, wt6⟩
    rw [e6] at wt6 wf6 ⊢
    exact HA.out.win.grow st' l6 t6 (by have := HL.out.2.2; omega) wf6 wt6)
   have JN := hide' (join_lp HOK.out HA.out (by have := QL.out; omega) (WG.out.1.1.lt HA.out.stk.st) (WG.out.1.2.lt HA.out.stk.st) (WG.out.2.1.lt HA.out.stk.st) (WG.out.2.2.lt HA.out.stk.st) BA.out (pb := wr.heap.size) (ty := 21) (heap_alloc_new _ _) (fun q6 P hj => (WA1.out q6 P hj).1))
   rw [HN.out.2.1] at JN
   clear hcr h0 h1 h2 h3 hc1 hc4 hc5
   go_upto_region 9 with fail
   go_region_held3 (fun V => V.cell? ⟨lb, 0, none⟩ = some (.pointer (some ⟨sb, 0, none⟩)) ∧ V.cell? ⟨gb, cr, none⟩ = some (.int .i32 (a0 : Int)) ∧ V.cell? ⟨gb, c1, none⟩ = some (.int .i32 (a1 : Int)) ∧ V.cell? ⟨gb, c4, none⟩ = some (.int .i32 (a2 : Int)) ∧ V.cell? ⟨gb, c5, none⟩ = some (.int .i32 (a3 : Int))) (first | with_reducible exact SG.out | with_reducible exact SC.out _ BR.out | with_reducible exact SC.out _ BD.out | with_reducible exact SC.out _ BA.out | go_keep) (first
    | (go_at_call 84; refine JN.out.mono ?_; rintro o w6 ⟨g6, cap6, qs6, P6, rfl, h6, hj6, b6, k6⟩; have H6 := hide' h6; have J6 := hide' hj6; have B6 := hide' (And.intro b6 k6); have G6 := hide' (k6 gb _ _ _ HG.out (by decide) (by decide) (by decide) (by decide)); have SG := hide' (show w6.cell? ⟨lb, 0, none⟩ = some (.pointer (some ⟨sb, 0, none⟩)) ∧ w6.cell? ⟨gb, cr, none⟩ = some (.int .i32 (a0 : Int)) ∧ w6.cell? ⟨gb, c1, none⟩ = some (.int .i32 (a1 : Int)) ∧ w6.cell? ⟨gb, c4, none⟩ = some (.int .i32 (a2 : Int)) ∧ w6.cell? ⟨gb, c5, none⟩ = some (.int .i32 (a3 : Int)) from ⟨(LD.out w6 _ _ _ _ _ H6.out).1, CG.out w6 G6.out⟩); clear h6 hj6 b6 k6)
    | fail)
   have WP := hide' (J6.out.wf HA.out.stk.st WG.out.1.1 WG.out.1.2 WG.out.2.1 WG.out.2.2)
   have AC := hide' (ih c HOK.out g6 cap6 qs6 lv' la' P6 L' w6 H6.out WP.out HL.out.1 (by have := HL.out.2.2; omega) (WA1.out qs6 P6 J6.out).2 (fun ho => by have := WTK.out.2 ho; omega))
   rw [HN.out.1] at AC
   go_wp2_with fail
   refine AC.out.mono ?_
   rintro o w7 ⟨g7, cap7, qs7, lv7, la7, r7, rfl, h7, ⟨⟨m7, e7⟩, l7, le7⟩, wf7, s7, b7, k7⟩
   have N7 := hide' (show ArV w7 nb 9 134 (jQ p) from k7 nb _ _ _ (B6.out.2 nb _ _ _ HNB.out (by decide) (by decide) (by decide) (by decide)) (by decide) (by decide) (by decide) (by decide))
   have G7 := hide' (k7 gb _ _ _ G6.out (by decide) (by decide) (by decide) (by decide))
   have rc := N7.out.cell di
   have rf := N7.out.frozen i
   unfold jQ at rc
   have M1 := hide' (show LpA c (w7.setCell ⟨nb, i, none⟩ (.int .i32 (r7 : Int))) g7 cap7 qs7 lv7 la7 from h7.set HOK.out N7.out (by decide) (by decide) (by decide) (by decide) NBW.out _)
   have M2 := hide' (show LgQ c qs la n (i + 1) qs7 la7 from by
    obtain ⟨⟨ms, e⟩, q1, q2⟩ := HLG.out
    obtain ⟨m6, e6, l6⟩ := J6.out.app
    refine ⟨⟨ms ++ (m6 ++ m7), by rw [e7, e6, e]; simp only [List.append_assoc]⟩, ?_, by omega⟩
    have : qs6.length ≤ qs'.length + 1 := by rw [e6, List.length_append]; omega
    omega)
   have M3 := hide' ((N7.out.set i (.int .i32 (r7 : Int))).ext (f' := jQ fun j => if j = i then r7 else p j) fun j _ => jQ_set p i r7 j)
   have M4 := hide' (show (w7.setCell ⟨nb, i, none⟩ (.int .i32 (r7 : Int))).heap[gb]? = some (.cells (arr16 (gridQ qs t)) 154 (0, 0)) from (Below.heap_setCell _ _ _ _ (fun q => by
    simp at q
    have a := G7.out
    rw [q] at a
    have b := N7.out
    unfold ArV at b
    rw [b] at a
    injection a with a
    injection a with _ a
    exact absurd a (by decide))).trans G7.out)
   have M5 := hide' (show ∀ j, j < i + 1 → NkQ c false qs7 n ((fun j => if j = i then P6 else P j) j) ((fun j => if j = i then r7 else p j) j) (gridQ qs t (j / 3 * 4 + j % 3)) (gridQ qs t (j / 3 * 4 + j % 3 + 1)) (gridQ qs t (j / 3 * 4 + j % 3 + 4)) (gridQ qs t (j / 3 * 4 + j % 3 + 5)) from fun j hj => by
    obtain ⟨m6, e6, l6⟩ := J6.out.app
    by_cases e : j = i
    ·subst e
     simp only [if_true]
     rw [HCR.out, HGG.out.1, HGG.out.2.1, HGG.out.2.2.1, HGG.out.2.2.2]
     have s6 : StQ qs6 := H6.out.stk.st
     have wa : ∀ {x}, WFQ qs' n x → WFQ qs6 n x := fun q => by rw [e6]; exact q.app m6
     have jn := J6.out.shows HA.out.stk.st WG.out.1.1 WG.out.1.2 WG.out.2.1 WG.out.2.2
     have wb : ∀ {x}, WFQ qs6 n x → WFQ qs7 n x := fun q => by rw [e7]; exact q.app m7
     exact ⟨by rw [e7]; exact WP.out.app m7, wb (wa WG.out.1.1), wb (wa WG.out.1.2), wb (wa WG.out.2.1), wb (wa WG.out.2.2), by rw [e7]; exact jn.app s6 WP.out (wa WG.out.1.1) (wa WG.out.1.2) (wa WG.out.2.1) (wa WG.out.2.2) m7, wf7, fun q => by unfold lpR; simp only [Bool.false_eq_true, if_false]; exact s7 q⟩
    ·simp only [if_neg e]
     rw [e7]
     have := (HP.out j (by omega)).app HA.out.stk.st m6
     rw [← e6] at this
     exact this.app H6.out.stk.st m7)
   have M6 := hide' (show Below c.B w (w7.setCell ⟨nb, i, none⟩ (.int .i32 (r7 : Int))) ∧ KpT w (w7.setCell ⟨nb, i, none⟩ (.int .i32 (r7 : Int))) from by
    refine ⟨((HBT.out.1.trans B6.out.1).trans b7).setCell NBW.out _, fun k cs ty zz e a b d f => ?_⟩
    have q := k7 k cs ty zz (B6.out.2 k cs ty zz (HBT.out.2 k cs ty zz e a b d f) a b d f) a b d f
    have hk : k < w.heap.size := lt_of_block e
    exact (Below.heap_setCell _ _ _ _ (fun qq => by simp at qq; have := B4.out.size; have := NB4.out; omega)).trans q)
   clear h7 e7 l7 le7 wf7 s7 b7 k7
   go_wp2
   exact ⟨⟨i + 1, _, _, g7, cap7, qs7, lv7, la7, by go_num, by omega, M1, M2, M3, M4, M5, M6⟩, by simp [intOf]; omega⟩
  ·have d1 : ¬ (i : Int) < 9 := by omega
   obtain rfl : i = 9 := by omega
   obtain ⟨W0, rfl⟩ : ∃ W0, W0 = wr := ⟨_, rfl⟩
   go_upto_region 13 with fail
   obtain ⟨qb, hqb⟩ : ∃ x, W0.heap.size = x := ⟨_, rfl⟩
   obtain ⟨w8, hw8⟩ : ∃ x, W0.alloc (.cells #[.int .i32 0, .int .i32 0, .int .i32 0, .int .i32 0] 87) = x := ⟨_, rfl⟩
   rw [hw8, hqb]
   have B8 := hide' (show Below W0.heap.size W0 w8 by rw [← hw8]; exact (Below.refl _ _).alloc (Nat.le_refl _) _)
   have A8 := hide' (HA.out.below HOK.out B8.out)
   have F8 := hide' (show w8.heap[qb]? = some (.cells #[.int .i32 0, .int .i32 0, .int .i32 0, .int .i32 0] 87 (0, 0)) by rw [← hw8, ← hqb]; exact heap_alloc_new _ _)
   have N8 := hide' (show ArV w8 nb 9 134 (jQ p) from HNB.out.below B8.out HNB.out.lt)
   have QBW := hide' (show c.B ≤ qb ∧ w.heap.size ≤ qb by rw [← hqb]; exact ⟨HA.out.le.2, HBT.out.1.size⟩)
   have BT8 := hide' (show Below c.B w w8 ∧ KpT w w8 from ⟨HBT.out.1.trans (B8.out.mono HA.out.le.2), HBT.out.2.trans (KpT.of_below B8.out)⟩)
   clear hqb hw8
   go_wp2
   go_loopw [82] (fun iv wr => ∃ (i : Nat) (Q m : Nat → Nat) (g2 cap2 : Nat) (qs2 : List Sq) (lv2 : Value) (la2 : List Nat), iv = .int .i64 (i : Int) ∧ i ≤ 4 ∧ Hid (LpA c wr g2 cap2 qs2 lv2 la2) ∧ Hid ((∃ ms, qs2 = qs' ++ ms) ∧ qs2.length ≤ c.most + 18 * (n + 1) + 9 + 2 * i ∧ la.length ≤ la2.length) ∧ Hid (wr.heap[qb]? = some (.cells #[.int .i32 (m 0 : Int), .int .i32 (m 1 : Int), .int .i32 (m 2 : Int), .int .i32 (m 3 : Int)] 87 (0, 0))) ∧ Hid (ArV wr nb 9 134 (jQ p)) ∧ Hid (∀ j, j < i → NkQ c (decide (n + 3 > c.k)) qs2 n (Q j) (m j) (p (j / 2 * 3 + j % 2)) (p (j / 2 * 3 + j % 2 + 1)) (p (j / 2 * 3 + j % 2 + 3)) (p (j / 2 * 3 + j % 2 + 4))) ∧ Hid (Below c.B w wr ∧ KpT w wr)) (fun iv _ => 4 - (intOf iv).toNat)
   case atStart => exact ⟨0, fun _ => 0, fun _ => 0, g', cap', qs', lv', la', rfl, by omega, A8, hide' ⟨⟨[], by simp⟩, by have := HLG.out.2.1; omega, HLG.out.2.2⟩, F8, N8, hide' (fun j hj => absurd hj (by omega)), BT8⟩
   case round =>
    obtain ⟨i, Q, m, g2, cap2, qs2, lv2, la2, rfl, hi, HA2, HLG2, HF2, HNB2, HQ2, HBT2⟩ := hrel
    have QL2 := hide' (show qs2.length ≤ 1400000 by have := HLG2.out.2.1; have := HOK.out.hm; have := HL.out.2.2; omega)
    have WN := hide' (show ∀ j, j < 9 → WFQ qs2 n (p j) from fun j hj => by
     obtain ⟨⟨ms, e⟩, -⟩ := HLG2.out
     rw [e]
     exact (HP.out j hj).wr.app ms)
    have WN9 := hide' (show c.on → ∃ (m : Nat) (a b : Int), ∀ z, z < 9 → WnF c.born c.stay c.F qs2 n (p z) (2 * (2 * m + 1)) (4 * a + 4 * ((z % 3 : Nat) : Int) + 2) (4 * b + 4 * ((z / 3 : Nat) : Int) + 2) from fun ho => by
     obtain ⟨m, a, b, q⟩ := WTK.out.1 ho
     refine ⟨m, a, b, fun z hz => ?_⟩
     obtain ⟨⟨m2, e2⟩, -⟩ := HLG2.out
     obtain ⟨⟨m1, e1⟩, -⟩ := HLG.out
     have s1 : StQ qs' := HA.out.stk.st
     have kk2 := WTK.out.2 ho
     have nk := HP.out z hz
     have lp := nk.lp (HA.out.few HOK.out ho).2
     unfold lpR at lp
     simp only [Bool.false_eq_true, if_false] at lp
     have q2 : WnF c.born c.stay c.F qs' (n + 2) t m a b := by rw [e1]; exact q.app HK.out.stk.st HW.out _
     have g : ∀ y, gridQ qs' t y = gridQ qs t y := fun y => by rw [e1]; exact grid_app HK.out.stk.st HW.out _ y
     have w1 := wn_part (i := z) (P := P z) hz q2 (by rw [g, g, g, g]; exact nk.jn)
     have w2 := wn_look (show n + 1 ≤ c.k by omega) w1 lp
     rw [show min c.k (n + 2) - (n + 1) = 1 by omega] at w2
     rw [e2]
     have w3 := w2.app s1 nk.wr m2
     rw [show 2 * (2 * m) + 2 ^ 1 = 2 * (2 * m + 1) by omega, show 2 * (2 * a + 2 * ((z % 3 : Nat) : Int)) + 2 = 4 * a + 4 * ((z % 3 : Nat) : Int) + 2 by omega, show 2 * (2 * b + 2 * ((z / 3 : Nat) : Int)) + 2 = 4 * b + 4 * ((z / 3 : Nat) : Int) + 2 by omega] at w3
     exact w3)
    by_cases di : i < 4
    ·have d1 : (i : Int) < 4 := by omega
     obtain ⟨cr, hcr⟩ : ∃ x, i / 2 * 3 + i % 2 = x := ⟨_, rfl⟩
     have e1 : (i : Int) / 2 * 3 + (i : Int) % 2 = (cr : Int) := by omega
     have cb : cr ≤ 4 := by omega
     have HCR := hide' hcr
     obtain ⟨a0, h0⟩ : ∃ x, p cr = x := ⟨_, rfl⟩
     obtain ⟨a1, h1⟩ : ∃ x, p (cr + 1) = x := ⟨_, rfl⟩
     obtain ⟨a2, h2⟩ : ∃ x, p (cr + 3) = x := ⟨_, rfl⟩
     obtain ⟨a3, h3⟩ : ∃ x, p (cr + 4) = x := ⟨_, rfl⟩
     have WG := hide' (show (WFQ qs2 n a0 ∧ WFQ qs2 n a1) ∧ WFQ qs2 n a2 ∧ WFQ qs2 n a3 by
      rw [← h0, ← h1, ← h2, ← h3]
      exact ⟨⟨WN.out _ (by omega), WN.out _ (by omega)⟩, WN.out _ (by omega), WN.out _ (by omega)⟩)
     have CG := hide' (fun (V : World) (eg : ArV V nb 9 134 (jQ p)) => show V.cell? ⟨nb, cr, none⟩ = some (.int .i32 (a0 : Int)) ∧ V.cell? ⟨nb, cr + 1, none⟩ = some (.int .i32 (a1 : Int)) ∧ V.cell? ⟨nb, cr + 3, none⟩ = some (.int .i32 (a2 : Int)) ∧ V.cell? ⟨nb, cr + 4, none⟩ = some (.int .i32 (a3 : Int)) from by
      rw [← h0, ← h1, ← h2, ← h3]
      exact ⟨eg.cell (by omega), eg.cell (by omega), eg.cell (by omega), eg.cell (by omega)⟩)
     have HGG := hide' (And.intro h0 (And.intro h1 (And.intro h2 h3)))
     have r1 : (cr : Int) + 1 = ((cr + 1 : Nat) : Int) := by push_cast; rfl
     have r3 : (cr : Int) + 3 = ((cr + 3 : Nat) : Int) := by push_cast; rfl
     have r4 : (cr : Int) + 4 = ((cr + 4 : Nat) : Int) := by push_cast; rfl
     obtain ⟨c1, hc1⟩ : ∃ x, cr + 1 = x := ⟨_, rfl⟩
     obtain ⟨c3, hc3⟩ : ∃ x, cr + 3 = x := ⟨_, rfl⟩
     obtain ⟨c4, hc4⟩ : ∃ x, cr + 4 = x := ⟨_, rfl⟩
     rw [hc1] at r1 CG
     rw [hc3] at r3 CG
     rw [hc4] at r4 CG
     have i0 : (cr : Int) < 9 := by omega
     have i1 : (c1 : Int) < 9 := by omega
     have i3 : (c3 : Int) < 9 := by omega
     have i4 : (c4 : Int) < 9 := by omega
     have v1' : IntKind.i64.wrap (c1 : Int) = (c1 : Int) := wrap_natK _ (by omega)
     have v3' : IntKind.i64.wrap (c3 : Int) = (c3 : Int) := wrap_natK _ (by omega)
     have v4' : IntKind.i64.wrap (c4 : Int) = (c4 : Int) := wrap_natK _ (by omega)
     have n1 : (0 : Int) ≤ (c1 : Int) := by omega
     have n3 : (0 : Int) ≤ (c3 : Int) := by omega
     have n4 : (0 : Int) ≤ (c4 : Int) := by omega
     have u1 : c1 ≤ 15 := by omega
     have u3 : c3 ≤ 15 := by omega
     have u4 : c4 ≤ 15 := by omega
     have SC := hide' (fun (V : World) (b : Below wr.heap.size wr V) => show V.cell? ⟨lb, 0, none⟩ = some (.pointer (some ⟨sb, 0, none⟩)) ∧ V.cell? ⟨nb, cr, none⟩ = some (.int .i32 (a0 : Int)) ∧ V.cell? ⟨nb, c1, none⟩ = some (.int .i32 (a1 : Int)) ∧ V.cell? ⟨nb, c3, none⟩ = some (.int .i32 (a2 : Int)) ∧ V.cell? ⟨nb, c4, none⟩ = some (.int .i32 (a3 : Int)) from ⟨(LD.out V _ _ _ _ _ (HA2.out.below HOK.out b)).1, CG.out V (HNB2.out.below b HNB2.out.lt)⟩)
     have BR := hide' (show Below wr.heap.size wr wr from Below.refl _ _)
     have BD := hide' (show Below wr.heap.size wr wr.drew from (Below.refl _ _).drew)
     have BA := hide' (show Below wr.heap.size wr (wr.alloc (.cells #[.int .i32 (a0 : Int), .int .i32 (a1 : Int), .int .i32 (a2 : Int), .int .i32 (a3 : Int)] 21)).drew from ((Below.refl _ _).alloc (Nat.le_refl _) _).drew)
     have WA2 := hide' (show ∀ (q6 : List Sq) (P6 : Nat), JoinQ qs2 a0 a1 a2 a3 q6 P6 → AwQ c q6 ∧ WtQ c q6 (n + 1) P6 from fun q6 P6 hj => by
      obtain ⟨m6, e6, l6, t6⟩ := hj.one
      have st2 : StQ qs2 := HA2.out.stk.st
      have wf6 := hj.wf st2 WG.out.1.1 WG.out.1.2 WG.out.2.1 WG.out.2.2
      have jn := hj.shows st2 WG.out.1.1 WG.out.1.2 WG.out.2.1 WG.out.2.2
      have wt6 : WtQ c q6 (n + 1) P6 := fun ho => by
       obtain ⟨m, a, b, hN⟩ := WN9.out ho
       have f : ∀ z, z < 9 → WnF c.born c.stay c.F q6 n (p z) (2 * (2 * m + 1)) (4 * a + 4 * ((z % 3 : Nat) : Int) + 2) (4 * b + 4 * ((z / 3 : Nat) : Int) + 2) := fun z hz => by
        rw [e6]
        exact (hN z hz).app st2 (WN.out z hz) m6
       refine ⟨2 * m + 1, 2 * a + 2 * ((i % 2 : Nat) : Int) + 1, 2 * b + 2 * ((i / 2 : Nat) : Int) + 1, wn_join (N0 := p cr) (N1 := p (cr + 1)) (N2 := p (cr + 3)) (N3 := p (cr + 4)) ?_ ?_ ?_ ?_ ?_⟩
       ·have q := f cr (by omega)
        rw [show (cr % 3 : Nat) = i % 2 by have := HCR.out; omega, show (cr / 3 : Nat) = i / 2 by have := HCR.out; omega] at q
        rw [show 2 * (2 * a + 2 * ((i % 2 : Nat) : Int) + 1) = 4 * a + 4 * ((i % 2 : Nat) : Int) + 2 by omega, show 2 * (2 * b + 2 * ((i / 2 : Nat) : Int) + 1) = 4 * b + 4 * ((i / 2 : Nat) : Int) + 2 by omega]
        exact q
       ·have q := f (cr + 1) (by omega)
        rw [show ((cr + 1) % 3 : Nat) = i % 2 + 1 by have := HCR.out; omega, show ((cr + 1) / 3 : Nat) = i / 2 by have := HCR.out; omega] at q
        rw [show 2 * (2 * a + 2 * ((i % 2 : Nat) : Int) + 1) + 4 = 4 * a + 4 * ((i % 2 + 1 : Nat) : Int) + 2 by push_cast; omega, show 2 * (2 * b + 2 * ((i / 2 : Nat) : Int) + 1) = 4 * b + 4 * ((i / 2 : Nat) : Int) + 2 by omega]
        exact q
       ·have q := f (cr + 3) (by omega)
        rw [show ((cr + 3) % 3 : Nat) = i % 2 by have := HCR.out; omega, show ((cr + 3) / 3 : Nat) = i / 2 + 1 by have := HCR.out; omega] at q
        rw [show 2 * (2 * a + 2 * ((i % 2 : Nat) : Int) + 1) = 4 * a + 4 * ((i % 2 : Nat) : Int) + 2 by omega, show 2 * (2 * b + 2 * ((i / 2 : Nat) : Int) + 1) + 4 = 4 * b + 4 * ((i / 2 + 1 : Nat) : Int) + 2 by push_cast; omega]
        exact q
       ·have q := f (cr + 4) (by omega)
        rw [show ((cr + 4) % 3 : Nat) = i % 2 + 1 by have := HCR.out; omega, show ((cr + 4) / 3 : Nat) = i / 2 + 1 by have := HCR.out; omega] at q
        rw [show 2 * (2 * a + 2 * ((i % 2 : Nat) : Int) + 1) + 4 = 4 * a + 4 * ((i % 2 + 1 : Nat) : Int) + 2 by push_cast; omega, show 2 * (2 * b + 2 * ((i / 2 : Nat) : Int) + 1) + 4 = 4 * b + 4 * ((i / 2 + 1 : Nat) : Int) + 2 by push_cast; omega]
        exact q
       ·rw [HGG.out.1, HGG.out.2.1, HGG.out.2.2.1, HGG.out.2.2.2]
        exact jn
      refine ⟨?_, wt6⟩
      rw [e6] at wt6 wf6 ⊢
      exact HA2.out.win.grow st2 l6 t6 (by have := HL.out.2.2; omega) wf6 wt6)
     have JN := hide' (join_lp HOK.out HA2.out (by have := QL2.out; omega) (WG.out.1.1.lt HA2.out.stk.st) (WG.out.1.2.lt HA2.out.stk.st) (WG.out.2.1.lt HA2.out.stk.st) (WG.out.2.2.lt HA2.out.stk.st) BA.out (pb := wr.heap.size) (ty := 21) (heap_alloc_new _ _) (fun q6 P hj => (WA2.out q6 P hj).1))
     rw [HN.out.2.1] at JN
     clear hcr h0 h1 h2 h3 hc1 hc3 hc4
     go_upto_region 17 with fail
     go_region_held3 (fun V => V.cell? ⟨lb, 0, none⟩ = some (.pointer (some ⟨sb, 0, none⟩)) ∧ V.cell? ⟨nb, cr, none⟩ = some (.int .i32 (a0 : Int)) ∧ V.cell? ⟨nb, c1, none⟩ = some (.int .i32 (a1 : Int)) ∧ V.cell? ⟨nb, c3, none⟩ = some (.int .i32 (a2 : Int)) ∧ V.cell? ⟨nb, c4, none⟩ = some (.int .i32 (a3 : Int))) (first | with_reducible exact SG.out | with_reducible exact SC.out _ BR.out | with_reducible exact SC.out _ BD.out | with_reducible exact SC.out _ BA.out | go_keep) (first
      | (go_at_call 84; refine JN.out.mono ?_; rintro o w6 ⟨g6, cap6, qs6, P6, rfl, h6, hj6, b6, k6⟩; have H6 := hide' h6; have J6 := hide' hj6; have B6 := hide' (And.intro b6 k6); have G6 := hide' (show ArV w6 nb 9 134 (jQ p) from k6 nb _ _ _ HNB2.out (by decide) (by decide) (by decide) (by decide)); have SG := hide' (show w6.cell? ⟨lb, 0, none⟩ = some (.pointer (some ⟨sb, 0, none⟩)) ∧ w6.cell? ⟨nb, cr, none⟩ = some (.int .i32 (a0 : Int)) ∧ w6.cell? ⟨nb, c1, none⟩ = some (.int .i32 (a1 : Int)) ∧ w6.cell? ⟨nb, c3, none⟩ = some (.int .i32 (a2 : Int)) ∧ w6.cell? ⟨nb, c4, none⟩ = some (.int .i32 (a3 : Int)) from ⟨(LD.out w6 _ _ _ _ _ H6.out).1, CG.out w6 G6.out⟩); clear h6 hj6 b6 k6)
      | fail)
     have WP := hide' (J6.out.wf HA2.out.stk.st WG.out.1.1 WG.out.1.2 WG.out.2.1 WG.out.2.2)
     have F6 := hide' (B6.out.2 qb _ _ _ HF2.out (by decide) (by decide) (by decide) (by decide))
     have L6 := hide' (show qs6.length ≤ qs2.length + 1 by obtain ⟨m6, e6, l6⟩ := J6.out.app; rw [e6, List.length_append]; omega)
     have STEP := hide' (fun (w7 : World) (g7 cap7 : Nat) (qs7 : List Sq) (lv7 : Value) (la7 : List Nat) (r7 : Nat) (h7 : LpA c w7 g7 cap7 qs7 lv7 la7) (e7 : ∃ m7, qs7 = qs6 ++ m7) (l7 : qs7.length ≤ max (qs6.length + 1) (c.most + 18 * (n + 1))) (le7 : la2.length ≤ la7.length) (wf7 : WFQ qs7 n r7) (s7 : qs7.length ≤ c.most → lpR c (decide (n + 3 > c.k)) qs7 n P6 r7) (b7 : Below c.B w6 w7) (k7 : KpT w6 w7) => show (w7.heap[qb]? = some (.cells #[.int .i32 (m 0 : Int), .int .i32 (m 1 : Int), .int .i32 (m 2 : Int), .int .i32 (m 3 : Int)] 87 (0, 0))) ∧ LpA c (w7.setCell ⟨qb, i, none⟩ (.int .i32 (r7 : Int))) g7 cap7 qs7 lv7 la7 ∧ ((∃ ms, qs7 = qs' ++ ms) ∧ qs7.length ≤ c.most + 18 * (n + 1) + 9 + 2 * (i + 1) ∧ la.length ≤ la7.length) ∧ ((w7.setCell ⟨qb, i, none⟩ (.int .i32 (r7 : Int))).heap[qb]? = some (.cells #[.int .i32 (((fun j => if j = i then r7 else m j) 0 : Nat) : Int), .int .i32 (((fun j => if j = i then r7 else m j) 1 : Nat) : Int), .int .i32 (((fun j => if j = i then r7 else m j) 2 : Nat) : Int), .int .i32 (((fun j => if j = i then r7 else m j) 3 : Nat) : Int)] 87 (0, 0))) ∧ ArV (w7.setCell ⟨qb, i, none⟩ (.int .i32 (r7 : Int))) nb 9 134 (jQ p) ∧ (∀ j, j < i + 1 → NkQ c (decide (n + 3 > c.k)) qs7 n ((fun j => if j = i then P6 else Q j) j) ((fun j => if j = i then r7 else m j) j) (p (j / 2 * 3 + j % 2)) (p (j / 2 * 3 + j % 2 + 1)) (p (j / 2 * 3 + j % 2 + 3)) (p (j / 2 * 3 + j % 2 + 4))) ∧ (Below c.B w (w7.setCell ⟨qb, i, none⟩ (.int .i32 (r7 : Int))) ∧ KpT w (w7.setCell ⟨qb, i, none⟩ (.int .i32 (r7 : Int)))) from by
      have F7 := k7 qb _ _ _ F6.out (by decide) (by decide) (by decide) (by decide)
      have N7 : ArV w7 nb 9 134 (jQ p) := k7 nb _ _ _ G6.out (by decide) (by decide) (by decide) (by decide)
      obtain ⟨m6, e6, l6⟩ := J6.out.app
      obtain ⟨m7, e7⟩ := e7
      obtain ⟨⟨ms, e⟩, q1, q2⟩ := HLG2.out
      refine ⟨F7, h7.set HOK.out F7 (by decide) (by decide) (by decide) (by decide) QBW.out.1 _, ⟨⟨ms ++ (m6 ++ m7), by rw [e7, e6, e]; simp only [List.append_assoc]⟩, by have := L6.out; omega, by omega⟩, (heap_setCell_same _ _ _ _ _ _ F7).trans (by rw [four_set di]), ?_, fun j hj => ?_, ?_, ?_⟩
      ·refine N7.keep (Below.heap_setCell _ _ _ _ (fun q => ?_))
       simp at q
       have b := N7
       unfold ArV at b
       rw [q, F7] at b
       injection b with b
       injection b with _ b
       exact absurd b (by decide)
      ·by_cases e : j = i
       ·subst e
        simp only [if_true]
        rw [HCR.out, HGG.out.1, HGG.out.2.1, HGG.out.2.2.1, HGG.out.2.2.2]
        have s6 : StQ qs6 := H6.out.stk.st
        have wa : ∀ {x}, WFQ qs2 n x → WFQ qs6 n x := fun q => by rw [e6]; exact q.app m6
        have jn := J6.out.shows HA2.out.stk.st WG.out.1.1 WG.out.1.2 WG.out.2.1 WG.out.2.2
        have wb : ∀ {x}, WFQ qs6 n x → WFQ qs7 n x := fun q => by rw [e7]; exact q.app m7
        exact ⟨by rw [e7]; exact WP.out.app m7, wb (wa WG.out.1.1), wb (wa WG.out.1.2), wb (wa WG.out.2.1), wb (wa WG.out.2.2), by rw [e7]; exact jn.app s6 WP.out (wa WG.out.1.1) (wa WG.out.1.2) (wa WG.out.2.1) (wa WG.out.2.2) m7, wf7, s7⟩
       ·simp only [if_neg e]
        rw [e7]
        have := (HQ2.out j (by omega)).app HA2.out.stk.st m6
        rw [← e6] at this
        exact this.app H6.out.stk.st m7
      ·exact ((HBT2.out.1.trans B6.out.1).trans b7).setCell QBW.out.1 _
      ·intro k cs ty zz e a b d f
       have q := k7 k cs ty zz (B6.out.2 k cs ty zz (HBT2.out.2 k cs ty zz e a b d f) a b d f) a b d f
       have hk : k < w.heap.size := lt_of_block e
       exact (Below.heap_setCell _ _ _ _ (fun qq => by simp at qq; have := QBW.out.2; omega)).trans q)
     have k2 := (LD.out w6 _ _ _ _ _ H6.out).2
     have k0 := (LD.out w6 _ _ _ _ _ H6.out).1
     by_cases md : n + 3 > c.k
     ·have gk : (kk : Int) + 2 < (L : Int) := by have := HN.out.2.2; have := HL.out.2.1; omega
      have MC := hide' (middle_any (some c.p) c.born c.stay c.sb c.B g6 cap6 qs6 n P6 L' w6 H6.out.stk H6.out.le.2 (by have := L6.out; have := QL2.out; omega) WP.out HL.out.1)
      rw [HN.out.2.1] at MC
      have MD := hide' md
      clear md
      go_wp2_with fail
      refine MC.out.mono ?_
      rintro o w7 ⟨g7, cap7, qs7, r7, rfl, hs7, ⟨m7, e7, l7, t7⟩, wf7, md7, hk7⟩
      rw [← HN.out.2.1] at hs7 hk7
      have WA3 : AwQ c qs7 := by
       have wt7 : WtQ c qs7 n r7 := fun ho => by
        obtain ⟨m, a, b, q⟩ := (WA2.out qs6 P6 J6.out).2 ho
        have q2 : WnF c.born c.stay c.F qs7 (n + 1) P6 m a b := by rw [e7]; exact q.app H6.out.stk.st WP.out m7
        exact ⟨_, _, _, wn_mid q2 md7⟩
       have wf8 := wf7
       rw [e7] at wt7 wf8 ⊢
       exact H6.out.win.grow H6.out.stk.st l7 t7 (by have := HL.out.2.2; omega) wf8 wt7
      have ST := STEP.out w7 g7 cap7 qs7 lv2 la2 r7 (H6.out.grown HOK.out hs7 hk7 ⟨m7, e7⟩ WA3) ⟨m7, e7⟩ (by rw [e7, List.length_append]; omega) (Nat.le_refl _) wf7 (fun _ => by unfold lpR; simp only [decide_eq_true MD.out, if_true]; exact md7) (hk7.bel H6.out.stk H6.out.le.2) (hk7.kpt H6.out.stk)
      obtain ⟨F7, M1, M2, M3, M4, M5, M6⟩ := ST
      have z1 := (cell_of_row w7 qb i _ _ _ F7).trans (four_get di)
      have z2 := frozen_of_row w7 qb i _ _ F7
      have M1 := hide' M1
      have M2 := hide' M2
      have M3 := hide' M3
      have M4 := hide' M4
      have M5 := hide' M5
      have M6 := hide' M6
      clear hs7 e7 l7 t7 WA3 wf7 md7 hk7 k2 k0 F7
      go_wp2
      exact ⟨⟨i + 1, _, _, g7, cap7, qs7, lv2, la2, by go_num, by omega, M1, M2, M3, M4, M5, M6⟩, by simp [intOf]; omega⟩
     ·have gk : ¬ (kk : Int) + 2 < (L : Int) := by have := HN.out.2.2; have := HL.out.2.1; omega
      have AC := hide' (ih c HOK.out g6 cap6 qs6 lv2 la2 P6 L' w6 H6.out WP.out HL.out.1 (by have := HL.out.2.2; omega) (WA2.out qs6 P6 J6.out).2 (fun ho => by have := WTK.out.2 ho; omega))
      rw [HN.out.1] at AC
      have MD := hide' md
      clear md
      go_wp2_with fail
      refine AC.out.mono ?_
      rintro o w7 ⟨g7, cap7, qs7, lv7, la7, r7, rfl, h7, ⟨e7, l7, le7⟩, wf7, s7, b7, k7⟩
      have ST := STEP.out w7 g7 cap7 qs7 lv7 la7 r7 h7 e7 (by omega) le7 wf7 (fun q => by unfold lpR; simp only [decide_eq_false MD.out, Bool.false_eq_true, if_false]; exact s7 q) b7 k7
      obtain ⟨F7, M1, M2, M3, M4, M5, M6⟩ := ST
      have z1 := (cell_of_row w7 qb i _ _ _ F7).trans (four_get di)
      have z2 := frozen_of_row w7 qb i _ _ F7
      have M1 := hide' M1
      have M2 := hide' M2
      have M3 := hide' M3
      have M4 := hide' M4
      have M5 := hide' M5
      have M6 := hide' M6
      clear h7 e7 l7 le7 wf7 s7 b7 k7 k2 k0 F7
      go_wp2
      exact ⟨⟨i + 1, _, _, g7, cap7, qs7, lv7, la7, by go_num, by omega, M1, M2, M3, M4, M5, M6⟩, by simp [intOf]; omega⟩
    ·have d1 : ¬ (i : Int) < 4 := by omega
     obtain rfl : i = 4 := by omega
     have WQ := hide' (fun j (hj : j < 4) => (HQ2.out j hj).wr)
     have QK := hide' (show ∀ (qs3 : List Sq) (r : Nat), JoinQ qs2 (m 0) (m 1) (m 2) (m 3) qs3 r → (∃ ms, qs3 = qs ++ ms) ∧ qs3.length ≤ c.most + 18 * (n + 1 + 1) ∧ WFQ qs3 (n + 1) r ∧ (qs3.length ≤ c.most → LpS c.born c.stay c.k qs3 (n + 1) t r) from fun qs3 r hj => by
      obtain ⟨m3, e3, l3⟩ := hj.app
      obtain ⟨⟨m2, e2⟩, q1, q2⟩ := HLG2.out
      obtain ⟨⟨m1, e1⟩, q3, q4⟩ := HLG.out
      have w0 := WQ.out 0 (by omega)
      have w1 := WQ.out 1 (by omega)
      have w2 := WQ.out 2 (by omega)
      have w3 := WQ.out 3 (by omega)
      have ex : qs3 = qs ++ (m1 ++ (m2 ++ m3)) := by rw [e3, e2, e1]; simp only [List.append_assoc]
      have s2 : StQ qs2 := HA2.out.stk.st
      have s1 : StQ qs' := HA.out.stk.st
      refine ⟨⟨_, ex⟩, by rw [e3, List.length_append]; omega, hj.wf s2 w0 w1 w2 w3, fun hm => ?_⟩
      refine NkQ.look HK.out.stk.st ex HW.out (P := P) (N := p) (Q := Q) (M := m) (fun j hj' => ?_) (fun j hj' => ?_) (hj.shows s2 w0 w1 w2 w3) hm
      ·have a := (HP.out j hj').app s1 m2
       rw [← e2] at a
       have b := a.app s2 m3
       rw [← e3] at b
       exact b
      ·have b := (HQ2.out j hj').app s2 m3
       rw [← e3] at b
       exact b)
     have r0 := cell_of_row wr qb 0 _ _ _ HF2.out
     have k0 := (LD.out wr _ _ _ _ _ HA2.out).1
     have LM := hide' (show (m 0 < qs2.length ∧ m 1 < qs2.length) ∧ m 2 < qs2.length ∧ m 3 < qs2.length from ⟨⟨(WQ.out 0 (by omega)).lt HA2.out.stk.st, (WQ.out 1 (by omega)).lt HA2.out.stk.st⟩, (WQ.out 2 (by omega)).lt HA2.out.stk.st, (WQ.out 3 (by omega)).lt HA2.out.stk.st⟩)
     obtain ⟨v0, hv0⟩ : ∃ x, m 0 = x := ⟨_, rfl⟩
     obtain ⟨v1, hv1⟩ : ∃ x, m 1 = x := ⟨_, rfl⟩
     obtain ⟨v2, hv2⟩ : ∃ x, m 2 = x := ⟨_, rfl⟩
     obtain ⟨v3, hv3⟩ : ∃ x, m 3 = x := ⟨_, rfl⟩
     rw [hv0, hv1, hv2, hv3] at QK LM HF2
     have BD := hide' (show Below wr.heap.size wr wr.drew from (Below.refl _ _).drew)
     have WA4 := hide' (show ∀ (q6 : List Sq) (P6 : Nat), JoinQ qs2 v0 v1 v2 v3 q6 P6 → AwQ c q6 from fun q6 P6 hj => by
      obtain ⟨m6, e6, l6, t6⟩ := hj.one
      obtain ⟨⟨ms, e⟩, -, wf6, lp6⟩ := QK.out q6 P6 hj
      have st2 : StQ qs2 := HA2.out.stk.st
      have wt6 : WtQ c q6 (n + 1) P6 := fun ho => by
       obtain ⟨m, a, b, q⟩ := WTK.out.1 ho
       have fw := (HA2.out.few HOK.out ho).1
       have ft := HOK.out.fit ho
       have q2 : WnF c.born c.stay c.F q6 (n + 2) t m a b := by rw [e]; exact q.app HK.out.stk.st HW.out _
       exact ⟨_, _, _, wn_look (WTK.out.2 ho) q2 (lp6 (by rw [e6, List.length_append]; omega))⟩
      rw [e6] at wt6 wf6 ⊢
      exact HA2.out.win.grow st2 l6 t6 (by have := HL.out.2.2; omega) wf6 wt6)
     have JN := hide' (join_lp HOK.out HA2.out (by have := QL2.out; omega) LM.out.1.1 LM.out.1.2 LM.out.2.1 LM.out.2.2 BD.out (pb := qb) (ty := 87) (show wr.drew.heap[qb]? = _ from HF2.out) (fun q6 P hj => WA4.out q6 P hj))
     rw [HN.out.2.1] at JN
     clear hv0 hv1 hv2 hv3 r0
     go_upto_region 22 with fail
     go_region_with (go_at_call 84; refine JN.out.mono ?_; rintro o w6 ⟨g6, cap6, qs6, P6, rfl, h6, hj6, b6, k6⟩)
     all_goals
      have FIN := hide' (show LkP c (c.most + 18 * (n + 1 + 1)) qs la (n + 1) t w (.returned (.int .i32 (P6 : Int))) w6 from by
       obtain ⟨x1, x2, x3, x4⟩ := QK.out qs6 P6 hj6
       exact ⟨g6, cap6, qs6, lv2, la2, P6, rfl, h6, ⟨x1, x2, HLG2.out.2.2⟩, x3, x4, HBT2.out.1.trans b6, HBT2.out.2.trans k6⟩)
      clear h6 hj6 b6 k6
      go_wp2
      go_ret
      exact FIN.out
theorem look_any : ∀ n, LookC n
 | 0 => look_least
 | n + 1 => look_more n (ahead_of n (look_any n))
theorem ahead_any (n : Nat) : AheadC n := ahead_of n (look_any n)
end Go.Proofs.YtemhcpldflcfbaaGreatDoor
