/-
  What the last text of this claim leans on, part 45: Hs4.
-/
import Derived.Test.YtemhcpldflcfbaaGreatDoorZj41
import Derived.Test.YtemhcpldflcfbaaGreatDoorZj42
import Derived.Test.YtemhcpldflcfbaaGreatDoorZj43
import Derived.Test.YtemhcpldflcfbaaGreatDoorZj14
namespace Go.Proofs.YtemhcpldflcfbaaGreatDoor
open Go.RowKit
set_option linter.unusedVariables false
structure JG (w w4 wr : World) (p : Nat) (s : Gst) (v : Value) : Prop where
 keep : ∀ k, k < w.heap.size + 1 + 1 + 1 → wr.heap[k]? = w4.heap[k]?
 blk : wr.heap[p]? = some (.cells #[.int .i64 (s.P.W : Int), .int .i64 (s.P.H : Int), v, .int .i64 s.r, .int .i64 s.d] 39 (0, 0))
 tab : Tab wr v s.P.xs
 fr : ∀ g k c, v = .slice (some ⟨g, 0, none⟩) k c → w.heap.size + 1 + 1 + 1 ≤ g ∧ g ≠ p
 pq : w.heap.size + 1 + 1 + 1 ≤ p
 below : Below w.heap.size w wr
theorem JG.next {w w4 wr w' : World} {p : Nat} {s : Gst} {v : Value} (h : JG w w4 wr p s v) (b : Below wr.heap.size wr w') : JG w w4 w' p s v := by
 have l := lt_of_block h.blk
 have := h.pq
 exact ⟨fun k hk => (b.block k (by omega)).trans (h.keep k hk), (b.block _ l).trans h.blk, tab_below h.tab b, h.fr, h.pq, h.below.trans (b.mono h.below.size)⟩
theorem JG.put {w w4 wr : World} {p : Nat} {s : Gst} {v : Value} (h : JG w w4 wr p s v) {s' : Gst} {v' : Value} (tb : Tab wr v' s'.P.xs) (fr : ∀ g k c, v' = .slice (some ⟨g, 0, none⟩) k c → w.heap.size + 1 + 1 + 1 ≤ g ∧ g ≠ p) :
  JG w w4 (((((wr.setCell ⟨p, 0, none⟩ (.int .i64 (s'.P.W : Int))).setCell ⟨p, 1, none⟩ (.int .i64 (s'.P.H : Int))).setCell ⟨p, 2, none⟩ v').setCell ⟨p, 3, none⟩ (.int .i64 s'.r)).setCell ⟨p, 4, none⟩ (.int .i64 s'.d)) p s' v' := by
 have := h.pq
 refine ⟨fun k hk => (five_else (by omega) _ _ _ _ _).trans (h.keep k hk), five_stored h.blk _ _ _ _ _, tab_keep tb (fun g k cap e => five_else (fr g k cap e).2 _ _ _ _ _), fr, h.pq, five_belowH h.below (by omega) _ _ _ _ _⟩
theorem JG.move {w w4 wr : World} {p : Nat} {s : Gst} {v : Value} (h : JG w w4 wr p s v) (r d : Int) :
  JG w w4 ((wr.setCell ⟨p, 3, none⟩ (.int .i64 r)).setCell ⟨p, 4, none⟩ (.int .i64 d)) p ⟨s.P, r, d⟩ v := by
 have := h.pq
 have e : ∀ k, k ≠ p → ((wr.setCell ⟨p, 3, none⟩ (.int .i64 r)).setCell ⟨p, 4, none⟩ (.int .i64 d)).heap[k]? = wr.heap[k]? := fun k hk => by rw [Below.heap_setCell _ _ _ _ (by simpa using hk), Below.heap_setCell _ _ _ _ (by simpa using hk)]
 refine ⟨fun k hk => (e k (by omega)).trans (h.keep k hk), ?_, tab_keep h.tab (fun g k cap q => e g (h.fr g k cap q).2), h.fr, h.pq, (h.below.setCell (by show w.heap.size ≤ p; omega) _).setCell (by show w.heap.size ≤ p; omega) _⟩
 have h0 := heap_setCell_same _ _ 3 _ _ (.int .i64 r) h.blk
 rw [heap_setCell_same _ _ 4 _ _ (.int .i64 d) h0]; rfl
theorem it_stop {born stay : Nat} (b0 : born.testBit 0 = false) {s : Gst} (hs : Bxd s) {i : Nat} (hz : (itG born stay i s).P.W = 0) : ∀ k, itG born stay (i + k) s = itG born stay i s
 | 0 => rfl
 | k + 1 => by
  show nextG born stay (itG born stay (i + k) s) = _
  rw [it_stop b0 hs hz k]
  have := noG_of (it_bxd (born := born) (stay := stay) hs i) hz
  rw [this, noG_next b0]
theorem it_small {born stay : Nat} (b0 : born.testBit 0 = false) (hb0 : born % 2 = 0) {s : Gst} (hs : Bxd s) (hW : s.P.W ≤ 100) (hH : s.P.H ≤ 100) (hr : -1000000 ≤ s.r ∧ s.r ≤ 1000000 ∧ -1000000 ≤ s.d ∧ s.d ≤ 1000000) {i : Nat} (hi : i ≤ 4096) :
  GOk (itG born stay i s) ∧ (itG born stay i s).P.W ≤ 8390 ∧ (itG born stay i s).P.H ≤ 8390 ∧ (-2000000 ≤ (itG born stay i s).r ∧ (itG born stay i s).r ≤ 2000000 ∧ -2000000 ≤ (itG born stay i s).d ∧ (itG born stay i s).d ≤ 2000000) ∧ (itG born stay i s).P.xs.length ≤ 70560000 := by
 have ok := it_ok (born := born) (stay := stay) (bxd_ok hs) i
 have nr := it_near (stay := stay) b0 hb0 hs i
 obtain ⟨t, ht⟩ : ∃ t, itG born stay i s = t := ⟨_, rfl⟩
 rw [ht] at ok nr ⊢
 have g : t.P.W ≤ 8390 ∧ t.P.H ≤ 8390 ∧ (-2000000 ≤ t.r ∧ t.r ≤ 2000000 ∧ -2000000 ≤ t.d ∧ t.d ≤ 2000000) := by
  rcases nr with rfl | ⟨⟨n1, n2⟩, n3, n4⟩
  ·simp [noG]
  ·omega
 refine ⟨ok, g.1, g.2.1, g.2.2, ?_⟩
 rw [ok.len]
 exact Nat.le_trans (Nat.mul_le_mul g.1 g.2.1) (by decide)
set_option maxRecDepth 100000 in
set_option maxHeartbeats 12800000 in
theorem refJump_any (kd st ra : Int) (born stay : Nat) (ta : Option Addr) (tn tc : Nat) (sb : ByteArray) (W H : Nat) (xs : List Int) (a : Option Addr) (n c : Nat) (k : Nat) (w : World) (hb : born ≤ 511) (hs : stay ≤ 511) (hP : ArgP w xs a n c) (hn : n = W * H) (hx : ∀ k, 0 ≤ xs.getD k 0 ∧ xs.getD k 0 ≤ 1) (hW : W ≤ 100) (hH : H ≤ 100) (b0 : born % 2 = 0) (hk : k ≤ 12) :
  Calls Tryz.prog 12 #[.agg #[.int .i64 kd, .int .i64 (born : Int), .int .i64 (stay : Int), .int .i64 st, .int .i64 ra, .slice ta tn tc, .string sb], .agg #[.int .i64 (W : Int), .int .i64 (H : Int), .slice a n c], .int .i64 (k : Int)] w (GPost (jpG born stay (firstG ⟨W, H, xs⟩) (2 ^ k)) w) := by
 obtain ⟨w4, hw4⟩ : ∃ w4, ((w.alloc (.cells #[.int .i64 kd, .int .i64 (born : Int), .int .i64 (stay : Int), .int .i64 st, .int .i64 ra, .slice ta tn tc, .string sb] 24)).alloc (.cells #[.int .i64 (W : Int), .int .i64 (H : Int), .slice a n c] 26)).alloc (.cells #[.int .i64 0, .int .i64 0, .slice none 0 0, .int .i64 0, .int .i64 0] 39) = w4 := ⟨_, rfl⟩
 have BB := hide' (show Below w.heap.size w w4 by rw [← hw4]; repeat (first | exact Below.refl _ _ | refine Below.alloc ?_ (by simp; try omega) _))
 have g0 : w4.heap[w.heap.size]? = some (.cells #[.int .i64 kd, .int .i64 (born : Int), .int .i64 (stay : Int), .int .i64 st, .int .i64 ra, .slice ta tn tc, .string sb] 24 (0, 0)) := by rw [← hw4, Below.heap_alloc _ _ _ (by simp; try omega), Below.heap_alloc _ _ _ (by simp; try omega)]; exact heap_atX _ _ _ (by simp)
 have g1 : w4.heap[w.heap.size + 1]? = some (.cells #[.int .i64 (W : Int), .int .i64 (H : Int), .slice a n c] 26 (0, 0)) := by rw [← hw4, Below.heap_alloc _ _ _ (by simp; try omega)]; exact heap_atX _ _ _ (by simp)
 have g2 : w4.heap[w.heap.size + 1 + 1]? = some (.cells #[.int .i64 0, .int .i64 0, .slice none 0 0, .int .i64 0, .int .i64 0] 39 (0, 0)) := by rw [← hw4]; exact heap_atX _ _ _ (by simp)
 have s4 : w4.heap.size = w.heap.size + 1 + 1 + 1 := by rw [← hw4]; simp
 have CF := hide' (fun V (hV : Below w.heap.size w V) => refFirst_any W H xs a n c V (hP.below hV) hn hW hH)
 have B0 := hide' (show bitN born 0 = 0 by unfold bitN; simpa using b0)
 have CA := hide' (fun V (hV : Below w.heap.size w V) => refAgain_ok kd st ra born stay ta tn tc sb W H xs a n c 64 V hb hs (hP.below hV) hn hx hW hH B0.out (by omega) (by omega))
 have FO := hide' (first_ok (p := ⟨W, H, xs⟩) hx hW hH)
 have FB := hide' (show Bxd (firstG ⟨W, H, xs⟩) from box_bxd hx 0 0)
 have T0 := hide' (show born.testBit 0 = false by rw [Nat.testBit_eq_decide_div_mod_eq]; simpa using b0)
 have HB0 := hide' b0
 obtain ⟨s0, hs0⟩ : ∃ s0, firstG ⟨W, H, xs⟩ = s0 := ⟨_, rfl⟩
 rw [hs0] at CF CA FO FB ⊢
 have G0 := hide' g0
 have G1 := hide' g1
 have G2 := hide' g2
 have S4 := hide' s4
 have HB := hide' hb
 have HS := hide' hs
 have RV := hide' (fun (V : World) (hV : ∀ k, k < w.heap.size + 1 + 1 + 1 → V.heap[k]? = w4.heap[k]?) => show V.cell? ⟨w.heap.size, 0, none⟩ = some (.int .i64 kd) ∧ V.cell? ⟨w.heap.size, 1, none⟩ = some (.int .i64 (born : Int)) ∧ V.cell? ⟨w.heap.size, 2, none⟩ = some (.int .i64 (stay : Int)) ∧ V.cell? ⟨w.heap.size, 3, none⟩ = some (.int .i64 st) ∧ V.cell? ⟨w.heap.size, 4, none⟩ = some (.int .i64 ra) ∧ V.cell? ⟨w.heap.size, 5, none⟩ = some (.slice ta tn tc) ∧ V.cell? ⟨w.heap.size, 6, none⟩ = some (.string sb) from
  have e := (hV _ (by omega)).trans G0.out
  ⟨cell_of_row V _ 0 _ _ _ e, cell_of_row V _ 1 _ _ _ e, cell_of_row V _ 2 _ _ _ e, cell_of_row V _ 3 _ _ _ e, cell_of_row V _ 4 _ _ _ e, cell_of_row V _ 5 _ _ _ e, cell_of_row V _ 6 _ _ _ e⟩)
 have PV := hide' (fun (V : World) (hV : ∀ k, k < w.heap.size + 1 + 1 + 1 → V.heap[k]? = w4.heap[k]?) => show V.cell? ⟨w.heap.size + 1, 0, none⟩ = some (.int .i64 (W : Int)) ∧ V.cell? ⟨w.heap.size + 1, 1, none⟩ = some (.int .i64 (H : Int)) ∧ V.cell? ⟨w.heap.size + 1, 2, none⟩ = some (.slice a n c) from
  have e := (hV _ (by omega)).trans G1.out
  ⟨cell_of_row V _ 0 _ _ _ e, cell_of_row V _ 1 _ _ _ e, cell_of_row V _ 2 _ _ _ e⟩)
 have HW4 := hide' hw4
 have HK := hide' hk
 have hk13 : k < 13 := by omega
 clear g0 g1 g2 s4 hb hs hP hn hx b0 hs0 hw4 hk
 go_enter Tryz.func12, Tryz.ntmps12
 go_wp2
 rw [HW4.out]
 go_loop [7, 8] (fun nv iv => ∃ (i N : Nat), iv = .int .i64 (i : Int) ∧ nv = .int .i64 (N : Int) ∧ i ≤ k ∧ N ≤ 4096 ∧ Hid (2 ^ i = N)) (fun _ iv => k - (intOf iv).toNat)
 case atStart => exact ⟨0, 1, rfl, rfl, by omega, by omega, hide' rfl⟩
 case round =>
  obtain ⟨i, N, rfl, rfl, hi, hN, HN⟩ := hrel
  by_cases d : (i : Int) < (k : Int)
  ·have NX := hide' (show 2 ^ (i + 1) = N * 2 by rw [Nat.pow_succ, HN.out])
   have N2 : N * 2 ≤ 4096 := by
    rw [← NX.out]
    exact Nat.le_trans (Nat.pow_le_pow_right (by omega) (show i + 1 ≤ 12 by have := HK.out; omega)) (by decide)
   go_wp2
   exact ⟨⟨i + 1, N * 2, by go_num, by push_cast; rfl, by omega, N2, NX⟩, by simp [intOf]; omega⟩
  ·have KN := hide' (show 2 ^ k = N by rw [← HN.out, show i = k by omega])
   rw [KN.out]
   obtain ⟨p0, p1, p2⟩ := PV.out w4 (fun _ _ => rfl)
   go_wp2_with fail
   refine (CF.out w4 BB.out).mono ?_
   rintro e w5 ⟨v5, rfl, tb5, fr5, b5⟩
   have l0 : s0.P.xs.length ≤ 10000 := by rw [FO.out.1.len]; exact Nat.mul_le_mul FO.out.2.1 FO.out.2.2.1
   obtain ⟨va, vc, rfl, AP5⟩ := tab_arg tb5 (by unfold maxLen; omega)
   clear AP5 l0
   obtain ⟨vl, hvl⟩ : ∃ l, s0.P.xs.length = l := ⟨_, rfl⟩
   rw [hvl] at tb5 fr5 ⊢
   clear hvl
   unfold gV
   obtain ⟨p, hp⟩ : ∃ p, w5.heap.size = p := ⟨_, rfl⟩
   obtain ⟨w6, hw6⟩ : ∃ w6, w5.alloc (.cells #[.int .i64 (s0.P.W : Int), .int .i64 (s0.P.H : Int), (.slice va vl vc), .int .i64 s0.r, .int .i64 s0.d] 39) = w6 := ⟨_, rfl⟩
   have J6 := hide' (show JG w w4 w6 p s0 (.slice va vl vc) from by
    have sz := b5.size
    have s4 := S4.out
    have old : ∀ k, k < p → w6.heap[k]? = w5.heap[k]? := fun k hk => by rw [← hw6]; exact Below.heap_alloc _ _ _ (by omega)
    refine ⟨fun k hk => (old k (by omega)).trans (b5.block k (by omega)), by rw [← hw6]; exact heap_atX _ _ _ hp.symm, tab_keep tb5 (fun g k cap h => old g (by have := tab_lt tb5 h; omega)), fun g k c h => ?_, by omega, by rw [← hw6]; exact (BB.out.trans (b5.mono BB.out.size)).alloc (by have := BB.out.size; omega) _⟩
    have := fr5 g k c h
    have := tab_lt tb5 h
    omega)
   have HW6 := hide' (And.intro hw6 hp)
   clear tb5 fr5 b5 p0 p1 p2 hw6 hp
   go_upto_region 7 with fail
   rw [HW6.out.1]
   try rw [HW6.out.2]
   clear HW6
   obtain ⟨p0, p1, p2⟩ := PV.out w6 J6.out.keep
   obtain ⟨c0, c1, c2', c3, c4, c5, c6⟩ := RV.out w6 J6.out.keep
   go_wp2_with fail
   refine (CA.out w6 J6.out.below).mono ?_
   rintro e w7 ⟨rfl, b7⟩
   obtain ⟨A, hA⟩ : ∃ A, agA born stay s0 64 = A := ⟨_, rfl⟩
   have JN := hide' (show jpG born stay s0 N = if A.f = 0 then itG born stay (N % A.n) ⟨s0.P, s0.r + ((N / A.n : Nat) : Int) * A.r, s0.d + ((N / A.n : Nat) : Int) * A.d⟩ else itG born stay N s0 by unfold jpG; rw [hA])
   have PER := hide' (fun h : A.f = 0 => show PerG born stay s0 A by have := per_of (stay := stay) T0.out HB0.out FB.out (by rw [hA]; exact h); rw [hA] at this; exact this)
   rw [hA]
   clear hA
   obtain ⟨zb, hzb⟩ : ∃ z, w7.heap.size = z := ⟨_, rfl⟩
   obtain ⟨w8, hw8⟩ : ∃ w8, w7.alloc (.cells #[.int .i64 (A.n : Int), .int .i64 A.r, .int .i64 A.d] 49) = w8 := ⟨_, rfl⟩
   have J8 := hide' ((J6.out.next b7).next (show Below w7.heap.size w7 w8 by rw [← hw8]; exact (Below.refl _ _).alloc (Nat.le_refl _) _))
   have Z8 := hide' (show w8.heap[zb]? = some (.cells #[.int .i64 (A.n : Int), .int .i64 A.r, .int .i64 A.d] 49 (0, 0)) by rw [← hw8]; exact heap_atX _ _ _ hzb.symm)
   have NZ := hide' (show zb ≠ p by have := (J6.out.next b7).blk; have := lt_of_block this; omega)
   have HW8 := hide' (And.intro hw8 hzb)
   clear b7 hw8 hzb p0 p1 p2 c0 c1 c2' c3 c4 c5 c6
   unfold agV
   go_upto_region 8 with fail
   rw [HW8.out.1]
   try rw [HW8.out.2]
   clear HW8
   by_cases f0 : A.f = 0
   ·have PG := hide' (PER.out f0)
    have JE := hide' (JN.out.trans (if_pos f0))
    have t1 : ((A.f : Int) == 0) = true := by simp [f0]
    obtain ⟨P, hP⟩ : ∃ P, A.n = P := ⟨_, rfl⟩
    obtain ⟨M, hM⟩ : ∃ M, N / P = M := ⟨_, rfl⟩
    obtain ⟨N1, hN1⟩ : ∃ M, N % P = M := ⟨_, rfl⟩
    have pp := PG.out.pos
    rw [hP] at pp
    have m1 : M ≤ 4096 := by rw [← hM]; exact Nat.le_trans (Nat.div_le_self _ _) hN
    have n1 : N1 ≤ 4096 := by rw [← hN1]; exact Nat.le_trans (Nat.mod_le _ _) hN
    obtain ⟨Y1, hY1⟩ : ∃ Y, (M : Int) * A.r = Y := ⟨_, rfl⟩
    obtain ⟨Y2, hY2⟩ : ∃ Y, (M : Int) * A.d = Y := ⟨_, rfl⟩
    have yb : ∀ (z : Int), -64 ≤ z → z ≤ 64 → -262144 ≤ (M : Int) * z ∧ (M : Int) * z ≤ 262144 := fun z h1 h2 => by
     have a := Int.mul_le_mul_of_nonneg_left h2 (show (0 : Int) ≤ (M : Int) by omega)
     have b := Int.mul_le_mul_of_nonneg_left h1 (show (0 : Int) ≤ (M : Int) by omega)
     omega
    have y1 := yb _ PG.out.right.1 PG.out.right.2
    have y2 := yb _ PG.out.down.1 PG.out.down.2
    rw [hY1] at y1
    rw [hY2] at y2
    rw [hP, hM, hN1, hY1, hY2] at JE
    have fo := FO.out.2.2.2
    have S1 := hide' (show (Bxd (⟨s0.P, s0.r + Y1, s0.d + Y2⟩ : Gst) ∧ s0.P.W ≤ 100 ∧ s0.P.H ≤ 100) ∧ (-1000000 ≤ s0.r + Y1 ∧ s0.r + Y1 ≤ 1000000 ∧ -1000000 ≤ s0.d + Y2 ∧ s0.d + Y2 ≤ 1000000) from ⟨⟨by
     rcases FB.out with e | ⟨hB, ok⟩
     ·exact absurd (by rw [e]; rfl) PG.out.alive
     ·exact Or.inr ⟨hB, ok.len, ok.bits⟩, FO.out.2.1, FO.out.2.2.1⟩, by omega⟩)
    have u0 := cell_of_row w8 _ 0 _ _ _ Z8.out
    have u1 := cell_of_row w8 _ 1 _ _ _ Z8.out
    have u2 := cell_of_row w8 _ 2 _ _ _ Z8.out
    rw [hP] at u0
    simp at u0 u1 u2
    have q3 := cell_of_row w8 _ 3 _ _ _ J8.out.blk
    have q4 := cell_of_row w8 _ 4 _ _ _ J8.out.blk
    have fz3 := frozen_of_row w8 _ 3 _ _ J8.out.blk
    have fz4 := frozen_of_row w8 _ 4 _ _ J8.out.blk
    simp at q3 q4
    have nz := NZ.out
    have nz' : ¬ p = zb := fun e => nz e.symm
    have d0 : ((P : Int) == 0) = false := by simp; omega
    have d1 : (N : Int).tdiv (P : Int) = (M : Int) := by rw [← hM]; exact (Int.ofNat_tdiv N P).symm
    have d2 : (N : Int).tmod (P : Int) = (N1 : Int) := by rw [← hN1]; exact (Int.ofNat_tmod N P).symm
    obtain ⟨R1, hR1⟩ : ∃ R, s0.r + Y1 = R := ⟨_, rfl⟩
    obtain ⟨D1, hD1⟩ : ∃ R, s0.d + Y2 = R := ⟨_, rfl⟩
    rw [hR1, hD1] at JE S1
    have r1 : IntKind.i64.wrap Y1 = Y1 := by simp [IntKind.wrap, IntKind.bits, IntKind.signed]; omega
    have r2 : IntKind.i64.wrap Y2 = Y2 := by simp [IntKind.wrap, IntKind.bits, IntKind.signed]; omega
    have r3 : IntKind.i64.wrap R1 = R1 := by have := S1.out.2; simp [IntKind.wrap, IntKind.bits, IntKind.signed]; omega
    have r4 : IntKind.i64.wrap D1 = D1 := by have := S1.out.2; simp [IntKind.wrap, IntKind.bits, IntKind.signed]; omega
    have J9 := hide' (J8.out.move R1 D1)
    obtain ⟨w9, hw9⟩ : ∃ w9, (w8.setCell ⟨p, 3, none⟩ (.int .i64 R1)).setCell ⟨p, 4, none⟩ (.int .i64 D1) = w9 := ⟨_, rfl⟩
    rw [hw9] at J9
    have HW9 := hide' hw9
    clear hw9 hM hN1 hP f0 yb fo PER JN
    go_upto_region 13 with fail
    rw [HW9.out]
    clear HW9 u0 u1 u2 q3 q4 fz3 fz4 nz nz' d0 d1 d2 r1 r2 r3 r4 t1 hY1 hY2 pp m1 y1 y2
    obtain ⟨s1, hs1⟩ : ∃ s1 : Gst, (⟨s0.P, R1, D1⟩ : Gst) = s1 := ⟨_, rfl⟩
    have SM := hide' (show ∀ j, j ≤ 4096 → GOk (itG born stay j s1) ∧ (itG born stay j s1).P.W ≤ 8390 ∧ (itG born stay j s1).P.H ≤ 8390 ∧ (-2000000 ≤ (itG born stay j s1).r ∧ (itG born stay j s1).r ≤ 2000000 ∧ -2000000 ≤ (itG born stay j s1).d ∧ (itG born stay j s1).d ≤ 2000000) ∧ (itG born stay j s1).P.xs.length ≤ 70560000 from by
     rw [← hs1]
     exact fun j hj => it_small (s := ⟨s0.P, R1, D1⟩) T0.out HB0.out S1.out.1.1 S1.out.1.2.1 S1.out.1.2.2 S1.out.2 hj)
    have BS := hide' (show Bxd s1 by rw [← hs1]; exact S1.out.1.1)
    rw [hs1] at J9 JE
    clear hR1 hD1 hs1 S1
    go_wp2
    go_loopw [13] (fun iv wr => ∃ (i : Nat) (v : Value), iv = .int .i64 (i : Int) ∧ i ≤ N1 ∧ Hid (JG w w4 wr p (itG born stay i s1) v)) (fun iv _ => N1 - (intOf iv).toNat)
    case atStart => exact ⟨0, _, rfl, by omega, J9⟩
    case round =>
     obtain ⟨j, v, rfl, hj, HT⟩ := hrel
     have sm := SM.out j (by omega)
     obtain ⟨t, ht⟩ : ∃ t, itG born stay j s1 = t := ⟨_, rfl⟩
     have NX := hide' (show itG born stay (j + 1) s1 = nextG born stay t by rw [← ht]; rfl)
     have ST := hide' (fun (z : t.P.W = 0) (k : Nat) => show itG born stay (j + k) s1 = t by rw [← ht]; exact it_stop T0.out BS.out (by rw [ht]; exact z) k)
     rw [ht] at sm HT
     have HTE := hide' ht
     clear ht
     obtain ⟨o1, o2, o3, ⟨o4, o5, o6, o7⟩, o8⟩ := sm
     obtain ⟨ua, uc, rfl, AP⟩ := tab_arg HT.out.tab (by unfold maxLen; omega)
     have HO := hide' o1
     obtain ⟨ul, hul⟩ : ∃ l, t.P.xs.length = l := ⟨_, rfl⟩
     rw [hul] at HT AP o8
     have HUL := hide' hul
     clear hul o1
     have AP' := hide' AP
     clear AP
     have q0 := cell_of_row wr _ 0 _ _ _ HT.out.blk
     have q1 := cell_of_row wr _ 1 _ _ _ HT.out.blk
     have q2 := cell_of_row wr _ 2 _ _ _ HT.out.blk
     have q3 := cell_of_row wr _ 3 _ _ _ HT.out.blk
     have q4 := cell_of_row wr _ 4 _ _ _ HT.out.blk
     simp at q0 q1 q2 q3 q4
     have E2 := hide' ((HT.out.keep _ (by omega)).trans G2.out)
     have ne5 : ¬ p = w.heap.size + 1 + 1 := by have := HT.out.pq; omega
     have ne6 : ¬ w.heap.size + 1 + 1 = p := by have := HT.out.pq; omega
     by_cases dj : j < N1
     ·have d1 : (j : Int) < (N1 : Int) := by omega
      by_cases uz : t.P.W = 0
      ·have t3 : ¬ (0 : Int) < (t.P.W : Int) := by omega
       have JX := hide' (show jpG born stay s0 N = t by rw [JE.out]; have := ST.out uz (N1 - j); rw [show j + (N1 - j) = N1 by omega] at this; exact this)
       clear uz
       have f0 := frozen_of_row wr _ 0 _ _ E2.out
       have f1 := frozen_of_row wr _ 1 _ _ E2.out
       have f2 := frozen_of_row wr _ 2 _ _ E2.out
       have f3 := frozen_of_row wr _ 3 _ _ E2.out
       have f4 := frozen_of_row wr _ 4 _ _ E2.out
       have r0 := cell_of_row wr _ 0 _ _ _ E2.out
       have r1 := cell_of_row wr _ 1 _ _ _ E2.out
       have r2 := cell_of_row wr _ 2 _ _ _ E2.out
       have r3 := cell_of_row wr _ 3 _ _ _ E2.out
       have r4 := cell_of_row wr _ 4 _ _ _ E2.out
       simp at r0 r1 r2 r3 r4
       go_wp2
       obtain ⟨X, hX⟩ : ∃ X, ((((wr.setCell ⟨w.heap.size + 1 + 1, 0, none⟩ (.int .i64 (t.P.W : Int))).setCell ⟨w.heap.size + 1 + 1, 1, none⟩ (.int .i64 (t.P.H : Int))).setCell ⟨w.heap.size + 1 + 1, 2, none⟩ (.slice ua ul uc)).setCell ⟨w.heap.size + 1 + 1, 3, none⟩ (.int .i64 t.r)).setCell ⟨w.heap.size + 1 + 1, 4, none⟩ (.int .i64 t.d) = X := ⟨_, rfl⟩
       have GX := five_stored E2.out (.int .i64 (t.P.W : Int)) (.int .i64 (t.P.H : Int)) (.slice ua ul uc) (.int .i64 t.r) (.int .i64 t.d)
       rw [hX] at GX ⊢
       have m0 := cell_of_row X _ 0 _ _ _ GX
       have m1 := cell_of_row X _ 1 _ _ _ GX
       have m2 := cell_of_row X _ 2 _ _ _ GX
       have m3 := cell_of_row X _ 3 _ _ _ GX
       have m4 := cell_of_row X _ 4 _ _ _ GX
       simp at m0 m1 m2 m3 m4
       have pq := HT.out.pq
       have BX : Below w.heap.size w X := by rw [← hX]; exact five_belowH HT.out.below (by omega) _ _ _ _ _
       refine bodyPost_ret (v := .agg #[.int .i64 (t.P.W : Int), .int .i64 (t.P.H : Int), .slice ua ul uc, .int .i64 t.r, .int .i64 t.d]) (by simp [results, Tryz.results12, go_sem, m0, m1, m2, m3, m4]) rfl ?_
       rw [KN.out, JX.out]
       exact ⟨.slice ua ul uc, rfl, tab_keep HT.out.tab (fun g k cap h => by rw [← hX]; exact five_else (by have := (HT.out.fr g k cap h).1; omega) _ _ _ _ _), fun g k c h => Nat.le_trans (by omega) (HT.out.fr g k c h).1, BX⟩
      ·have t3 : (0 : Int) < (t.P.W : Int) := by omega
       have NC := hide' (refWide_any kd st ra born stay ta tn tc sb t.P ua ul uc t.r t.d wr HB.out HS.out AP'.out (by rw [← HUL.out]; exact HO.out.len) HO.out.bits o2 o3 (by omega) (by omega) (by omega) (by omega))
       have NL := hide' (SM.out (j + 1) (by omega)).2.2.2.2
       clear uz
       obtain ⟨c0, c1, c2', c3, c4, c5, c6⟩ := RV.out wr HT.out.keep
       go_wp2_with fail
       refine NC.out.mono ?_
       rintro e w7 ⟨v7, rfl, tb7, fr7, b7⟩
       have ue : nextG born stay ⟨t.P, t.r, t.d⟩ = itG born stay (j + 1) s1 := NX.out.symm
       rw [ue] at tb7 ⊢
       clear ue
       obtain ⟨t2, ht2⟩ : ∃ t, itG born stay (j + 1) s1 = t := ⟨_, rfl⟩
       have HT2 := hide' ht2
       rw [ht2] at tb7 NL ⊢
       clear ht2
       obtain ⟨na, nc, rfl, AP7⟩ := tab_arg tb7 (by have := NL.out; unfold maxLen; omega)
       clear AP7
       have H7 := hide' (HT.out.next b7)
       have FR := hide' (show ∀ g k c, Value.slice na t2.P.xs.length nc = .slice (some ⟨g, 0, none⟩) k c → w.heap.size + 1 + 1 + 1 ≤ g ∧ g ≠ p from fun g k c h => by
        have := fr7 g k c h
        have := lt_of_block HT.out.blk
        have := HT.out.pq
        omega)
       have T7 := hide' tb7
       have e7 := H7.out.blk
       have r0 := frozen_of_row w7 _ 0 _ _ e7
       have r1 := frozen_of_row w7 _ 1 _ _ e7
       have r2 := frozen_of_row w7 _ 2 _ _ e7
       have r3 := frozen_of_row w7 _ 3 _ _ e7
       have r4 := frozen_of_row w7 _ 4 _ _ e7
       have x0 := cell_of_row w7 _ 0 _ _ _ e7
       have x1 := cell_of_row w7 _ 1 _ _ _ e7
       have x2 := cell_of_row w7 _ 2 _ _ _ e7
       have x3 := cell_of_row w7 _ 3 _ _ _ e7
       have x4 := cell_of_row w7 _ 4 _ _ _ e7
       simp at x0 x1 x2 x3 x4
       clear tb7 fr7 b7 e7 c0 c1 c2' c3 c4 c5 c6 q0 q1 q2 q3 q4
       unfold gV
       go_wp2
       refine ⟨⟨j + 1, .slice na t2.P.xs.length nc, by go_num, by omega, hide' ?_⟩, by simp [intOf]; omega⟩
       rw [HT2.out]
       exact H7.out.put T7.out FR.out
     ·have d1 : ¬ (j : Int) < (N1 : Int) := by omega
      have JX := hide' (show jpG born stay s0 N = t by rw [JE.out, ← HTE.out, show j = N1 by omega])
      have f0 := frozen_of_row wr _ 0 _ _ E2.out
      have f1 := frozen_of_row wr _ 1 _ _ E2.out
      have f2 := frozen_of_row wr _ 2 _ _ E2.out
      have f3 := frozen_of_row wr _ 3 _ _ E2.out
      have f4 := frozen_of_row wr _ 4 _ _ E2.out
      have r0 := cell_of_row wr _ 0 _ _ _ E2.out
      have r1 := cell_of_row wr _ 1 _ _ _ E2.out
      have r2 := cell_of_row wr _ 2 _ _ _ E2.out
      have r3 := cell_of_row wr _ 3 _ _ _ E2.out
      have r4 := cell_of_row wr _ 4 _ _ _ E2.out
      simp at r0 r1 r2 r3 r4
      go_wp2
      obtain ⟨X, hX⟩ : ∃ X, ((((wr.setCell ⟨w.heap.size + 1 + 1, 0, none⟩ (.int .i64 (t.P.W : Int))).setCell ⟨w.heap.size + 1 + 1, 1, none⟩ (.int .i64 (t.P.H : Int))).setCell ⟨w.heap.size + 1 + 1, 2, none⟩ (.slice ua ul uc)).setCell ⟨w.heap.size + 1 + 1, 3, none⟩ (.int .i64 t.r)).setCell ⟨w.heap.size + 1 + 1, 4, none⟩ (.int .i64 t.d) = X := ⟨_, rfl⟩
      have GX := five_stored E2.out (.int .i64 (t.P.W : Int)) (.int .i64 (t.P.H : Int)) (.slice ua ul uc) (.int .i64 t.r) (.int .i64 t.d)
      rw [hX] at GX ⊢
      have m0 := cell_of_row X _ 0 _ _ _ GX
      have m1 := cell_of_row X _ 1 _ _ _ GX
      have m2 := cell_of_row X _ 2 _ _ _ GX
      have m3 := cell_of_row X _ 3 _ _ _ GX
      have m4 := cell_of_row X _ 4 _ _ _ GX
      simp at m0 m1 m2 m3 m4
      have pq := HT.out.pq
      have BX : Below w.heap.size w X := by rw [← hX]; exact five_belowH HT.out.below (by omega) _ _ _ _ _
      refine bodyPost_ret (v := .agg #[.int .i64 (t.P.W : Int), .int .i64 (t.P.H : Int), .slice ua ul uc, .int .i64 t.r, .int .i64 t.d]) (by simp [results, Tryz.results12, go_sem, m0, m1, m2, m3, m4]) rfl ?_
      rw [KN.out, JX.out]
      exact ⟨.slice ua ul uc, rfl, tab_keep HT.out.tab (fun g k cap h => by rw [← hX]; exact five_else (by have := (HT.out.fr g k cap h).1; omega) _ _ _ _ _), fun g k c h => Nat.le_trans (by omega) (HT.out.fr g k c h).1, BX⟩
   ·have JE := hide' (JN.out.trans (if_neg f0))
    have t1 : ((A.f : Int) == 0) = false := by simp; omega
    clear f0 PER JN
    go_upto_region 13 with fail
    clear t1
    have SM := hide' (fun (j : Nat) (hj : j ≤ 4096) => it_small (stay := stay) T0.out HB0.out FB.out FO.out.2.1 FO.out.2.2.1 (by have := FO.out.2.2.2; omega) hj)
    have BS := hide' FB.out
    go_wp2
    go_loopw [13] (fun iv wr => ∃ (i : Nat) (v : Value), iv = .int .i64 (i : Int) ∧ i ≤ N ∧ Hid (JG w w4 wr p (itG born stay i s0) v)) (fun iv _ => N - (intOf iv).toNat)
    case atStart => exact ⟨0, _, rfl, by omega, J8⟩
    case round =>
     obtain ⟨j, v, rfl, hj, HT⟩ := hrel
     have sm := SM.out j (by omega)
     obtain ⟨t, ht⟩ : ∃ t, itG born stay j s0 = t := ⟨_, rfl⟩
     have NX := hide' (show itG born stay (j + 1) s0 = nextG born stay t by rw [← ht]; rfl)
     have ST := hide' (fun (z : t.P.W = 0) (k : Nat) => show itG born stay (j + k) s0 = t by rw [← ht]; exact it_stop T0.out BS.out (by rw [ht]; exact z) k)
     rw [ht] at sm HT
     have HTE := hide' ht
     clear ht
     obtain ⟨o1, o2, o3, ⟨o4, o5, o6, o7⟩, o8⟩ := sm
     obtain ⟨ua, uc, rfl, AP⟩ := tab_arg HT.out.tab (by unfold maxLen; omega)
     have HO := hide' o1
     obtain ⟨ul, hul⟩ : ∃ l, t.P.xs.length = l := ⟨_, rfl⟩
     rw [hul] at HT AP o8
     have HUL := hide' hul
     clear hul o1
     have AP' := hide' AP
     clear AP
     have q0 := cell_of_row wr _ 0 _ _ _ HT.out.blk
     have q1 := cell_of_row wr _ 1 _ _ _ HT.out.blk
     have q2 := cell_of_row wr _ 2 _ _ _ HT.out.blk
     have q3 := cell_of_row wr _ 3 _ _ _ HT.out.blk
     have q4 := cell_of_row wr _ 4 _ _ _ HT.out.blk
     simp at q0 q1 q2 q3 q4
     have E2 := hide' ((HT.out.keep _ (by omega)).trans G2.out)
     have ne5 : ¬ p = w.heap.size + 1 + 1 := by have := HT.out.pq; omega
     have ne6 : ¬ w.heap.size + 1 + 1 = p := by have := HT.out.pq; omega
     by_cases dj : j < N
     ·have d1 : (j : Int) < (N : Int) := by omega
      by_cases uz : t.P.W = 0
      ·have t3 : ¬ (0 : Int) < (t.P.W : Int) := by omega
       have JX := hide' (show jpG born stay s0 N = t by rw [JE.out]; have := ST.out uz (N - j); rw [show j + (N - j) = N by omega] at this; exact this)
       clear uz
       have f0 := frozen_of_row wr _ 0 _ _ E2.out
       have f1 := frozen_of_row wr _ 1 _ _ E2.out
       have f2 := frozen_of_row wr _ 2 _ _ E2.out
       have f3 := frozen_of_row wr _ 3 _ _ E2.out
       have f4 := frozen_of_row wr _ 4 _ _ E2.out
       have r0 := cell_of_row wr _ 0 _ _ _ E2.out
       have r1 := cell_of_row wr _ 1 _ _ _ E2.out
       have r2 := cell_of_row wr _ 2 _ _ _ E2.out
       have r3 := cell_of_row wr _ 3 _ _ _ E2.out
       have r4 := cell_of_row wr _ 4 _ _ _ E2.out
       simp at r0 r1 r2 r3 r4
       go_wp2
       obtain ⟨X, hX⟩ : ∃ X, ((((wr.setCell ⟨w.heap.size + 1 + 1, 0, none⟩ (.int .i64 (t.P.W : Int))).setCell ⟨w.heap.size + 1 + 1, 1, none⟩ (.int .i64 (t.P.H : Int))).setCell ⟨w.heap.size + 1 + 1, 2, none⟩ (.slice ua ul uc)).setCell ⟨w.heap.size + 1 + 1, 3, none⟩ (.int .i64 t.r)).setCell ⟨w.heap.size + 1 + 1, 4, none⟩ (.int .i64 t.d) = X := ⟨_, rfl⟩
       have GX := five_stored E2.out (.int .i64 (t.P.W : Int)) (.int .i64 (t.P.H : Int)) (.slice ua ul uc) (.int .i64 t.r) (.int .i64 t.d)
       rw [hX] at GX ⊢
       have m0 := cell_of_row X _ 0 _ _ _ GX
       have m1 := cell_of_row X _ 1 _ _ _ GX
       have m2 := cell_of_row X _ 2 _ _ _ GX
       have m3 := cell_of_row X _ 3 _ _ _ GX
       have m4 := cell_of_row X _ 4 _ _ _ GX
       simp at m0 m1 m2 m3 m4
       have pq := HT.out.pq
       have BX : Below w.heap.size w X := by rw [← hX]; exact five_belowH HT.out.below (by omega) _ _ _ _ _
       refine bodyPost_ret (v := .agg #[.int .i64 (t.P.W : Int), .int .i64 (t.P.H : Int), .slice ua ul uc, .int .i64 t.r, .int .i64 t.d]) (by simp [results, Tryz.results12, go_sem, m0, m1, m2, m3, m4]) rfl ?_
       rw [KN.out, JX.out]
       exact ⟨.slice ua ul uc, rfl, tab_keep HT.out.tab (fun g k cap h => by rw [← hX]; exact five_else (by have := (HT.out.fr g k cap h).1; omega) _ _ _ _ _), fun g k c h => Nat.le_trans (by omega) (HT.out.fr g k c h).1, BX⟩
      ·have t3 : (0 : Int) < (t.P.W : Int) := by omega
       have NC := hide' (refWide_any kd st ra born stay ta tn tc sb t.P ua ul uc t.r t.d wr HB.out HS.out AP'.out (by rw [← HUL.out]; exact HO.out.len) HO.out.bits o2 o3 (by omega) (by omega) (by omega) (by omega))
       have NL := hide' (SM.out (j + 1) (by omega)).2.2.2.2
       clear uz
       obtain ⟨c0, c1, c2', c3, c4, c5, c6⟩ := RV.out wr HT.out.keep
       go_wp2_with fail
       refine NC.out.mono ?_
       rintro e w7 ⟨v7, rfl, tb7, fr7, b7⟩
       have ue : nextG born stay ⟨t.P, t.r, t.d⟩ = itG born stay (j + 1) s0 := NX.out.symm
       rw [ue] at tb7 ⊢
       clear ue
       obtain ⟨t2, ht2⟩ : ∃ t, itG born stay (j + 1) s0 = t := ⟨_, rfl⟩
       have HT2 := hide' ht2
       rw [ht2] at tb7 NL ⊢
       clear ht2
       obtain ⟨na, nc, rfl, AP7⟩ := tab_arg tb7 (by have := NL.out; unfold maxLen; omega)
       clear AP7
       have H7 := hide' (HT.out.next b7)
       have FR := hide' (show ∀ g k c, Value.slice na t2.P.xs.length nc = .slice (some ⟨g, 0, none⟩) k c → w.heap.size + 1 + 1 + 1 ≤ g ∧ g ≠ p from fun g k c h => by
        have := fr7 g k c h
        have := lt_of_block HT.out.blk
        have := HT.out.pq
        omega)
       have T7 := hide' tb7
       have e7 := H7.out.blk
       have r0 := frozen_of_row w7 _ 0 _ _ e7
       have r1 := frozen_of_row w7 _ 1 _ _ e7
       have r2 := frozen_of_row w7 _ 2 _ _ e7
       have r3 := frozen_of_row w7 _ 3 _ _ e7
       have r4 := frozen_of_row w7 _ 4 _ _ e7
       have x0 := cell_of_row w7 _ 0 _ _ _ e7
       have x1 := cell_of_row w7 _ 1 _ _ _ e7
       have x2 := cell_of_row w7 _ 2 _ _ _ e7
       have x3 := cell_of_row w7 _ 3 _ _ _ e7
       have x4 := cell_of_row w7 _ 4 _ _ _ e7
       simp at x0 x1 x2 x3 x4
       clear tb7 fr7 b7 e7 c0 c1 c2' c3 c4 c5 c6 q0 q1 q2 q3 q4
       unfold gV
       go_wp2
       refine ⟨⟨j + 1, .slice na t2.P.xs.length nc, by go_num, by omega, hide' ?_⟩, by simp [intOf]; omega⟩
       rw [HT2.out]
       exact H7.out.put T7.out FR.out
     ·have d1 : ¬ (j : Int) < (N : Int) := by omega
      have JX := hide' (show jpG born stay s0 N = t by rw [JE.out, ← HTE.out, show j = N by omega])
      have f0 := frozen_of_row wr _ 0 _ _ E2.out
      have f1 := frozen_of_row wr _ 1 _ _ E2.out
      have f2 := frozen_of_row wr _ 2 _ _ E2.out
      have f3 := frozen_of_row wr _ 3 _ _ E2.out
      have f4 := frozen_of_row wr _ 4 _ _ E2.out
      have r0 := cell_of_row wr _ 0 _ _ _ E2.out
      have r1 := cell_of_row wr _ 1 _ _ _ E2.out
      have r2 := cell_of_row wr _ 2 _ _ _ E2.out
      have r3 := cell_of_row wr _ 3 _ _ _ E2.out
      have r4 := cell_of_row wr _ 4 _ _ _ E2.out
      simp at r0 r1 r2 r3 r4
      go_wp2
      obtain ⟨X, hX⟩ : ∃ X, ((((wr.setCell ⟨w.heap.size + 1 + 1, 0, none⟩ (.int .i64 (t.P.W : Int))).setCell ⟨w.heap.size + 1 + 1, 1, none⟩ (.int .i64 (t.P.H : Int))).setCell ⟨w.heap.size + 1 + 1, 2, none⟩ (.slice ua ul uc)).setCell ⟨w.heap.size + 1 + 1, 3, none⟩ (.int .i64 t.r)).setCell ⟨w.heap.size + 1 + 1, 4, none⟩ (.int .i64 t.d) = X := ⟨_, rfl⟩
      have GX := five_stored E2.out (.int .i64 (t.P.W : Int)) (.int .i64 (t.P.H : Int)) (.slice ua ul uc) (.int .i64 t.r) (.int .i64 t.d)
      rw [hX] at GX ⊢
      have m0 := cell_of_row X _ 0 _ _ _ GX
      have m1 := cell_of_row X _ 1 _ _ _ GX
      have m2 := cell_of_row X _ 2 _ _ _ GX
      have m3 := cell_of_row X _ 3 _ _ _ GX
      have m4 := cell_of_row X _ 4 _ _ _ GX
      simp at m0 m1 m2 m3 m4
      have pq := HT.out.pq
      have BX : Below w.heap.size w X := by rw [← hX]; exact five_belowH HT.out.below (by omega) _ _ _ _ _
      refine bodyPost_ret (v := .agg #[.int .i64 (t.P.W : Int), .int .i64 (t.P.H : Int), .slice ua ul uc, .int .i64 t.r, .int .i64 t.d]) (by simp [results, Tryz.results12, go_sem, m0, m1, m2, m3, m4]) rfl ?_
      rw [KN.out, JX.out]
      exact ⟨.slice ua ul uc, rfl, tab_keep HT.out.tab (fun g k cap h => by rw [← hX]; exact five_else (by have := (HT.out.fr g k cap h).1; omega) _ _ _ _ _), fun g k c h => Nat.le_trans (by omega) (HT.out.fr g k c h).1, BX⟩
end Go.Proofs.YtemhcpldflcfbaaGreatDoor
