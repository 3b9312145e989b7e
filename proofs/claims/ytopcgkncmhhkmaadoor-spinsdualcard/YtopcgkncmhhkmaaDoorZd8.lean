/-
  What the last text of this claim leans on, part 8: Ss6, Ss7.
-/
import Derived.Test.YtopcgkncmhhkmaaDoorZd7
import Derived.Deep.RegionHeld3
import Derived.Deep.DeepCutAuto
namespace Go.Proofs.YtopcgkncmhhkmaaDoor
open Go.RowKit
set_option linter.unusedVariables false
set_option linter.unusedSimpArgs false
theorem in_le (W : Nat) (rg : Bool) (r : Nat) : inG W rg r ≤ W := by unfold inG; split <;> exact cnt_le _ _
theorem df_le (W a b : Nat) : dfD W a b ≤ W := cnt_le _ _
theorem pow30 {W y H : Nat} (hN : W * H ≤ 30) (hy : y ≤ H) : 2 ^ (W * y) ≤ 1073741824 := Nat.le_trans (Nat.pow_le_pow_right (by decide) (Nat.le_trans (Nat.mul_le_mul_left W hy) hN)) (by decide)
set_option maxRecDepth 100000 in
set_option maxHeartbeats 6400000 in
theorem below_any (W H f : Nat) (rg : Bool) (w : World) (h1 : 1 ≤ W) (hW : W ≤ 6) (h3 : 1 ≤ H) (hH : H ≤ 6) (hN : W * H ≤ 30) (hf : f < 2 ^ W) : Calls Tryd.prog 25 #[.agg #[.int .i64 (W : Int), .int .i64 (H : Int), .bool rg], .int .i64 (f : Int)] w (TbO w (2 ^ W) (prG W H rg + 1) (fun r k => nwG W rg f (H - 1) r k)) := by
  have NC := hide' (fun V => none_anyS W H rg V h1 hW h3 hH)
  have WC := hide' (fun r (hr : r < 2 ^ W) V => within_anyS W H r rg V h1 hW hH hr)
  have UC := hide' (fun a b (ha : a < 2 ^ W) (hb : b < 2 ^ W) V => unlike_anyS W a b V (by omega) ha hb)
  have pl := pr_le72 (W := W) (H := H) rg h1 hW h3 hH
  have ml := two_le6 hW
  have FST := hide' (fun r k => nw_first (W := W) (ring := rg) (f := f) (r := r) (k := k) hf)
  have INP := hide' (show inG W rg f ≤ prG W H rg from nw_pairs (f := f) (y := 0) (r := f) (k := inG W rg f) (ring := rg) h1 hW (by omega) hH (by rw [nw_first hf, if_pos ⟨rfl, rfl⟩]; decide))
  have NTL := hide' (fun y t a k (hy : y + 2 ≤ H) (ht : t < 2 ^ W) (ha : a ≤ 2 ^ W) => Nat.le_trans (nt_le (W := W) (ring := rg) (f := f) (y := y) (t := t) (a := a) (k := k) ht ha) (pow30 hN hy))
  have NWL := hide' (fun y r k (hy : y + 1 ≤ H) => Nat.le_trans (nw_le W rg f y r k) (pow30 hN hy))
  have ROM := hide' (fun y t a k (hy : y + 2 ≤ H) (ht : t < 2 ^ W) (ha : a < 2 ^ W) (h : nwG W rg f y a k ≠ 0) => nt_room (H := H) (t := t) h1 hW hy hH ht ha h)
  have NTF := hide' (fun y t k (ht : t < 2 ^ W) => nt_full (W := W) (ring := rg) (f := f) (y := y) (t := t) (k := k) ht)
  have MP := hide' (two_pos W)
  obtain ⟨M, hM⟩ : ∃ M, 2 ^ W = M := ⟨_, rfl⟩
  obtain ⟨P, hP⟩ : ∃ P, prG W H rg = P := ⟨_, rfl⟩
  rw [hP] at pl NC ROM INP
  rw [hM] at ml MP NC WC UC NTL ROM NTF hf
  rw [hM, hP]
  obtain ⟨L, hL⟩ : ∃ L, P + 1 = L := ⟨_, rfl⟩
  rw [hL] at NC ⊢
  have l100 : L ≤ 100 := by omega
  have HP := hide' (And.intro hM (And.intro hP hL))
  clear hM hP
  obtain ⟨H', eH⟩ : ∃ v, H - 1 = v := ⟨_, rfl⟩
  have EH : (H : Int) - 1 = (H' : Int) := by omega
  rw [eH]
  obtain ⟨w0, hw0⟩ : ∃ w0, w.alloc (.cells #[.int .i64 (W : Int), .int .i64 (H : Int), .bool rg] 37) = w0 := ⟨_, rfl⟩
  have nb : NtB w0 w.heap.size W H rg := by rw [← hw0]; exact heap_alloc_new _ _
  have B0 := hide' (show Below w.heap.size w w0 by rw [← hw0]; exact below_box _ _)
  have z0 := hide' (show w.heap.size < w0.heap.size by rw [← hw0]; simp)
  obtain ⟨d0, d1, d2⟩ := nb.cell
  have NB := hide' nb
  have EF := hide' (And.intro eH hL)
  clear nb eH hL
  go_enter Tryd.func25, Tryd.ntmps25
  go_wp2_with fail
  refine (NC.out w0).mono ?_
  rintro o w2 ⟨tb, q, rfl, t2, b2⟩
  have N2 := hide' (NB.out.below b2 NB.out.lt)
  have B2 := hide' (B0.out.trans (b2.mono B0.out.size))
  have T2 := hide' t2
  clear d0 d1 d2 t2 b2
  have f0 : (0 : Int) ≤ (f : Int) := by omega
  have fM : (f : Int) < (M : Int) := by omega
  have SV := hide' (fun (V : World) (h : Below w2.heap.size w2 V) => show V.cell? ⟨tb, f, none⟩ = some (.slice (some ⟨q f, 0, none⟩) L L) ∧ V.cell? ⟨w.heap.size, 0, none⟩ = some (.int .i64 (W : Int)) ∧ V.cell? ⟨w.heap.size, 1, none⟩ = some (.int .i64 (H : Int)) ∧ V.cell? ⟨w.heap.size, 2, none⟩ = some (.bool rg) from ⟨(T2.out.below (B := 0) h).cell hf hf, (N2.out.below h N2.out.lt).cell⟩)
  have QF := hide' (T2.out.rows f hf)
  have SS := hide' (fun (V : World) (h : Below w2.heap.size w2 V) k v => show (V.setCell ⟨q f, k, none⟩ v).cell? ⟨tb, f, none⟩ = some (.slice (some ⟨q f, 0, none⟩) L L) ∧ (V.setCell ⟨q f, k, none⟩ v).cell? ⟨w.heap.size, 0, none⟩ = some (.int .i64 (W : Int)) ∧ (V.setCell ⟨q f, k, none⟩ v).cell? ⟨w.heap.size, 1, none⟩ = some (.int .i64 (H : Int)) ∧ (V.setCell ⟨q f, k, none⟩ v).cell? ⟨w.heap.size, 2, none⟩ = some (.bool rg) from by
    have nw : NtB (V.setCell ⟨q f, k, none⟩ v) w.heap.size W H rg := (set_other (by have := QF.out; have := z0.out; omega)).trans (N2.out.below h N2.out.lt)
    refine ⟨?_, nw.cell⟩
    have := (T2.out.below (B := 0) h)
    have c := (this.blk.keep (V' := V.setCell ⟨q f, k, none⟩ v) (set_other (this.ne hf))).cell hf
    unfold tbV at c
    rw [if_pos hf] at c
    exact c)
  obtain ⟨k, hk⟩ : ∃ k, inG W rg f = k := ⟨_, rfl⟩
  have WF := hide' (fun V => WC.out f hf V)
  rw [hk] at WF INP FST
  have kl : k < L := by have := EF.out.2; have := INP.out; omega
  have k0 : (0 : Int) ≤ (k : Int) := by omega
  have klI : (k : Int) < (L : Int) := by omega
  have RF := hide' (fun (V : World) (h : Below w2.heap.size w2 V) => (T2.out.below (B := 0) h).row f hf)
  clear hk
  go_upto_region 2 with fail
  go_region_held3 (fun V => V.cell? ⟨tb, f, none⟩ = some (.slice (some ⟨q f, 0, none⟩) L L) ∧ V.cell? ⟨w.heap.size, 0, none⟩ = some (.int .i64 (W : Int)) ∧ V.cell? ⟨w.heap.size, 1, none⟩ = some (.int .i64 (H : Int)) ∧ V.cell? ⟨w.heap.size, 2, none⟩ = some (.bool rg)) (first | exact SV.out _ ((Below.refl _ _).drew) | exact SV.out _ b7' | exact SS.out _ b7' _ _ | exact SV.out _ (Below.refl _ _) | fail) (first | (go_at_call 34; refine (WF.out _).mono ?_; rintro e7 w7 ⟨rfl, b7⟩; have b7' : Below w2.heap.size w2 w7 := (Below.refl w2.heap.size w2).drew.trans b7; have cq := (RF.out w7 b7').cell kl; have fq := (RF.out w7 b7').frozen k; have lq := (RF.out w7 b7').lt; unfold iQ at cq) | fail)
  have T8 := hide' (show TbS (w7.setCell ⟨q f, k, none⟩ (.int .i64 1)) w0.heap.size tb M M L q (fun r k => nwG W rg f 0 r k) from
    ((T2.out.below (B := 0) b7').put hf (f := fun j => if j = k then 1 else 0) (((RF.out w7 b7').set k _).ext fun j _ => by unfold iQ; by_cases e : j = k <;> simp [e]) (fun b hb => set_other hb)).ext fun r _ j _ => by
      rw [FST.out r j]
      by_cases e : r = f
      · by_cases e2 : j = k <;> simp [e, e2]
      · simp [e])
  have N8 := hide' (show NtB (w7.setCell ⟨q f, k, none⟩ (.int .i64 1)) w.heap.size W H rg from (set_other (by have := QF.out; have := z0.out; omega)).trans (N2.out.below b7' N2.out.lt))
  have B8 := hide' (show Below w.heap.size w (w7.setCell ⟨q f, k, none⟩ (.int .i64 1)) from (B2.out.trans (b7'.mono B2.out.size)).setCell (p := ⟨q f, k, none⟩) (by have := QF.out; have := z0.out; show w.heap.size ≤ q f; omega) _)
  obtain ⟨w8, hw8⟩ : ∃ w8, w7.setCell ⟨q f, k, none⟩ (.int .i64 1) = w8 := ⟨_, rfl⟩
  rw [hw8] at T8 N8 B8 ⊢
  clear hw8 cq fq lq b7 b7' SV SS RF T2 N2 B2 QF
  rename_i hh8
  clear hh8
  obtain ⟨d0, d1, d2⟩ := N8.out.cell
  go_wp2
  clear d0 d1 d2
  go_loopw [5, 6, 7, 8, 9, 23] (fun nv _ _ _ _ yv wr => ∃ (y tb : Nat) (q : Nat → Nat), nv = .slice (some ⟨tb, 0, none⟩) M M ∧ yv = .int .i64 (y : Int) ∧ y ≤ H' ∧ Hid (TbS wr w0.heap.size tb M M L q (fun r k => nwG W rg f y r k)) ∧ Hid (NtB wr w.heap.size W H rg) ∧ Hid (Below w.heap.size w wr)) (fun _ _ _ _ _ yv _ => H' - (intOf yv).toNat)
  case atStart => exact ⟨0, tb, q, rfl, rfl, by omega, T8, N8, B8⟩
  case round =>
    clear T8 N8 B8
    obtain ⟨y, tb, q, rfl, rfl, hy, TB, NN, BW⟩ := hrel
    by_cases d : (y : Int) < (H' : Int)
    · have yl : y + 2 ≤ H := by have := EF.out.1; omega
      obtain ⟨V1, rfl⟩ : ∃ V, V = wr := ⟨_, rfl⟩
      obtain ⟨d0, d1, d2⟩ := NN.out.cell
      go_wp2_with fail
      refine (NC.out V1).mono ?_
      rintro o w3 ⟨tb2, q2, rfl, t3, b3⟩
      have T3 := hide' t3
      have B3 := hide' b3
      clear d0 d1 d2 t3 b3
      go_wp2
      go_loopw [7, 8, 9, 29] (fun _ _ _ av wr => ∃ (a : Nat), av = .int .i64 (a : Int) ∧ a ≤ M ∧ Hid (TbS wr V1.heap.size tb2 M M L q2 (fun t k => ntG W rg f y t a k)) ∧ Hid (Below V1.heap.size V1 wr)) (fun _ _ _ av _ => M - (intOf av).toNat)
      case atStart => exact ⟨0, rfl, by omega, hide' (T3.out.ext fun _ _ _ _ => rfl), B3⟩
      case round =>
        obtain ⟨a, rfl, ha, TA, BA⟩ := hrel
        by_cases da : (a : Int) < (M : Int)
        · have al : a < M := by omega
          have a0 : (0 : Int) ≤ (a : Int) := by omega
          have TN := hide' (fun (V : World) (h : Below V1.heap.size V1 V) => TB.out.below (B := 0) h)
          have ca := (TN.out wr BA.out).cell al al
          have lt1 := (TN.out wr BA.out).blk.lt
          obtain ⟨V2, rfl⟩ : ∃ V, V = wr := ⟨_, rfl⟩
          go_wp2
          clear ca lt1
          go_loopw [9, 36] (fun _ tv wr => ∃ (t : Nat), tv = .int .i64 (t : Int) ∧ t ≤ M ∧ Hid (TbS wr V1.heap.size tb2 M M L q2 (fun r k => if r < t then ntG W rg f y r (a + 1) k else ntG W rg f y r a k)) ∧ Hid (Below V1.heap.size V1 wr)) (fun _ tv _ => M - (intOf tv).toNat)
          case atStart => exact ⟨0, rfl, by omega, hide' (TA.out.ext fun r _ k _ => by rw [if_neg (by omega)]), BA⟩
          case round =>
            obtain ⟨t, rfl, ht, TT, BT⟩ := hrel
            by_cases dt : (t : Int) < (M : Int)
            · have tl : t < M := by omega
              have t0 : (0 : Int) ≤ (t : Int) := by omega
              have NW := hide' (NN.out.below BT.out NN.out.lt)
              have SV := hide' (fun (V : World) (h : Below wr.heap.size wr V) => show V.cell? ⟨tb2, t, none⟩ = some (.slice (some ⟨q2 t, 0, none⟩) L L) ∧ V.cell? ⟨w.heap.size, 0, none⟩ = some (.int .i64 (W : Int)) ∧ V.cell? ⟨w.heap.size, 1, none⟩ = some (.int .i64 (H : Int)) ∧ V.cell? ⟨w.heap.size, 2, none⟩ = some (.bool rg) from ⟨(TT.out.below (B := 0) h).cell tl tl, (NW.out.below h NW.out.lt).cell⟩)
              have QT := hide' (TT.out.rows t tl)
              have NQ := hide' (show w.heap.size ≠ q2 t by have := QT.out; have := NN.out.lt; omega)
              have SS := hide' (fun (V V' : World) (h : Below wr.heap.size wr V) (h2 : ∀ b, b ≠ q2 t → V'.heap[b]? = V.heap[b]?) => show V'.cell? ⟨tb2, t, none⟩ = some (.slice (some ⟨q2 t, 0, none⟩) L L) ∧ V'.cell? ⟨w.heap.size, 0, none⟩ = some (.int .i64 (W : Int)) ∧ V'.cell? ⟨w.heap.size, 1, none⟩ = some (.int .i64 (H : Int)) ∧ V'.cell? ⟨w.heap.size, 2, none⟩ = some (.bool rg) from by
                have nw : NtB V' w.heap.size W H rg := (h2 _ NQ.out).trans (NW.out.below h NW.out.lt)
                refine ⟨?_, nw.cell⟩
                have := (TT.out.below (B := 0) h)
                have c := (this.blk.keep (V' := V') (h2 _ (this.ne tl))).cell tl
                unfold tbV at c
                rw [if_pos tl] at c
                exact c)
              have UU := hide' (fun V => UC.out a t al tl V)
              have WW := hide' (fun V => WC.out t tl V)
              have NXT := hide' (fun k => nt_next (W := W) (ring := rg) (f := f) (y := y) (t := t) (a := a) (k := k))
              have RM := hide' (fun k => ROM.out y t a k yl tl al)
              have xl := df_le W a t
              have zl := in_le W rg t
              obtain ⟨x, hx⟩ : ∃ x, dfD W a t = x := ⟨_, rfl⟩
              obtain ⟨z, hz⟩ : ∃ x, inG W rg t = x := ⟨_, rfl⟩
              rw [hx] at UU xl
              rw [hz] at WW zl
              simp only [hx, hz] at NXT RM
              obtain ⟨p, hp⟩ : ∃ p, z + x = p := ⟨_, rfl⟩
              rw [hp] at NXT RM
              have ep : (x : Int) + (z : Int) = (p : Int) := by omega
              have wp' : IntKind.i64.wrap ((x : Int) + (z : Int)) = (p : Int) := by rw [ep]; exact wrap_i64S (by omega)
              have p100 : p ≤ 100 := by omega
              have wpp : IntKind.i64.wrap (p : Int) = (p : Int) := wrap_i64S (by omega)
              clear hx hz hp
              have AD := hide' (fun (V : World) (h : Below wr.heap.size wr V) => add_anyS (q2 t) (q a) L p V1.heap.size (fun k => ntG W rg f y t a k) (fun k => nwG W rg f y a k) V l100 p100 (((TT.out.below (B := 0) h).row t tl).ext fun k _ => by simp [iQ]) ((TN.out V (BT.out.trans (h.mono BT.out.size))).row a al) (by have := QT.out; have := (TB.out.row a al).lt; omega) QT.out
                (fun k hk h0 => by have := RM.out k h0; have := EF.out.2; omega) (fun k _ => NTL.out y t a k yl tl ha) (fun k _ => NWL.out y a k (by omega)))
              clear RM
              go_upto_region 12 with fail
              go_region_held3 (fun V => V.cell? ⟨tb2, t, none⟩ = some (.slice (some ⟨q2 t, 0, none⟩) L L) ∧ V.cell? ⟨w.heap.size, 0, none⟩ = some (.int .i64 (W : Int)) ∧ V.cell? ⟨w.heap.size, 1, none⟩ = some (.int .i64 (H : Int)) ∧ V.cell? ⟨w.heap.size, 2, none⟩ = some (.bool rg)) (first | exact SS.out _ _ b7' K9 | exact SV.out _ b7' | exact SV.out _ ((Below.refl _ _).drew) | exact SV.out _ (Below.refl _ _) | fail) (first | (go_at_call 35; refine (UU.out _).mono ?_; rintro e6 w6 ⟨rfl, rfl⟩) | (go_at_call 34; refine (WW.out _).mono ?_; rintro e7 w7 ⟨rfl, b7⟩; have b7' : Below wr.heap.size wr w7 := (Below.refl wr.heap.size wr).drew.trans b7) | (go_at_call 26; refine (AD.out _ b7').mono ?_; rintro e9 w9 ⟨rfl, A9, K9, B9⟩) | fail)
              have T9 := hide' (((TT.out.below (B := 0) b7').put tl A9 K9).ext (F' := fun r k => if r < t + 1 then ntG W rg f y r (a + 1) k else ntG W rg f y r a k) fun r _ k _ => by
                by_cases e : r = t
                · rw [if_pos e, if_pos (by omega), e, NXT.out k]
                · rw [if_neg e]
                  by_cases e2 : r < t
                  · rw [if_pos e2, if_pos (by omega)]
                  · rw [if_neg e2, if_neg (by omega)])
              have B10 := hide' ((BT.out.trans (b7'.mono BT.out.size)).trans B9)
              clear A9 K9 B9 b7 b7' SV SS AD NXT
              rename_i hh9
              clear hh9
              go_wp2
              exact ⟨⟨t + 1, by go_num, by omega, T9, B10⟩, by simp [intOf]; omega⟩
            · obtain rfl : t = M := by omega
              have T9 := hide' (TT.out.ext (F' := fun r k => ntG W rg f y r (a + 1) k) fun r hr k _ => by rw [if_pos hr])
              go_wp2
              exact ⟨⟨a + 1, by go_num, by omega, T9, BT⟩, by simp [intOf]; omega⟩
        · obtain rfl : a = M := by omega
          have T9 := hide' (show TbS wr w0.heap.size tb2 a a L q2 (fun r k => nwG W rg f (y + 1) r k) from by
            have h := TA.out.ext (F' := fun r k => nwG W rg f (y + 1) r k) fun r hr k _ => NTF.out y r k hr
            have le : w0.heap.size ≤ V1.heap.size := Nat.le_trans TB.out.at' (Nat.le_of_lt TB.out.blk.lt)
            exact ⟨h.blk, h.row, h.inj, Nat.le_trans le h.at', fun r hr => Nat.le_trans le (h.rows r hr)⟩)
          have N9 := hide' (NN.out.below BA.out NN.out.lt)
          have B9 := hide' (BW.out.trans (BA.out.mono BW.out.size))
          go_wp2
          exact ⟨⟨y + 1, tb2, q2, rfl, by go_num, by omega, T9, N9, B9⟩, by simp [intOf]; omega⟩
    · obtain rfl : y = H' := by omega
      have T9 := hide' (show TbS wr w.heap.size tb M M L q (fun r k => nwG W rg f y r k) from by
        have h := TB.out
        have le := Nat.le_of_lt z0.out
        exact ⟨h.blk, h.row, h.inj, Nat.le_trans le h.at', fun r hr => Nat.le_trans le (h.rows r hr)⟩)
      go_wp2
      go_ret
      exact ⟨tb, q, rfl, T9.out, BW.out⟩
end Go.Proofs.YtopcgkncmhhkmaaDoor

namespace Go.Proofs.YtopcgkncmhhkmaaDoor
open Go.RowKit
set_option linter.unusedVariables false
set_option linter.unusedSimpArgs false
/-- A row of numbers that is handed back. -/
def RoO (w : World) (L : Nat) (F : Nat → Nat) (e : Ending) (w' : World) : Prop := ∃ g, e = .returned (.slice (some ⟨g, 0, none⟩) L L) ∧ ArV w' g L 3 (iQ F) ∧ w.heap.size ≤ g ∧ Below w.heap.size w w'
set_option maxRecDepth 100000 in
set_option maxHeartbeats 6400000 in
theorem netCounts_any (W H : Nat) (rg : Bool) (w : World) (h1 : 1 ≤ W) (hW : W ≤ 6) (h3 : 1 ≤ H) (hH : H ≤ 6) (hN : W * H ≤ 30) : Calls Tryd.prog 16 #[.agg #[.int .i64 (W : Int), .int .i64 (H : Int), .bool rg]] w (RoO w (prG W H rg + 1) (wayN (wgU W H rg) (W * H))) := by
  have PC := hide' (fun V => pairs_any W H rg V h1 hW h3 hH)
  have BC := hide' (fun f (hf : f < 2 ^ W) V => below_any W H f rg V h1 hW h3 hH hN hf)
  have CC := hide' (fun f r (hf : f < 2 ^ W) (hr : r < 2 ^ W) V => closing_any W H f r rg V (by omega) hf hr)
  have pl := pr_le72 (W := W) (H := H) rg h1 hW h3 hH
  have ml := two_le6 hW
  have cp := pow_cast W
  obtain ⟨y, rfl⟩ : ∃ y, H = y + 1 := ⟨H - 1, by omega⟩
  have FUL := hide' (fun k => ot_full (W := W) (ring := rg) (y := y) (k := k) (by omega))
  have OTL := hide' (fun f r k (hf : f < 2 ^ W) (hr : r ≤ 2 ^ W) => Nat.le_trans (ot_le (W := W) (ring := rg) (y := y) (k := k) (by omega) hf hr) (pow30 hN (Nat.le_refl _)))
  have NWL := hide' (fun f r k => Nat.le_trans (nw_le W rg f y r k) (pow30 hN (Nat.le_refl _)))
  have ROM := hide' (fun f r k (h : nwG W rg f y r k ≠ 0) => nw_last (W := W) (ring := rg) h1 h)
  have OVR := hide' (fun f k => ot_over W rg y f k)
  have CLL := hide' (fun r f => show clG W rg r f ≤ W by unfold clG; split; exact df_le _ _ _; exact Nat.zero_le _)
  have MP := hide' (two_pos W)
  obtain ⟨M, hM⟩ : ∃ M, 2 ^ W = M := ⟨_, rfl⟩
  obtain ⟨P, hP⟩ : ∃ P, prG W (y + 1) rg = P := ⟨_, rfl⟩
  rw [hP] at pl PC BC ROM
  rw [hM] at ml MP BC CC cp FUL OTL OVR
  rw [hP]
  obtain ⟨L, hL⟩ : ∃ L, P + 1 = L := ⟨_, rfl⟩
  rw [hL] at BC ⊢
  have eL : (P : Int) + 1 = (L : Int) := by omega
  have l100 : L ≤ 100 := by omega
  have s1 : wrap64 ((2 : Int) ^ W) = (M : Int) := by rw [← cp]; exact wrap_natS (by omega)
  have HP := hide' (And.intro hM (And.intro hP hL))
  have EL := hide' hL
  clear hM hP hL cp
  have MI := hide' (fun V => mk_intsQ L (by omega) V)
  have Y1 := hide' (show y + 1 - 1 = y by omega)
  rw [Y1.out] at BC
  obtain ⟨H, hH'⟩ : ∃ H, y + 1 = H := ⟨_, rfl⟩
  rw [hH'] at PC BC CC FUL ⊢
  clear h3 hH hN
  have HH := hide' hH'
  clear hH'
  obtain ⟨w0, hw0⟩ : ∃ w0, w.alloc (.cells #[.int .i64 (W : Int), .int .i64 (H : Int), .bool rg] 37) = w0 := ⟨_, rfl⟩
  have nb : NtB w0 w.heap.size W H rg := by rw [← hw0]; exact heap_alloc_new _ _
  have B0 := hide' (show Below w.heap.size w w0 by rw [← hw0]; exact below_box _ _)
  have z0 := hide' (show w.heap.size < w0.heap.size by rw [← hw0]; simp)
  obtain ⟨d0, d1, d2⟩ := nb.cell
  have NB := hide' nb
  clear nb
  go_enter Tryd.func16, Tryd.ntmps16
  go_wp2_with fail
  refine (PC.out w0).mono ?_
  rintro o w3 ⟨rfl, b3⟩
  have B3 := hide' b3
  have mk := MI.out w3
  obtain ⟨w4, hw4⟩ : ∃ w4, w3.alloc (.cells (arrQ L (iQ fun _ => 0)) 3) = w4 := ⟨_, rfl⟩
  have R4 := hide' (show ArV w4 w3.heap.size L 3 (iQ fun _ => 0) by rw [← hw4]; exact heap_alloc_new _ _)
  have B4 := hide' (show Below w3.heap.size w3 w4 by rw [← hw4]; exact below_box _ _)
  have B5 := hide' (show Below w.heap.size w w4 from (B0.out.trans (B3.out.mono B0.out.size)).trans (B4.out.mono (Nat.le_trans B0.out.size B3.out.size)))
  have N4 := hide' ((NB.out.below B3.out NB.out.lt).below B4.out (NB.out.below B3.out NB.out.lt).lt)
  have OB := hide' (show w.heap.size < w3.heap.size from Nat.lt_of_lt_of_le z0.out B3.out.size)
  rw [hw4] at mk
  obtain ⟨d0', d1', d2'⟩ := N4.out.cell
  obtain ⟨ob, hob⟩ : ∃ ob, w3.heap.size = ob := ⟨_, rfl⟩
  rw [hob] at mk R4 OB
  clear hw4 b3 d0 d1 d2 B4 hob
  go_wp2
  try rw [s1]
  clear s1 mk d0' d1' d2' B3 B0 NB
  go_loopw [4, 5, 6, 14] (fun _ _ _ fv wr => ∃ (f : Nat), fv = .int .i64 (f : Int) ∧ f ≤ M ∧ Hid (ArV wr ob L 3 (iQ (otG W rg y f 0))) ∧ Hid (NtB wr w.heap.size W H rg) ∧ Hid (Below w.heap.size w wr)) (fun _ _ _ fv _ => M - (intOf fv).toNat)
  case atStart => exact ⟨0, rfl, by omega, hide' (R4.out.ext fun k _ => by unfold iQ; rw [ot_zero]), N4, B5⟩
  case round =>
    obtain ⟨f, rfl, hf, AF, NF, BF⟩ := hrel
    by_cases df : (f : Int) < (M : Int)
    · have fl : f < M := by omega
      obtain ⟨V1, rfl⟩ : ∃ V, V = wr := ⟨_, rfl⟩
      obtain ⟨d0, d1, d2⟩ := NF.out.cell
      go_wp2_with fail
      refine (BC.out f fl V1).mono ?_
      rintro o w6 ⟨tb, q, rfl, t6, b6⟩
      have T6 := hide' t6
      have B6 := hide' b6
      have A6 := hide' (AF.out.below b6 AF.out.lt)
      have N6 := hide' (NF.out.below b6 NF.out.lt)
      have OC := hide' AF.out.lt
      clear d0 d1 d2 t6 b6
      go_wp2
      go_loopw [5, 6, 21] (fun _ _ rv wr => ∃ (r : Nat), rv = .int .i64 (r : Int) ∧ r ≤ M ∧ Hid (ArV wr ob L 3 (iQ (otG W rg y f r))) ∧ Hid (TbS wr V1.heap.size tb M M L q (fun r k => nwG W rg f y r k)) ∧ Hid (NtB wr w.heap.size W H rg) ∧ Hid (Below w.heap.size w wr)) (fun _ _ rv _ => M - (intOf rv).toNat)
      case atStart => exact ⟨0, rfl, by omega, A6, T6, N6, hide' (BF.out.trans (B6.out.mono BF.out.size))⟩
      case round =>
        obtain ⟨r, rfl, hr, AR, TR, NR, BR⟩ := hrel
        by_cases dr : (r : Int) < (M : Int)
        · have rl : r < M := by omega
          have r0 : (0 : Int) ≤ (r : Int) := by omega
          have cr := TR.out.cell rl rl
          have lt := TR.out.blk.lt
          obtain ⟨d0, d1, d2⟩ := NR.out.cell
          have NXT := hide' (fun k => ot_next W rg y f r k)
          have RM := hide' (fun k => ROM.out f r k)
          have cl := CLL.out r f
          have CL := hide' (CC.out f r fl rl wr)
          obtain ⟨p, hp⟩ : ∃ p, clG W rg r f = p := ⟨_, rfl⟩
          simp only [hp] at NXT RM
          rw [hp] at cl CL
          have p100 : p ≤ 100 := by omega
          clear hp
          go_wp2_with fail
          refine CL.out.mono ?_
          rintro o w7 ⟨rfl, b7⟩
          have QR := hide' (TR.out.rows r rl)
          have A7 := hide' (AR.out.below b7 AR.out.lt)
          have T7 := hide' (TR.out.below (B := 0) b7)
          have N7 := hide' (NR.out.below b7 NR.out.lt)
          have B7 := hide' (BR.out.trans (b7.mono BR.out.size))
          have AD := hide' (add_anyS ob (q r) L p w.heap.size (fun k => otG W rg y f r k) (fun k => nwG W rg f y r k) w7 l100 p100 A7.out (T7.out.row r rl) (by have := QR.out; have := OC.out; omega) (Nat.le_of_lt OB.out)
            (fun k hk h0 => by have := RM.out k h0; have := EL.out; omega) (fun k _ => OTL.out f r k fl hr) (fun k _ => NWL.out f r k))
          clear cr lt d0 d1 d2 b7
          go_wp2_with fail
          refine AD.out.mono ?_
          rintro o w9 ⟨rfl, A9, K9, B9⟩
          have A10 := hide' (A9.ext (f' := iQ (otG W rg y f (r + 1))) fun k _ => by unfold iQ; rw [NXT.out k])
          have T10 := hide' (T7.out.keep (V' := w9) fun b hb _ => K9 b (by have := OC.out; omega))
          have N10 := hide' (show NtB w9 w.heap.size W H rg from (K9 _ (by have := OB.out; omega)).trans N7.out)
          have B10 := hide' (B7.out.trans B9)
          clear A9 K9 B9 NXT RM AD
          go_wp2
          exact ⟨⟨r + 1, by go_num, by omega, A10, T10, N10, B10⟩, by simp [intOf]; omega⟩
        · obtain rfl : r = M := by omega
          have A10 := hide' (AR.out.ext (f' := iQ (otG W rg y (f + 1) 0)) fun k _ => by unfold iQ; rw [OVR.out f k])
          go_wp2
          exact ⟨⟨f + 1, by go_num, by omega, A10, NR, BR⟩, by simp [intOf]; omega⟩
    · obtain rfl : f = M := by omega
      have A10 := hide' (AF.out.ext (f' := iQ (wayN (wgU W H rg) (W * H))) fun k _ => by unfold iQ; rw [FUL.out k])
      go_wp2
      go_ret
      exact ⟨ob, rfl, A10.out, Nat.le_of_lt OB.out, BF.out⟩
end Go.Proofs.YtopcgkncmhhkmaaDoor

