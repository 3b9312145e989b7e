/-
  What the last text of this claim leans on, part 13: St4, Sv1.
-/
import Derived.Test.YtopcgkncmhhkmaaDoorZc12
import Derived.Test.YtopcgkncmhhkmaaDoorZc9
import Derived.BigRegion
namespace Go.Proofs.YtopcgkncmhhkmaaDoor
open Go.RowKit
set_option linter.unusedVariables false
set_option linter.unusedSimpArgs false
set_option maxRecDepth 100000 in
set_option maxHeartbeats 6400000 in
theorem groundCounts_any (W H rb : Nat) (cor : Bool) (w : World) (h1 : 1 ≤ W) (hW : W ≤ 6) (h3 : 1 ≤ H) (hH : H ≤ 6) (hN : W * H ≤ 16) (hR : ArV w rb (W * H) 45 (uQ fun a => beD W cor a (W * H))) (hT : TzTab w) : Calls Tryd.prog 21 #[.agg #[.int .u64 ((2 ^ W - 1 : Nat) : Int), .int .u64 (((2 ^ W - 1) * 2 ^ (W * H - W) : Nat) : Int), .slice (some ⟨rb, 0, none⟩) (W * H) (W * H)]] w (RoO w (W * H + 1) (croN W H cor)) := by
  have LC := hide' (fun s (hs : s < 2 ^ (W * H)) V (hV : Below w.heap.size w V) => leads_anyS W H s rb cor V h1 hW h3 hH hN hs (hR.below hV hR.lt) (hT.below hV))
  have OC := hide' (fun s (hs : s < 2 ^ (W * H)) V => oc_any s V (Nat.lt_of_lt_of_le hs (Nat.le_trans (Nat.pow_le_pow_right (by decide) hN) (by decide))))
  have OP := hide' (fun s (hs : s < 2 ^ (W * H)) => oc_pop (W * H) s hN hs)
  have PL := hide' (fun s => pop_le s (W * H))
  have NX := hide' (fun n i => cr_next W H cor n i)
  have CL := hide' (fun n i => cr_le W H cor n i)
  have FN := hide' (fun i => show crP W H cor (2 ^ (W * H)) i = croN W H cor i from rfl)
  have ml : 2 ^ (W * H) ≤ 65536 := Nat.le_trans (Nat.pow_le_pow_right (by decide) hN) (by decide)
  have cp := pow_cast (W * H)
  obtain ⟨fs, hfs⟩ : ∃ fs, 2 ^ W - 1 = fs := ⟨_, rfl⟩
  obtain ⟨ls, hls⟩ : ∃ ls, (2 ^ W - 1) * 2 ^ (W * H - W) = ls := ⟨_, rfl⟩
  rw [hls, hfs] at LC ⊢
  obtain ⟨N, hNN⟩ : ∃ N, W * H = N := ⟨_, rfl⟩
  rw [hNN] at hR LC OC OP PL FN ml cp hN NX ⊢
  obtain ⟨M, hM⟩ : ∃ M, 2 ^ N = M := ⟨_, rfl⟩
  rw [hM] at LC OC OP FN ml cp
  obtain ⟨L, hL⟩ : ∃ L, N + 1 = L := ⟨_, rfl⟩
  rw [hL]
  have eL : (N : Int) + 1 = (L : Int) := by omega
  have s1 : IntKind.u64.wrap ((2 : Int) ^ N) = (M : Int) := by rw [← cp]; exact wrap_u64K (by omega)
  have MI := hide' (fun V => mk_intsQ L (by omega) V)
  have HE := hide' (And.intro hNN (And.intro hM hL))
  clear hfs hls hNN hM hL cp hR hT h1 hW h3 hH
  obtain ⟨w0, hw0⟩ : ∃ x, w.alloc (.cells #[.int .u64 (fs : Int), .int .u64 (ls : Int), .slice (some ⟨rb, 0, none⟩) N N] 48) = x := ⟨_, rfl⟩
  have g0 : GrB w0 w.heap.size fs ls rb N := by rw [← hw0]; exact heap_alloc_new _ _
  have B0 := hide' (show Below w.heap.size w w0 by rw [← hw0]; exact below_box _ _)
  have z0 := hide' (show w.heap.size < w0.heap.size by rw [← hw0]; simp)
  obtain ⟨d0, d1, d2⟩ := g0.cell
  have G0 := hide' g0
  clear g0
  have mk := MI.out w0
  obtain ⟨w1, hw1⟩ : ∃ x, w0.alloc (.cells (arrQ L (iQ fun _ => 0)) 3) = x := ⟨_, rfl⟩
  have R1 := hide' (show ArV w1 w0.heap.size L 3 (iQ fun _ => 0) by rw [← hw1]; exact heap_alloc_new _ _)
  have B1 := hide' (show Below w0.heap.size w0 w1 by rw [← hw1]; exact below_box _ _)
  have B2 := hide' (B0.out.trans (B1.out.mono B0.out.size))
  have G1 := hide' (G0.out.keep (B1.out.block _ G0.out.lt))
  rw [hw1] at mk
  obtain ⟨ob, hob⟩ : ∃ b, w0.heap.size = b := ⟨_, rfl⟩
  rw [hob] at mk R1 z0
  obtain ⟨d0', d1', d2'⟩ := G1.out.cell
  clear hw1 B1 hob
  go_enter Tryd.func21, Tryd.ntmps21
  go_wp2
  clear mk d0 d1 d2 d0' d1' d2' s1
  go_loopw [4, 14] (fun _ sv wr => ∃ (s : Nat), sv = .int .u64 (s : Int) ∧ s ≤ M ∧ Hid (ArV wr ob L 3 (iQ (crP W H cor s))) ∧ Hid (GrB wr w.heap.size fs ls rb N) ∧ Hid (Below w.heap.size w wr)) (fun _ sv _ => M - (intOf sv).toNat)
  case atStart => exact ⟨0, rfl, by omega, R1, G1, B2⟩
  case round =>
    obtain ⟨s, rfl, hs, AR, GR, BR⟩ := hrel
    by_cases d : (s : Int) < (M : Int)
    · have sl : s < M := by omega
      obtain ⟨d0, d1, d2⟩ := GR.out.cell
      have N1 := hide' (fun i => NX.out s i)
      have LS := hide' (LC.out s sl wr BR.out)
      obtain ⟨t, ht⟩ : ∃ t, leaC W H cor s = t := ⟨_, rfl⟩
      rw [ht] at LS
      simp only [ht] at N1
      clear ht
      go_wp2_with fail
      refine LS.out.mono ?_
      rintro o w3 ⟨rfl, b3⟩
      have A3 := hide' (AR.out.below b3 AR.out.lt)
      have G3 := hide' (GR.out.keep (b3.block _ GR.out.lt))
      have B3 := hide' (BR.out.trans (b3.mono BR.out.size))
      clear d0 d1 d2 b3
      cases t with
      | false =>
        have A4 := hide' (A3.out.ext (f' := iQ (crP W H cor (s + 1))) fun k _ => by unfold iQ; rw [N1.out k, if_neg (by decide)])
        go_wp2
        exact ⟨⟨s + 1, by go_num, by omega, A4, G3, B3⟩, by simp [intOf]; omega⟩
      | true =>
        have OS := hide' (OC.out s sl w3)
        rw [OP.out s sl] at OS
        have pl := PL.out s
        obtain ⟨k, hk⟩ : ∃ k, popD s N = k := ⟨_, rfl⟩
        rw [hk] at OS pl
        simp only [hk] at N1
        have kL : k < L := by have := HE.out.2.2; omega
        have k0 : (0 : Int) ≤ (k : Int) := by omega
        have kI : (k : Int) < (L : Int) := by omega
        have ck := A3.out.cell kL
        have fk := A3.out.frozen k
        have lk := A3.out.lt
        unfold iQ at ck
        have vl := CL.out s k
        have A4 := hide' ((A3.out.set k (.int .i64 ((crP W H cor s k + 1 : Nat) : Int))).ext (f' := iQ (crP W H cor (s + 1))) fun j _ => by
          unfold iQ
          rw [N1.out j, if_true]
          by_cases e : j = k
          · rw [if_pos e, if_pos e, e]
          · rw [if_neg e, if_neg e])
        have G4 := hide' (fun v => show GrB (w3.setCell ⟨ob, k, none⟩ v) w.heap.size fs ls rb N from G3.out.keep (set_other (by have := z0.out; omega)))
        have B4 := hide' (fun v => show Below w.heap.size w (w3.setCell ⟨ob, k, none⟩ v) from B3.out.setCell (p := ⟨ob, k, none⟩) (Nat.le_of_lt z0.out) v)
        obtain ⟨v, hv⟩ : ∃ v, crP W H cor s k = v := ⟨_, rfl⟩
        rw [hv] at ck vl A4
        clear hk hv N1
        go_wp2_with fail
        refine OS.out.mono ?_
        rintro o w4 ⟨rfl, rfl⟩
        go_wp2
        exact ⟨⟨s + 1, by go_num, by omega, hide' (by have q := A4.out; simpa using q), hide' (G4.out _), hide' (B4.out _)⟩, by simp [intOf]; omega⟩
    · obtain rfl : s = M := by omega
      have A4 := hide' (AR.out.ext (f' := iQ (croN W H cor)) fun k _ => by unfold iQ; rw [FN.out k])
      go_wp2
      go_ret
      exact ⟨ob, rfl, A4.out, Nat.le_of_lt z0.out, BR.out⟩
set_option maxRecDepth 100000 in
set_option maxHeartbeats 1600000 in
theorem crossings_bad (W H : Int) (cor : Bool) (w : World) (h : ntF W H 16 ≠ 0) : Calls Tryd.prog 11 #[.int .i64 W, .int .i64 H, .bool cor] w (ErO (ntF W H 16) w) := by
  have C := hide' (spinsCheck_any W H 16 w (by decide))
  obtain ⟨f, hf⟩ : ∃ f, ntF W H 16 = f := ⟨_, rfl⟩
  rw [hf] at C h ⊢
  have ef : errOf f = .iface 40 (.int .i64 (f : Int)) := by unfold errOf; rw [if_neg h]
  rw [ef] at C
  clear hf h ef
  go_enter Tryd.func11, Tryd.ntmps11
  go_wp2_with fail
  refine (show Calls Tryd.prog _ #[.int .i64 W, .int .i64 H, .int .i64 16] w _ from C.out).mono ?_
  rintro o w3 ⟨rfl, rfl⟩
  go_wp2
  go_ret2
  exact ⟨rfl, Below.refl _ _⟩
set_option maxRecDepth 100000 in
set_option maxHeartbeats 1600000 in
theorem crossings_ok (W H : Nat) (cor : Bool) (w : World) (h1 : 1 ≤ W) (hW : W ≤ 6) (h3 : 1 ≤ H) (hH : H ≤ 6) (hN : W * H ≤ 16) (hT : TzTab w) : Calls Tryd.prog 11 #[.int .i64 (W : Int), .int .i64 (H : Int), .bool cor] w (RcO w (W * H + 1) (croN W H cor)) := by
  have C := hide' (spinsCheck_any W H 16 w (by decide))
  have n0 : ntF W H 16 = 0 := by
    unfold ntF
    rw [if_neg (by omega), if_neg (by have : (W : Int) * (H : Int) = ((W * H : Nat) : Int) := by { push_cast; rfl }
                                      rw [this]; omega)]
  rw [n0, show errOf 0 = .nilIface from rfl] at C
  have JC := hide' (join_any W H cor w h1 hW h3 hH hN)
  have GC := hide' (fun rb (V : World) (hV : Below w.heap.size w V) hR => groundCounts_any W H rb cor V h1 hW h3 hH hN hR (hT.below hV))
  obtain ⟨fs, hfs⟩ : ∃ fs, 2 ^ W - 1 = fs := ⟨_, rfl⟩
  obtain ⟨ls, hls⟩ : ∃ ls, (2 ^ W - 1) * 2 ^ (W * H - W) = ls := ⟨_, rfl⟩
  rw [hls, hfs] at JC GC
  obtain ⟨N, hNN⟩ : ∃ N, W * H = N := ⟨_, rfl⟩
  rw [hNN] at JC GC ⊢
  obtain ⟨L, hL⟩ : ∃ L, N + 1 = L := ⟨_, rfl⟩
  rw [hL] at GC ⊢
  clear hfs hls hNN hL n0 hN hT
  go_enter Tryd.func11, Tryd.ntmps11
  go_wp2_with fail
  refine (show Calls Tryd.prog _ #[.int .i64 (W : Int), .int .i64 (H : Int), .int .i64 16] w _ from C.out).mono ?_
  rintro o w3 ⟨rfl, rfl⟩
  go_wp2_with fail
  refine JC.out.mono ?_
  rintro o w4 ⟨⟨q, rfl, r4, q4⟩, b4⟩
  go_wp2_with fail
  refine (GC.out q w4 b4 r4).mono ?_
  rintro o w5 ⟨g, rfl, a5, g5, b5⟩
  have A5 := hide' a5
  have B5 := hide' (b4.trans (b5.mono b4.size))
  have G5 := hide' (Nat.le_trans b4.size g5)
  clear a5 g5 b5 b4 r4 q4
  go_wp2
  go_ret2
  exact ⟨g, rfl, A5.out, G5.out, B5.out⟩
end Go.Proofs.YtopcgkncmhhkmaaDoor

namespace Go.Proofs.YtopcgkncmhhkmaaDoor
open Go.RowKit
set_option linter.unusedVariables false
set_option linter.unusedSimpArgs false
theorem adP_end {f c : Nat → Nat} {p i L k : Nat} (hk : k < L) (h : L ≤ i + p) : adP f c p i k = f k + shR c p k := by
  unfold adP shR
  by_cases q : p ≤ k
  · rw [if_pos q, if_pos ⟨q, by omega⟩]
  · rw [if_neg q, if_neg (fun h => q h.1)]
theorem adP_row (f c : Nat → Nat) (p i k : Nat) : (if k = i + p then f (i + p) + c i else adP f c p i k) = adP f c p (i + 1) k := by
  rw [adP_next]
  by_cases e : k = i + p
  · rw [if_pos e, if_pos e, e, adP_at]
  · rw [if_neg e, if_neg e]
theorem adP_atJ {f c : Nat → Nat} {p i j : Nat} (h : j = i + p) : adP f c p i j = f j := by rw [h, adP_at]
theorem adP_rowJ {f c : Nat → Nat} {p i j : Nat} (h : j = i + p) (k : Nat) : (if k = j then f j + c i else adP f c p i k) = adP f c p (i + 1) k := by rw [h, adP_row]
theorem wi_any (W r : Nat) (ring : Bool) (w : World) (hW1 : 1 ≤ W) (hW : W ≤ 6) (hr : r < 2 ^ W) : Calls Tryd.prog 18 #[.int .i64 (W : Int), .int .i64 (r : Int), .bool ring] w fun e w' => e = .returned (.int .i64 (inG W ring r : Int)) ∧ w' = w := by
  rw [← wiN_is hW1]
  exact refWithin_any W r ring w hW1 hW (by have := two_le6 hW; omega)
theorem un_any (W a b : Nat) (w : World) (hW : W ≤ 6) (ha : a < 2 ^ W) (hb : b < 2 ^ W) : Calls Tryd.prog 19 #[.int .i64 (a : Int), .int .i64 (b : Int)] w fun e w' => e = .returned (.int .i64 (dfD W a b : Int)) ∧ w' = w := by
  rw [← unB_df (by omega) ha hb]
  exact refUnlike_any a b w (by have := two_le6 hW; omega) (by have := two_le6 hW; omega)
end Go.Proofs.YtopcgkncmhhkmaaDoor

