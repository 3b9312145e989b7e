/-
  What the last text of this claim leans on, part 14: Li8, Li9.
-/
import Derived.Test.YtdhbdkkchobinaaJz8
import Derived.Test.YtdhbdkkchobinaaJz13
import Derived.Test.YtdhbdkkchobinaaJz3
namespace Go.Proofs.Ytdhbdkkchobinaa
open Go.RowKit
set_option linter.unusedVariables false

set_option maxRecDepth 100000 in
set_option maxHeartbeats 1600000 in
theorem layOut_none (R : Nat) (v : Value) (w : World) :
    Calls Try.prog 45 #[.slice none 0 0, v, .int .i64 (R : Int)] w fun e w' => e = .returned (.tuple #[]) ∧ w' = w := by
  go_enter Try.func45, Try.ntmps45
  go_wp2
  refine bodyPost_ret (v := .tuple #[]) (by simp [results, Try.results45, go_sem]) rfl ⟨rfl, rfl⟩
theorem ST.below {w w' : World} {pr pw gw S R N : Nat} {T : List Int} {ta : Option Addr} {tn tc : Nat} {ws : List Int} (h : ST w pr pw gw S R N T ta tn tc ws) (hb : Below w.heap.size w w') : ST w' pr pw gw S R N T ta tn tc ws :=
  ⟨h.rb.next hb, (World.cell?_of_block (w := w) (a := ⟨pw, 0, none⟩) (hb.block pw h.wl)).trans h.wb, Nat.lt_of_lt_of_le h.wl hb.size, h.cw.below hb, h.wn, h.ap.below hb, h.ne1, h.ne2, h.ne3⟩

set_option maxRecDepth 100000 in
set_option maxHeartbeats 1600000 in
theorem step_none (S R : Nat) (T : List Int) (ta : Option Addr) (tn tc pr pw gw : Nat) (w : World)
    (hL : LineOk S R T) (hS : ST w pr pw gw S R (2 * R) T ta tn tc (List.replicate (2 * R) 0)) :
    Calls Try.prog 44 #[.slice none 0 0, .pointer (some ⟨pw, 0, none⟩), .pointer (some ⟨pr, 0, none⟩)] w fun e w' => e = .returned (.tuple #[]) ∧ ST w' pr pw gw S R (2 * R) T ta tn tc (List.replicate (2 * R) 0) ∧ Below w.heap.size w w' := by
  have HS := hide' hS
  have HL := hide' hL
  have r10 := hL.r10
  have HF := hide' (show ArgP w (List.replicate (2 * R) 0) (some ⟨gw, 0, none⟩) (2 * R) (2 * R) from hS.cw.argP (by simp) (by unfold maxLen; omega))
  have HZ := hide' (zeros_ok S (2 * R) hL.s2)
  obtain ⟨x0, x1, x2, x3, x4, x5, x6⟩ := hS.rb
  have y0 := hS.wb
  clear hS hL
  rcases Nat.eq_zero_or_pos R with r0 | r0
  · subst r0
    go_enter Try.func44, Try.ntmps44
    go_wp2_with fail
    refine (layOut_none 0 _ _).mono ?_
    rintro e w2 ⟨rfl, rfl⟩
    go_wp2_with fail
    refine (shorten_none0 S T ta tn tc _ _ HL.out HS.out.ap).mono ?_
    rintro e w3 ⟨rfl, b3⟩
    have S3 := hide' (HS.out.below b3)
    have B3 := hide' b3
    clear b3
    go_wp2
    go_end0
    exact ⟨rfl, S3.out, B3.out⟩
  · go_enter Try.func44, Try.ntmps44
    go_wp2_with fail
    refine (layOut_none R _ _).mono ?_
    rintro e w2 ⟨rfl, rfl⟩
    go_wp2_with fail
    obtain ⟨fc, hfc⟩ : ∃ fc, 2 * R = fc + 1 := ⟨2 * R - 1, by omega⟩
    have K := shorten_none S R T ta tn tc (List.replicate (2 * R) 0) (some ⟨gw, 0, none⟩) fc _ HL.out HS.out.ap (by rw [← hfc]; exact HF.out) (by omega) (by omega) HZ.out
    rw [← hfc] at K
    refine K.mono ?_
    clear K hfc
    rintro e w3 ⟨rfl, b3⟩
    have S3 := hide' (HS.out.below b3)
    have B3 := hide' b3
    clear b3
    go_wp2
    go_end0
    exact ⟨rfl, S3.out, B3.out⟩

set_option maxRecDepth 100000 in
set_option maxHeartbeats 1600000 in
theorem applied_pos (S R : Nat) (T : List Int) (ta : Option Addr) (tn tc : Nat) (ws : List Int) (wa : Option Addr) (wn wc m : Nat) (w : World)
    (hL : LineOk S R T) (hT : ArgP w T ta tn tc) (hW : ArgP w ws wa wn wc) (hwc : wn ≤ wc) (hcm : wc ≤ maxLen) (hok : cellsOk S ws) (hm : wn = m + 2 * R) (h0 : 0 < m) (hm1 : m ≤ 1100) :
    Calls Try.prog 22 #[.agg #[.int .i64 2, .int .i64 0, .int .i64 0, .int .i64 (S : Int), .int .i64 (R : Int), .slice ta tn tc, .string ⟨#[]⟩], .slice wa wn wc] w fun e w' => ∃ g, e = .returned (.slice (some ⟨g, 0, none⟩) m m) ∧ w.heap.size ≤ g ∧ Cel w' g (applyL S R T ws) ∧ Below w.heap.size w w' := by
  obtain ⟨w1, hw1⟩ : ∃ w1, w.alloc (.cells #[.int .i64 2, .int .i64 0, .int .i64 0, .int .i64 (S : Int), .int .i64 (R : Int), .slice ta tn tc, .string ⟨#[]⟩] 28) = w1 := ⟨_, rfl⟩
  have z1 : w1.heap.size = w.heap.size + 1 := by rw [← hw1]; simp
  have BB := hide' (show Below w.heap.size w w1 by rw [← hw1]; exact (Below.refl _ _).alloc (Nat.le_refl _) _)
  obtain ⟨w2, hw2⟩ : ∃ w2, w1.alloc (.cells (madeCells #[.int .i64 0] m) 3) = w2 := ⟨_, rfl⟩
  have r10 := hL.r10
  have hmk := run_make_row' (P := Try.prog) 26 3 (.int .i64 0) 8 Try.underlying26 info_int rfl .i64 .i64 m (by omega) (by omega) w1
  have TB := hide' (hT.blk (by have := hT.len; have := hL.pos; omega))
  have WB := hide' (hW.blk (by omega))
  have RX := hide' (show RB w.heap.size S R (.slice ta tn tc) w1 by rw [← hw1]; exact RB.new w S R _ _)
  have B2 := hide' (show Below w1.heap.size w1 w2 by rw [← hw2]; exact (Below.refl _ _).alloc (Nat.le_refl _) _)
  have AT := hide' ((hT.below BB.out).below B2.out)
  have AW := hide' ((hW.below BB.out).below B2.out)
  have CM := hide' (show Cel w2 (w.heap.size + 1) (List.replicate m 0) by rw [← hw2, ← z1]; exact Cel.made w1 m _)
  have HL := hide' hL
  have HM := hide' hm
  have HO := hide' hok
  have q1 : (wn : Int) - 2 * (R : Int) = (m : Int) := by omega
  have hmx := hW.max
  unfold maxLen at hmx
  rw [hw2, z1] at hmk
  clear hT hW hL hok hw2 hm
  obtain ⟨x0, x1, x2, x3, x4, x5, x6⟩ := RX.out
  obtain ⟨y0, y1, y2, y3, y4, y5, y6⟩ := RX.out.next B2.out
  go_enter Try.func22, Try.ntmps22
  go_wp2_with fail
  clear hw1
  refine (shorten_pos S R T ta tn tc ws wa wn wc (w.heap.size + 1) m m (List.replicate m 0) _ HL.out AT.out AW.out (by omega) hwc hcm HO.out CM.out (by simp) HM.out hm1 (fun g off e => by have := TB.out g off e; omega) (fun g off e => by have := WB.out g off e; omega)).mono ?_
  rintro e w3 ⟨rfl, c3, r3⟩
  have C3 := hide' c3
  have s2 := B2.out.size
  have B3 := hide' (show Below w.heap.size w w3 from (BB.out.trans (B2.out.mono (by omega))).trans (r3.below (by omega) (by omega)))
  clear c3 r3
  go_wp2
  go_ret
  exact ⟨w.heap.size + 1, rfl, by omega, C3.out, B3.out⟩

set_option maxHeartbeats 800000 in
theorem applied_none (S R : Nat) (ta : Option Addr) (tn tc : Nat) (wa : Option Addr) (wn wc : Nat) (w : World) (hR : R ≤ 10) (hm : wn ≤ 2 * R) :
    Calls Try.prog 22 #[.agg #[.int .i64 2, .int .i64 0, .int .i64 0, .int .i64 (S : Int), .int .i64 (R : Int), .slice ta tn tc, .string ⟨#[]⟩], .slice wa wn wc] w fun e w' => e = .returned (.slice none 0 0) ∧ Below w.heap.size w w' := by
  have q1 : (wn : Int) - 2 * (R : Int) ≤ 0 := by omega
  go_enter Try.func22, Try.ntmps22
  go_wp2
  go_ret
  exact ⟨rfl, (Below.refl _ _).alloc (Nat.le_refl _) _⟩
end Go.Proofs.Ytdhbdkkchobinaa

namespace Go.Proofs.Ytdhbdkkchobinaa
open Go.RowKit
set_option linter.unusedVariables false

theorem ownsRow_cel {w : World} {base : Nat} {e : TypeId} {v : Value} {xs : List Int} (h : w.ownsRow base e 1 v (0 + xs.length) ([] ++ xs.map fun x => .int .i64 x)) (h0 : 0 < xs.length) :
    ∃ g cap, v = .slice (some ⟨g, 0, none⟩) xs.length cap ∧ base ≤ g ∧ xs.length ≤ cap ∧ cap ≤ maxLen ∧ Cel w g xs := by
  rw [Nat.zero_add, List.nil_append] at h
  rcases h.2 with ⟨hv, hn⟩ | ⟨g, cap, cur, hv, hg, hh, hc, hm, hs, ht⟩
  · omega
  · refine ⟨g, cap, hv, hg, hc, hm, (Array.getElem?_eq_some_iff.1 hh).1, fun k hk => ?_, fun k => by simp [World.frozen?, hh]⟩
    have h1 : (cur.toList.take (xs.length * 1))[k]? = some (.int .i64 xs[k]) := by
      rw [ht, List.getElem?_map, List.getElem?_eq_getElem hk]; rfl
    rw [List.getElem?_take] at h1
    simp only [World.cell?, hh]
    have : k < xs.length * 1 := by omega
    rw [if_pos this] at h1
    rw [show xs.getD k 0 = xs[k] by simp [List.getD, hk]]
    simpa using h1
theorem news_ints {w : World} {xs : List Int} {a : Addr} {n c : Nat} (h : ArgP w xs (some a) n c) : ∀ (j : Nat) (u : Value), (xs.map fun x => Value.int .i64 x)[j]? = some u → w.cell? (a.add j) = some u := by
  intro j u hu
  rw [List.getElem?_map] at hu
  obtain ⟨x, hx, rfl⟩ := Option.map_eq_some_iff.1 hu
  obtain ⟨hj, he⟩ := List.getElem?_eq_some_iff.1 hx
  obtain ⟨g, off, e, hg, hc⟩ := h.cells j hj
  injection e with e1
  subst e1
  have ea : (⟨g, off, none⟩ : Addr).add j = ⟨g, off + j, none⟩ := by
    unfold Addr.add
    split
    · rename_i hz; subst hz; rfl
    · rfl
  rw [ea, hc, he]
theorem grown_below {w w' : World} (h : w.grownBy w' none) : Below w.heap.size w w' := ⟨h.os, h.tape, h.output, h.size, fun k hk => h.block k hk (by simp)⟩

set_option maxRecDepth 100000 in
set_option maxHeartbeats 3200000 in
theorem lineRun_full (S R : Nat) (T : List Int) (ta : Option Addr) (tn tc : Nat) (ws : List Int) (wa : Addr) (wc n : Nat) (w : World)
    (hL : LineOk S R T) (hT : ArgP w T ta tn tc) (hW : ArgP w ws (some wa) ws.length wc) (he : wordE S ws = 0) (h0 : 0 < ws.length) (hn : n ≤ 100000) :
    Calls Try.prog 16 #[.agg #[.int .i64 2, .int .i64 0, .int .i64 0, .int .i64 (S : Int), .int .i64 (R : Int), .slice ta tn tc, .string ⟨#[]⟩], .slice (some wa) ws.length wc, .int .i64 (n : Int)] w fun e w' => ∃ g c, e = .returned (.tuple #[.slice (some ⟨g, 0, none⟩) ws.length c, .nilIface]) ∧ w.heap.size ≤ g ∧ ws.length ≤ c ∧ c ≤ maxLen ∧ Cel w' g (runL S R T n ws) ∧ Below w.heap.size w w' := by
  obtain ⟨w1, hw1⟩ : ∃ w1, w.alloc (.cells #[.int .i64 2, .int .i64 0, .int .i64 0, .int .i64 (S : Int), .int .i64 (R : Int), .slice ta tn tc, .string ⟨#[]⟩] 28) = w1 := ⟨_, rfl⟩
  have z1 : w1.heap.size = w.heap.size + 1 := by rw [← hw1]; simp
  have BB := hide' (show Below w.heap.size w w1 by rw [← hw1]; exact (Below.refl _ _).alloc (Nat.le_refl _) _)
  have RX := hide' (show RB w.heap.size S R (.slice ta tn tc) w1 by rw [← hw1]; exact RB.new w S R _ _)
  have AT := hide' (hT.below BB.out)
  have AW := hide' (hW.below BB.out)
  obtain ⟨hl, hok⟩ := wordE_zero he
  have TBK := hide' (hT.blk (by have := hT.len; have := hL.pos; omega))
  have HL := hide' hL
  have HE := hide' he
  have HO := hide' hok
  have H0 := hide' h0
  have hlw : ws.length ≤ 1000 := hl
  obtain ⟨i0, hi, hz0, hz1, hz2⟩ := info_parts info_int
  have n1 : ¬ (n : Int) < 0 := by omega
  have n2 : ¬ (100000 : Int) < (n : Int) := by omega
  clear hT hW hL he hok h0 hl
  obtain ⟨x0, x1, x2, x3, x4, x5, x6⟩ := RX.out
  go_enter Try.func16, Try.ntmps16
  go_wp2_with fail
  refine (lineCheck_line S R T ta tn tc ws (some wa) ws.length wc _ HL.out AT.out AW.out).mono ?_
  rw [HE.out, show errOf 0 = .nilIface from rfl]
  rintro e w2 ⟨rfl, b2⟩
  have s2 := b2.size
  have B2 := hide' (BB.out.trans (b2.mono BB.out.size))
  have RX2 := hide' (RX.out.next b2)
  have AT2 := hide' (AT.out.below b2)
  have NW := hide' (news_ints (AW.out.below b2))
  clear x0 x1 x2 x3 x4 x5 x6 hw1 b2
  obtain ⟨x0, x1, x2, x3, x4, x5, x6⟩ := RX2.out
  go_wp2_with (at_builtin; refine wpList_append_own _ rfl _ _ 26 rfl w2.heap.size 3 i0 (.int .i64 0) 1 8 Try.underlying26 hi hz0 hz1 hz2 rfl (by decide) (.slice none 0 0) 0 [] rfl ⟨by simp, Or.inl ⟨rfl, by simp⟩⟩ wa ws.length wc (ws.map fun x => .int .i64 x) rfl (by simp) NW.out (fun x hx => by obtain ⟨y, -, rfl⟩ := List.mem_map.1 hx; rfl) (by unfold maxLen; omega) (by omega) (by simp) ?_; intro v' w3 hown' hgrow3 hnil3; obtain ⟨gr, cr, rfl, hgr, hc1, hc2, ce⟩ := ownsRow_cel hown' H0.out; have CE := hide' ce; have B3 := hide' (grown_below hgrow3); have RX3 := hide' (RX2.out.next B3.out); have AT3 := hide' (AT2.out.below B3.out); have C1 := hide' hc1; have C2 := hide' hc2; clear hgrow3 hown' hnil3 ce x0 x1 x2 x3 x4 x5 x6 hc1 hc2; obtain ⟨x0, x1, x2, x3, x4, x5, x6⟩ := RX3.out)
  have s3 := B3.out.size
  have lgr := CE.out.lt
  refine (stepper_any S R T ta tn tc ws.length _ HL.out AT3.out hlw (fun g off e => by have := TBK.out g off e; omega)).mono ?_
  rintro e w4 ⟨rfl, st, b4, s4⟩
  have ST4 := hide' st
  have B4 := hide' b4
  have CE4 := hide' (CE.out.below b4)
  clear st b4 x0 x1 x2 x3 x4 x5 x6
  have LN := hide' (fun i => runL_length (S : Int) R T ws i)
  have LO := hide' (fun i => runL_ok (S := (S : Int)) (R := R) (T := T) (xs := ws) (by omega) HL.out.lenI HL.out.ok HO.out i)
  go_wp2
  go_loopw [11] (fun iv wr => ∃ i : Nat, iv = .int .i64 (i : Int) ∧ i ≤ n ∧ Cel wr gr (runL S R T i ws) ∧ (∃ zs, ST wr w3.heap.size (w3.heap.size + 2) (w3.heap.size + 1) S R (ws.length + 2 * R) T ta tn tc zs) ∧ Rd2 (w3.heap.size + 1) gr w4 wr) (fun iv _ => n - (intOf iv).toNat)
  case atStart => exact ⟨0, rfl, by omega, CE4.out, ⟨_, ST4.out⟩, Rd2.refl _ _ _⟩
  case round =>
    obtain ⟨i, rfl, hi, ce, ⟨zs, st⟩, rd⟩ := hrel
    have CEi := hide' ce
    have STi := hide' st
    have RDi := hide' rd
    clear ce st rd
    by_cases d : (i : Int) < (n : Int)
    · go_wp2_with fail
      refine (step_ring S R T ta tn tc w3.heap.size (w3.heap.size + 2) (w3.heap.size + 1) (ws.length + 2 * R) gr cr ws.length (runL S R T i ws) zs _ HL.out STi.out CEi.out (LN.out i) rfl H0.out hlw (LO.out i) (by omega) (by omega) (by omega) (fun g off e => by have := TBK.out g off e; omega)).mono ?_
      rintro e w5 ⟨rfl, st5, ce5, rd5⟩
      have ST5 := hide' st5
      have CE5 := hide' (show Cel w5 gr (runL S R T (i + 1) ws) from ce5)
      have RD5 := hide' (RDi.out.trans rd5)
      clear st5 ce5 rd5
      go_wp2
      exact ⟨⟨i + 1, by go_num, by omega, CE5.out, ⟨_, ST5.out⟩, RD5.out⟩, by simp [intOf]; omega⟩
    · have FIN := hide' (show Cel wr gr (runL S R T n ws) by rw [show n = i by omega]; exact CEi.out)
      have BF := hide' (show Below w.heap.size w wr from (((B2.out.trans (B3.out.mono (by omega))).trans (B4.out.mono (by omega))).trans (RDi.out.below (by omega) (by omega) (by omega))))
      go_wp2
      go_ret2
      exact ⟨gr, cr, rfl, by omega, C1.out, C2.out, FIN.out, BF.out⟩
end Go.Proofs.Ytdhbdkkchobinaa

