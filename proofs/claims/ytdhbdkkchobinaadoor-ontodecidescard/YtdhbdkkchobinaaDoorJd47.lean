/-
  What the last text of this claim leans on, part 47: Ok8.
-/
import Derived.Test.YtdhbdkkchobinaaDoorJd40
import Derived.Test.YtdhbdkkchobinaaDoorJd41
import Derived.Test.YtdhbdkkchobinaaDoorJd43
import Derived.Test.YtdhbdkkchobinaaDoorJd45
import Derived.Test.YtdhbdkkchobinaaDoorJd46
import Derived.Test.YtdhbdkkchobinaaDoorJd33
import Derived.Test.YtdhbdkkchobinaaDoorJd34
namespace Go.Proofs.YtdhbdkkchobinaaDoor
open Go.RowKit
set_option linter.unusedVariables false

theorem ints_yes (xs : List Int) (a b : Option Addr) (n c m d : Nat) (w : World) (hA : ArgP w xs a n c) (hB : ArgP w xs b m d) :
    Calls Tryd.prog 30 #[.slice a n c, .slice b m d] w fun e w' => e = .returned (.bool true) ∧ Below w.heap.size w w' :=
  (ints_say xs xs a b n c m d w hA hB true (by simp)).mono fun e w' ⟨h1, q, h2⟩ => ⟨h1, by rw [h2]; exact below_drewN (Below.refl _ _) q⟩
theorem row_arg {W : World} {B0 n : Nat} {v : Value} {xs : List Int} (h : W.ownsRow B0 3 1 v n (xs.map fun y => Value.int .i64 y)) (hn : xs.length = n) (h0 : 0 < n) : ∃ g cap, v = .slice (some ⟨g, 0, none⟩) n cap ∧ ArgP W xs (some ⟨g, 0, none⟩) n cap ∧ n ≤ cap ∧ cap ≤ maxLen := by
  subst hn
  rcases h.2 with ⟨rfl, h1⟩ | ⟨g, cap, cur, rfl, hg, hh, hc, hm', hs, ht⟩
  · omega
  · refine ⟨g, cap, rfl, ⟨rfl, Nat.le_trans hc hm', fun k hk => ⟨g, 0, rfl, (Array.getElem?_eq_some_iff.1 hh).1, ?_⟩⟩, hc, hm'⟩
    have e : (xs.map fun y => Value.int .i64 y)[k]? = some (.int .i64 xs[k]) := by simp [hk]
    rw [← ht, List.getElem?_take, if_pos (by omega)] at e
    rw [Nat.zero_add]
    simp only [World.cell?, hh]
    rw [← Array.getElem?_toList]
    exact e
/-- What the law asks of two words. -/
theorem twin_law {S R p : Nat} {T : List Int} {full : List (Nat × Nat)} (hL : LineOk S R T) (h : IsTwin S (S ^ (2 * R)) T p full) : (winL S (2 * R) p ++ full.map fun y => (y.1 : Int)).length = full.length + 2 * R ∧ (winL S (2 * R) p ++ full.map fun y => (y.2 : Int)).length = full.length + 2 * R ∧ wordE S (winL S (2 * R) p ++ full.map fun y => (y.1 : Int)) = 0 ∧ wordE S (winL S (2 * R) p ++ full.map fun y => (y.2 : Int)) = 0 ∧
    (winL S (2 * R) p ++ full.map fun y => (y.1 : Int)) ≠ (winL S (2 * R) p ++ full.map fun y => (y.2 : Int)) ∧ applyL S R T (winL S (2 * R) p ++ full.map fun y => (y.1 : Int)) = applyL S R T (winL S (2 * R) p ++ full.map fun y => (y.2 : Int)) ∧ (winL S (2 * R) p ++ full.map fun y => (y.1 : Int)).take (2 * R) = (winL S (2 * R) p ++ full.map fun y => (y.2 : Int)).take (2 * R) ∧ (winL S (2 * R) p ++ full.map fun y => (y.1 : Int)).drop full.length = (winL S (2 * R) p ++ full.map fun y => (y.2 : Int)).drop full.length := by
  have s2 := hL.s2
  have r10 := hL.r10
  have hS : 0 < S := by omega
  have l3 : full.length ≤ 257 := h.2.2.2
  obtain ⟨o1, o2⟩ := twin_ok hS h.2.1
  have l1 : (winL S (2 * R) p ++ full.map fun y => (y.1 : Int)).length = full.length + 2 * R := by rw [List.length_append, winL_length, List.length_map]; omega
  have l2 : (winL S (2 * R) p ++ full.map fun y => (y.2 : Int)).length = full.length + 2 * R := by rw [List.length_append, winL_length, List.length_map]; omega
  refine ⟨l1, l2, wordE_ok (by omega) o1, wordE_ok (by omega) o2, fun q => twin_words h (List.append_cancel_left q), twin_apply hS h.1 h.2.1, ?_, twin_last hS h.1 h⟩
  rw [List.take_left' (winL_length ..), List.take_left' (winL_length ..)]

set_option maxRecDepth 100000 in
set_option maxHeartbeats 25600000 in
theorem law_dec_ok (S R : Nat) (T : List Int) (ta : Option Addr) (tn tc : Nat) (w : World) (hL : LineOk S R T) (hT : ArgP w T ta tn tc) (hg : Handle w) (he : askE S R [] = 0) (hz : TzTab w) :
    Calls Tryd.prog 12 #[.agg #[.int .i64 2, .int .i64 0, .int .i64 0, .int .i64 (S : Int), .int .i64 (R : Int), .slice ta tn tc, .string ⟨#[]⟩]] w fun e w' => e = .returned (.bool true) ∧ Below w.heap.size w w' := by
  obtain ⟨w1, hw1⟩ : ∃ w1, w.alloc (.cells #[.int .i64 2, .int .i64 0, .int .i64 0, .int .i64 (S : Int), .int .i64 (R : Int), .slice ta tn tc, .string ⟨#[]⟩] 24) = w1 := ⟨_, rfl⟩
  have BB := hide' (show Below w.heap.size w w1 by rw [← hw1]; exact (Below.refl _ _).alloc (Nat.le_refl _) _)
  have RX := hide' (show RB w.heap.size S R (.slice ta tn tc) w1 by rw [← hw1]; exact RB.new w S R _ _)
  have AT := hide' (hT.below BB.out)
  have HG := hide' (hg.below BB.out)
  have HL := hide' hL
  have HE := hide' he
  obtain ⟨h1, h2⟩ := askE_zero he
  obtain ⟨n, hn⟩ : ∃ n, S ^ (2 * R) = n := ⟨_, rfl⟩
  obtain ⟨g1, g2, n0⟩ := hL.graph hT.len hn
  rw [hn] at h2
  have HNN := hide' hn
  have s2 := hL.s2
  have TZ := hide' (hz.below BB.out)
  have ONT := hide' (fun (W : World) (h : ArgP W T ta tn tc) (h2 : TzTab W) => onto_ok S R n T ta tn tc W hL h he hn h2)
  have PRE := hide' (fun (W : World) (h : ArgP W T ta tn tc) => pre_ok S R n T ta tn tc W hL h he hn)
  have ONE := hide' (fun (W : World) (h : ArgP W T ta tn tc) => one_ok S R n T ta tn tc W hL h he hn)
  have RORP := hide' (fun (W : World) (h : ArgP W T ta tn tc) => refOrphan_any S R n T ta tn tc W hL h hn h2)
  have RPRE := hide' (fun (W : World) (h : ArgP W T ta tn tc) => refPre_any S R n T ta tn tc W hL h hn h2)
  have RONE := hide' (fun (W : World) (h : ArgP W T ta tn tc) => refOne_any S R n T ta tn tc W hL h hn h2)
  clear hT hL he hg hz h1 h2 hn g1 g2
  have C0 := hide' (Below.refl w1.heap.size w1)
  obtain ⟨x0, x1, x2, x3, x4, x5, x6⟩ := RX.out
  go_enter Tryd.func12, Tryd.ntmps12
  go_wp2_with fail
  refine (asked_line S R T ta tn tc [] none 0 _ HL.out (AT.out.below C0.out) (argP_nil _)).mono ?_
  rw [HE.out]
  rintro e w2 ⟨rfl, b⟩
  have C1 := hide' (C0.out.trans (b.mono C0.out.size))
  clear hw1
  clear b x0 x1 x2 x3 x4 x5 x6 C0
  obtain ⟨x0, x1, x2, x3, x4, x5, x6⟩ := RX.out.next C1.out
  go_wp2_with fail
  refine (ONT.out _ (AT.out.below C1.out) (TZ.out.below C1.out)).mono ?_
  unfold OntoPost
  rintro e w10 ⟨hor, b⟩
  rcases hor with ⟨wd, go, co, rfl, ho, wl0, wlm, clo⟩ | ⟨rfl, ho⟩
  · have HO := hide' ho
    have KO := hide' (show ArgP w10 wd (some ⟨go, 0, none⟩) wd.length co from clo.argP rfl (by unfold maxLen; omega))
    clear ho clo
    have C2 := hide' (C1.out.trans (b.mono C1.out.size))
    clear b x0 x1 x2 x3 x4 x5 x6 C1
    obtain ⟨x0, x1, x2, x3, x4, x5, x6⟩ := RX.out.next C2.out
    go_wp2_with fail
    refine (err_nil_true _).mono ?_
    rintro e w3 ⟨rfl, b⟩
    have C3 := hide' (C2.out.trans (b.mono C2.out.size))
    have KO' := hide' (KO.out.below b)
    clear KO
    have KO := KO'
    clear KO'
    clear b x0 x1 x2 x3 x4 x5 x6 C2
    obtain ⟨x0, x1, x2, x3, x4, x5, x6⟩ := RX.out.next C3.out
    go_wp2_with fail
    refine (PRE.out _ (AT.out.below C3.out)).mono ?_
    unfold PrePost
    rintro e w11 ⟨hor, b⟩
    rcases hor with ⟨p, full, v1, v2, rfl, o1, o2, tw⟩ | ⟨rfl, hno⟩
    · have tw2 := tw
      rw [← HNN.out] at tw2
      obtain ⟨l1, l2, e1, e2, ne, ap, tk, dr⟩ := twin_law HL.out tw2
      have f0 : 0 < full.length := by obtain ⟨_, _, ⟨cs, d, e, _⟩, _⟩ := tw; rw [e]; simp
      obtain ⟨L, hL⟩ : ∃ L, full.length + 2 * R = L := ⟨_, rfl⟩
      rw [show 2 * R + full.length = L by omega] at o1 o2
      rw [hL] at l1 l2
      obtain ⟨gx, cx, rfl, kx, hcx, hmx⟩ := row_arg o1 l1 (by omega)
      obtain ⟨gy, cy, rfl, ky, hcy, hmy⟩ := row_arg o2 l2 (by omega)
      have KX := hide' kx
      have KY := hide' ky
      have TWA := hide' (is_twin_at n0 tw)
      have APA := hide' (fun (W : World) (h : ArgP W T ta tn tc) (h1 : ArgP W (winL S (2 * R) p ++ full.map fun y => (y.1 : Int)) (some ⟨gx, 0, none⟩) L cx) (h2 : ArgP W (winL S (2 * R) p ++ full.map fun y => (y.2 : Int)) (some ⟨gy, 0, none⟩) L cy) => apart_any S R (2 * R) full.length T ta tn tc _ _ gx gy L cx cy W HL.out h h1 h2 l1 l2 e1 e2 ne ap rfl hL.symm hcx hcy hmx hmy tk dr f0)
      have lb : L ≤ 1000 := by rw [← l1]; exact (wordE_zero e1).1
      have lpos : 0 < L := by omega
      clear tw tw2 o1 o2 kx ky l1 l2 e1 e2 ne ap tk dr hcx hcy hmx hmy hL f0
      have C4 := hide' (C3.out.trans (b.mono C3.out.size))
      have KO' := hide' (KO.out.below b)
      clear KO
      have KO := KO'
      clear KO'
      clear b x0 x1 x2 x3 x4 x5 x6 C3
      obtain ⟨x0, x1, x2, x3, x4, x5, x6⟩ := RX.out.next C4.out
      go_wp2_with fail
      refine (err_nil_true _).mono ?_
      rintro e w4 ⟨rfl, b⟩
      have C5 := hide' (C4.out.trans (b.mono C4.out.size))
      have KO' := hide' (KO.out.below b)
      clear KO
      have KO := KO'
      clear KO'
      have KX' := hide' (KX.out.below b)
      clear KX
      have KX := KX'
      clear KX'
      have KY' := hide' (KY.out.below b)
      clear KY
      have KY := KY'
      clear KY'
      clear b x0 x1 x2 x3 x4 x5 x6 C4
      obtain ⟨x0, x1, x2, x3, x4, x5, x6⟩ := RX.out.next C5.out
      go_wp2_with fail
      refine (ONE.out _ (AT.out.below C5.out)).mono ?_
      unfold OnePost
      rintro e w12 ⟨hor, b⟩
      rcases hor with ⟨u, ring, v1, v2, rfl, o1, o2, ir⟩ | ⟨rfl, hno⟩
      · have TT := hide' (ring_turn n0 ir)
        have ir2 := ir
        rw [← HNN.out] at ir2
        have rl : ring.length ≤ 257 := ir.2.2.2.2
        have r0 : 0 < ring.length := by obtain ⟨_, _, _, ⟨cs, d, e, _⟩, _⟩ := ir; rw [e]; simp
        obtain ⟨k1, k2, es, ne⟩ := ring_rings (by omega) ir2
        rw [show (ring.map fun y => Value.int .i64 (y.1 : Int)) = (ring.map fun y => (y.1 : Int)).map fun y => Value.int .i64 y by rw [List.map_map]; rfl] at o1
        rw [show (ring.map fun y => Value.int .i64 (y.2 : Int)) = (ring.map fun y => (y.2 : Int)).map fun y => Value.int .i64 y by rw [List.map_map]; rfl] at o2
        obtain ⟨gu, cu, rfl, ku, _, _⟩ := row_arg o1 (by simp) r0
        obtain ⟨gv, cv, rfl, kv, _, _⟩ := row_arg o2 (by simp) r0
        have KU := hide' ku
        have KV := hide' kv
        have RGA := hide' (fun (W : World) (h : ArgP W T ta tn tc) (h1 : ArgP W (ring.map fun y => (y.1 : Int)) (some ⟨gu, 0, none⟩) ring.length cu) (h2 : ArgP W (ring.map fun y => (y.2 : Int)) (some ⟨gv, 0, none⟩) ring.length cv) => ringsLaw_any S R T ta tn tc _ _ _ _ ring.length cu cv W HL.out h h1 h2 (by simp) (by simp) (wordE_ok (by simp; omega) k1) (wordE_ok (by simp; omega) k2) ne es)
        clear ir ir2 o1 o2 ku kv k1 k2 es ne
        have C6 := hide' (C5.out.trans (b.mono C5.out.size))
        have KO' := hide' (KO.out.below b)
        clear KO
        have KO := KO'
        clear KO'
        have KX' := hide' (KX.out.below b)
        clear KX
        have KX := KX'
        clear KX'
        have KY' := hide' (KY.out.below b)
        clear KY
        have KY := KY'
        clear KY'
        clear b x0 x1 x2 x3 x4 x5 x6 C5
        obtain ⟨x0, x1, x2, x3, x4, x5, x6⟩ := RX.out.next C6.out
        go_wp2_with fail
        refine (err_nil_true _).mono ?_
        rintro e w5 ⟨rfl, b⟩
        have C7 := hide' (C6.out.trans (b.mono C6.out.size))
        have KO' := hide' (KO.out.below b)
        clear KO
        have KO := KO'
        clear KO'
        have KX' := hide' (KX.out.below b)
        clear KX
        have KX := KX'
        clear KX'
        have KY' := hide' (KY.out.below b)
        clear KY
        have KY := KY'
        clear KY'
        have KU' := hide' (KU.out.below b)
        clear KU
        have KU := KU'
        clear KU'
        have KV' := hide' (KV.out.below b)
        clear KV
        have KV := KV'
        clear KV'
        clear b x0 x1 x2 x3 x4 x5 x6 C6
        obtain ⟨x0, x1, x2, x3, x4, x5, x6⟩ := RX.out.next C7.out
        go_wp2_with fail
        refine ((RORP.out _ (AT.out.below C7.out)).mono (fun e w' (h : RefOrphanPost S n T _ e w') => show (∃ g c, e = .returned (.tuple #[.slice (some ⟨g, 0, none⟩) wd.length c, .bool true]) ∧ Cel w' g wd) ∧ Below _ _ w' from by
          rcases h with ⟨wd', g', c', e1, ho', _, cl', b'⟩ | ⟨ho', _, _⟩
          · have q := orphan_one (by omega) HO.out ho'
            injection q with q
            subst q
            exact ⟨⟨g', c', e1, cl'⟩, b'⟩
          · exact absurd (orphan_one (by omega) HO.out ho') (by simp))).mono ?_
        rintro e w13 ⟨⟨go', co', rfl, clo⟩, b⟩
        have KR := hide' (show ArgP w13 wd (some ⟨go', 0, none⟩) wd.length co' from clo.argP rfl (by unfold maxLen; omega))
        clear clo
        have C8 := hide' (C7.out.trans (b.mono C7.out.size))
        have KO' := hide' (KO.out.below b)
        clear KO
        have KO := KO'
        clear KO'
        have KX' := hide' (KX.out.below b)
        clear KX
        have KX := KX'
        clear KX'
        have KY' := hide' (KY.out.below b)
        clear KY
        have KY := KY'
        clear KY'
        have KU' := hide' (KU.out.below b)
        clear KU
        have KU := KU'
        clear KU'
        have KV' := hide' (KV.out.below b)
        clear KV
        have KV := KV'
        clear KV'
        clear b x0 x1 x2 x3 x4 x5 x6 C7
        obtain ⟨x0, x1, x2, x3, x4, x5, x6⟩ := RX.out.next C8.out
        go_wp2_with fail
        refine (ints_yes wd _ _ _ _ _ _ _ KO.out KR.out).mono ?_
        rintro e w6 ⟨rfl, b⟩
        have C9 := hide' (C8.out.trans (b.mono C8.out.size))
        have KO' := hide' (KO.out.below b)
        clear KO
        have KO := KO'
        clear KO'
        have KX' := hide' (KX.out.below b)
        clear KX
        have KX := KX'
        clear KX'
        have KY' := hide' (KY.out.below b)
        clear KY
        have KY := KY'
        clear KY'
        have KU' := hide' (KU.out.below b)
        clear KU
        have KU := KU'
        clear KU'
        have KV' := hide' (KV.out.below b)
        clear KV
        have KV := KV'
        clear KV'
        have KR' := hide' (KR.out.below b)
        clear KR
        have KR := KR'
        clear KR'
        clear b x0 x1 x2 x3 x4 x5 x6 C8
        obtain ⟨x0, x1, x2, x3, x4, x5, x6⟩ := RX.out.next C9.out
        go_wp2_with fail
        refine ((RPRE.out _ (AT.out.below C9.out)).mono (fun e w' (h : PreRefPost S n T _ e w') => show e = .returned (.bool false) ∧ Below _ _ w' from ⟨by rcases h.1 with q | q; exact q.1; exact absurd TWA.out q.2, h.2⟩)).mono ?_
        rintro e w7 ⟨rfl, b⟩
        have C10 := hide' (C9.out.trans (b.mono C9.out.size))
        have KO' := hide' (KO.out.below b)
        clear KO
        have KO := KO'
        clear KO'
        have KX' := hide' (KX.out.below b)
        clear KX
        have KX := KX'
        clear KX'
        have KY' := hide' (KY.out.below b)
        clear KY
        have KY := KY'
        clear KY'
        have KU' := hide' (KU.out.below b)
        clear KU
        have KU := KU'
        clear KU'
        have KV' := hide' (KV.out.below b)
        clear KV
        have KV := KV'
        clear KV'
        have KR' := hide' (KR.out.below b)
        clear KR
        have KR := KR'
        clear KR'
        clear b x0 x1 x2 x3 x4 x5 x6 C9
        obtain ⟨x0, x1, x2, x3, x4, x5, x6⟩ := RX.out.next C10.out
        go_wp2_with fail
        refine ((RONE.out _ (AT.out.below C10.out)).mono (fun e w' (h : OneRefPost S n T _ e w') => show e = .returned (.bool false) ∧ Below _ _ w' from ⟨by rcases h.1 with q | q; exact q.1; obtain ⟨k, hk, ht⟩ := TT.out; exact absurd ht (q.2 k hk), h.2⟩)).mono ?_
        rintro e w8 ⟨rfl, b⟩
        have C11 := hide' (C10.out.trans (b.mono C10.out.size))
        have KO' := hide' (KO.out.below b)
        clear KO
        have KO := KO'
        clear KO'
        have KX' := hide' (KX.out.below b)
        clear KX
        have KX := KX'
        clear KX'
        have KY' := hide' (KY.out.below b)
        clear KY
        have KY := KY'
        clear KY'
        have KU' := hide' (KU.out.below b)
        clear KU
        have KU := KU'
        clear KU'
        have KV' := hide' (KV.out.below b)
        clear KV
        have KV := KV'
        clear KV'
        have KR' := hide' (KR.out.below b)
        clear KR
        have KR := KR'
        clear KR'
        clear b x0 x1 x2 x3 x4 x5 x6 C10
        obtain ⟨x0, x1, x2, x3, x4, x5, x6⟩ := RX.out.next C11.out
        go_wp2_with fail
        refine (APA.out _ (AT.out.below C11.out) KX.out KY.out).mono ?_
        rintro e w9 ⟨rfl, b⟩
        have C12 := hide' (C11.out.trans (b.mono C11.out.size))
        have KO' := hide' (KO.out.below b)
        clear KO
        have KO := KO'
        clear KO'
        have KX' := hide' (KX.out.below b)
        clear KX
        have KX := KX'
        clear KX'
        have KY' := hide' (KY.out.below b)
        clear KY
        have KY := KY'
        clear KY'
        have KU' := hide' (KU.out.below b)
        clear KU
        have KU := KU'
        clear KU'
        have KV' := hide' (KV.out.below b)
        clear KV
        have KV := KV'
        clear KV'
        have KR' := hide' (KR.out.below b)
        clear KR
        have KR := KR'
        clear KR'
        clear b x0 x1 x2 x3 x4 x5 x6 C11
        obtain ⟨x0, x1, x2, x3, x4, x5, x6⟩ := RX.out.next C12.out
        go_wp2_with fail
        refine (RGA.out _ (AT.out.below C12.out) KU.out KV.out).mono ?_
        rintro e w10 ⟨rfl, b⟩
        have C13 := hide' (C12.out.trans (b.mono C12.out.size))
        have KO' := hide' (KO.out.below b)
        clear KO
        have KO := KO'
        clear KO'
        have KX' := hide' (KX.out.below b)
        clear KX
        have KX := KX'
        clear KX'
        have KY' := hide' (KY.out.below b)
        clear KY
        have KY := KY'
        clear KY'
        have KU' := hide' (KU.out.below b)
        clear KU
        have KU := KU'
        clear KU'
        have KV' := hide' (KV.out.below b)
        clear KV
        have KV := KV'
        clear KV'
        have KR' := hide' (KR.out.below b)
        clear KR
        have KR := KR'
        clear KR'
        clear b x0 x1 x2 x3 x4 x5 x6 C12
        obtain ⟨x0, x1, x2, x3, x4, x5, x6⟩ := RX.out.next C13.out
        go_wp2
        go_ret
        exact ⟨rfl, BB.out.trans (C13.out.mono BB.out.size)⟩
      · have NTT := hide' (no_turn n0 hno)
        clear hno
        have C6 := hide' (C5.out.trans (b.mono C5.out.size))
        have KO' := hide' (KO.out.below b)
        clear KO
        have KO := KO'
        clear KO'
        have KX' := hide' (KX.out.below b)
        clear KX
        have KX := KX'
        clear KX'
        have KY' := hide' (KY.out.below b)
        clear KY
        have KY := KY'
        clear KY'
        clear b x0 x1 x2 x3 x4 x5 x6 C5
        obtain ⟨x0, x1, x2, x3, x4, x5, x6⟩ := RX.out.next C6.out
        go_wp2_with fail
        refine (err_nil_true _).mono ?_
        rintro e w5 ⟨rfl, b⟩
        have C7 := hide' (C6.out.trans (b.mono C6.out.size))
        have KO' := hide' (KO.out.below b)
        clear KO
        have KO := KO'
        clear KO'
        have KX' := hide' (KX.out.below b)
        clear KX
        have KX := KX'
        clear KX'
        have KY' := hide' (KY.out.below b)
        clear KY
        have KY := KY'
        clear KY'
        clear b x0 x1 x2 x3 x4 x5 x6 C6
        obtain ⟨x0, x1, x2, x3, x4, x5, x6⟩ := RX.out.next C7.out
        go_wp2_with fail
        refine ((RORP.out _ (AT.out.below C7.out)).mono (fun e w' (h : RefOrphanPost S n T _ e w') => show (∃ g c, e = .returned (.tuple #[.slice (some ⟨g, 0, none⟩) wd.length c, .bool true]) ∧ Cel w' g wd) ∧ Below _ _ w' from by
          rcases h with ⟨wd', g', c', e1, ho', _, cl', b'⟩ | ⟨ho', _, _⟩
          · have q := orphan_one (by omega) HO.out ho'
            injection q with q
            subst q
            exact ⟨⟨g', c', e1, cl'⟩, b'⟩
          · exact absurd (orphan_one (by omega) HO.out ho') (by simp))).mono ?_
        rintro e w13 ⟨⟨go', co', rfl, clo⟩, b⟩
        have KR := hide' (show ArgP w13 wd (some ⟨go', 0, none⟩) wd.length co' from clo.argP rfl (by unfold maxLen; omega))
        clear clo
        have C8 := hide' (C7.out.trans (b.mono C7.out.size))
        have KO' := hide' (KO.out.below b)
        clear KO
        have KO := KO'
        clear KO'
        have KX' := hide' (KX.out.below b)
        clear KX
        have KX := KX'
        clear KX'
        have KY' := hide' (KY.out.below b)
        clear KY
        have KY := KY'
        clear KY'
        clear b x0 x1 x2 x3 x4 x5 x6 C7
        obtain ⟨x0, x1, x2, x3, x4, x5, x6⟩ := RX.out.next C8.out
        go_wp2_with fail
        refine (ints_yes wd _ _ _ _ _ _ _ KO.out KR.out).mono ?_
        rintro e w6 ⟨rfl, b⟩
        have C9 := hide' (C8.out.trans (b.mono C8.out.size))
        have KO' := hide' (KO.out.below b)
        clear KO
        have KO := KO'
        clear KO'
        have KX' := hide' (KX.out.below b)
        clear KX
        have KX := KX'
        clear KX'
        have KY' := hide' (KY.out.below b)
        clear KY
        have KY := KY'
        clear KY'
        have KR' := hide' (KR.out.below b)
        clear KR
        have KR := KR'
        clear KR'
        clear b x0 x1 x2 x3 x4 x5 x6 C8
        obtain ⟨x0, x1, x2, x3, x4, x5, x6⟩ := RX.out.next C9.out
        go_wp2_with fail
        refine ((RPRE.out _ (AT.out.below C9.out)).mono (fun e w' (h : PreRefPost S n T _ e w') => show e = .returned (.bool false) ∧ Below _ _ w' from ⟨by rcases h.1 with q | q; exact q.1; exact absurd TWA.out q.2, h.2⟩)).mono ?_
        rintro e w7 ⟨rfl, b⟩
        have C10 := hide' (C9.out.trans (b.mono C9.out.size))
        have KO' := hide' (KO.out.below b)
        clear KO
        have KO := KO'
        clear KO'
        have KX' := hide' (KX.out.below b)
        clear KX
        have KX := KX'
        clear KX'
        have KY' := hide' (KY.out.below b)
        clear KY
        have KY := KY'
        clear KY'
        have KR' := hide' (KR.out.below b)
        clear KR
        have KR := KR'
        clear KR'
        clear b x0 x1 x2 x3 x4 x5 x6 C9
        obtain ⟨x0, x1, x2, x3, x4, x5, x6⟩ := RX.out.next C10.out
        go_wp2_with fail
        refine ((RONE.out _ (AT.out.below C10.out)).mono (fun e w' (h : OneRefPost S n T _ e w') => show e = .returned (.bool true) ∧ Below _ _ w' from ⟨by rcases h.1 with q | q; (obtain ⟨_, k, hk, ht⟩ := q; exact absurd ht (NTT.out k)); exact q.1, h.2⟩)).mono ?_
        rintro e w8 ⟨rfl, b⟩
        have C11 := hide' (C10.out.trans (b.mono C10.out.size))
        have KO' := hide' (KO.out.below b)
        clear KO
        have KO := KO'
        clear KO'
        have KX' := hide' (KX.out.below b)
        clear KX
        have KX := KX'
        clear KX'
        have KY' := hide' (KY.out.below b)
        clear KY
        have KY := KY'
        clear KY'
        have KR' := hide' (KR.out.below b)
        clear KR
        have KR := KR'
        clear KR'
        clear b x0 x1 x2 x3 x4 x5 x6 C10
        obtain ⟨x0, x1, x2, x3, x4, x5, x6⟩ := RX.out.next C11.out
        go_wp2_with fail
        refine (APA.out _ (AT.out.below C11.out) KX.out KY.out).mono ?_
        rintro e w9 ⟨rfl, b⟩
        have C12 := hide' (C11.out.trans (b.mono C11.out.size))
        have KO' := hide' (KO.out.below b)
        clear KO
        have KO := KO'
        clear KO'
        have KX' := hide' (KX.out.below b)
        clear KX
        have KX := KX'
        clear KX'
        have KY' := hide' (KY.out.below b)
        clear KY
        have KY := KY'
        clear KY'
        have KR' := hide' (KR.out.below b)
        clear KR
        have KR := KR'
        clear KR'
        clear b x0 x1 x2 x3 x4 x5 x6 C11
        obtain ⟨x0, x1, x2, x3, x4, x5, x6⟩ := RX.out.next C12.out
        go_wp2
        go_ret
        exact ⟨rfl, BB.out.trans (C12.out.mono BB.out.size)⟩
    · have NTW := hide' (show ¬ TwinAt S n T from fun h => twin_not_no h hno)
      clear hno
      have C4 := hide' (C3.out.trans (b.mono C3.out.size))
      have KO' := hide' (KO.out.below b)
      clear KO
      have KO := KO'
      clear KO'
      clear b x0 x1 x2 x3 x4 x5 x6 C3
      obtain ⟨x0, x1, x2, x3, x4, x5, x6⟩ := RX.out.next C4.out
      go_wp2_with fail
      refine (err_nil_true _).mono ?_
      rintro e w4 ⟨rfl, b⟩
      have C5 := hide' (C4.out.trans (b.mono C4.out.size))
      have KO' := hide' (KO.out.below b)
      clear KO
      have KO := KO'
      clear KO'
      clear b x0 x1 x2 x3 x4 x5 x6 C4
      obtain ⟨x0, x1, x2, x3, x4, x5, x6⟩ := RX.out.next C5.out
      go_wp2_with fail
      refine (ONE.out _ (AT.out.below C5.out)).mono ?_
      unfold OnePost
      rintro e w12 ⟨hor, b⟩
      rcases hor with ⟨u, ring, v1, v2, rfl, o1, o2, ir⟩ | ⟨rfl, hno⟩
      · have TT := hide' (ring_turn n0 ir)
        have ir2 := ir
        rw [← HNN.out] at ir2
        have rl : ring.length ≤ 257 := ir.2.2.2.2
        have r0 : 0 < ring.length := by obtain ⟨_, _, _, ⟨cs, d, e, _⟩, _⟩ := ir; rw [e]; simp
        obtain ⟨k1, k2, es, ne⟩ := ring_rings (by omega) ir2
        rw [show (ring.map fun y => Value.int .i64 (y.1 : Int)) = (ring.map fun y => (y.1 : Int)).map fun y => Value.int .i64 y by rw [List.map_map]; rfl] at o1
        rw [show (ring.map fun y => Value.int .i64 (y.2 : Int)) = (ring.map fun y => (y.2 : Int)).map fun y => Value.int .i64 y by rw [List.map_map]; rfl] at o2
        obtain ⟨gu, cu, rfl, ku, _, _⟩ := row_arg o1 (by simp) r0
        obtain ⟨gv, cv, rfl, kv, _, _⟩ := row_arg o2 (by simp) r0
        have KU := hide' ku
        have KV := hide' kv
        have RGA := hide' (fun (W : World) (h : ArgP W T ta tn tc) (h1 : ArgP W (ring.map fun y => (y.1 : Int)) (some ⟨gu, 0, none⟩) ring.length cu) (h2 : ArgP W (ring.map fun y => (y.2 : Int)) (some ⟨gv, 0, none⟩) ring.length cv) => ringsLaw_any S R T ta tn tc _ _ _ _ ring.length cu cv W HL.out h h1 h2 (by simp) (by simp) (wordE_ok (by simp; omega) k1) (wordE_ok (by simp; omega) k2) ne es)
        clear ir ir2 o1 o2 ku kv k1 k2 es ne
        have C6 := hide' (C5.out.trans (b.mono C5.out.size))
        have KO' := hide' (KO.out.below b)
        clear KO
        have KO := KO'
        clear KO'
        clear b x0 x1 x2 x3 x4 x5 x6 C5
        obtain ⟨x0, x1, x2, x3, x4, x5, x6⟩ := RX.out.next C6.out
        go_wp2_with fail
        refine (err_nil_true _).mono ?_
        rintro e w5 ⟨rfl, b⟩
        have C7 := hide' (C6.out.trans (b.mono C6.out.size))
        have KO' := hide' (KO.out.below b)
        clear KO
        have KO := KO'
        clear KO'
        have KU' := hide' (KU.out.below b)
        clear KU
        have KU := KU'
        clear KU'
        have KV' := hide' (KV.out.below b)
        clear KV
        have KV := KV'
        clear KV'
        clear b x0 x1 x2 x3 x4 x5 x6 C6
        obtain ⟨x0, x1, x2, x3, x4, x5, x6⟩ := RX.out.next C7.out
        go_wp2_with fail
        refine ((RORP.out _ (AT.out.below C7.out)).mono (fun e w' (h : RefOrphanPost S n T _ e w') => show (∃ g c, e = .returned (.tuple #[.slice (some ⟨g, 0, none⟩) wd.length c, .bool true]) ∧ Cel w' g wd) ∧ Below _ _ w' from by
          rcases h with ⟨wd', g', c', e1, ho', _, cl', b'⟩ | ⟨ho', _, _⟩
          · have q := orphan_one (by omega) HO.out ho'
            injection q with q
            subst q
            exact ⟨⟨g', c', e1, cl'⟩, b'⟩
          · exact absurd (orphan_one (by omega) HO.out ho') (by simp))).mono ?_
        rintro e w13 ⟨⟨go', co', rfl, clo⟩, b⟩
        have KR := hide' (show ArgP w13 wd (some ⟨go', 0, none⟩) wd.length co' from clo.argP rfl (by unfold maxLen; omega))
        clear clo
        have C8 := hide' (C7.out.trans (b.mono C7.out.size))
        have KO' := hide' (KO.out.below b)
        clear KO
        have KO := KO'
        clear KO'
        have KU' := hide' (KU.out.below b)
        clear KU
        have KU := KU'
        clear KU'
        have KV' := hide' (KV.out.below b)
        clear KV
        have KV := KV'
        clear KV'
        clear b x0 x1 x2 x3 x4 x5 x6 C7
        obtain ⟨x0, x1, x2, x3, x4, x5, x6⟩ := RX.out.next C8.out
        go_wp2_with fail
        refine (ints_yes wd _ _ _ _ _ _ _ KO.out KR.out).mono ?_
        rintro e w6 ⟨rfl, b⟩
        have C9 := hide' (C8.out.trans (b.mono C8.out.size))
        have KO' := hide' (KO.out.below b)
        clear KO
        have KO := KO'
        clear KO'
        have KU' := hide' (KU.out.below b)
        clear KU
        have KU := KU'
        clear KU'
        have KV' := hide' (KV.out.below b)
        clear KV
        have KV := KV'
        clear KV'
        have KR' := hide' (KR.out.below b)
        clear KR
        have KR := KR'
        clear KR'
        clear b x0 x1 x2 x3 x4 x5 x6 C8
        obtain ⟨x0, x1, x2, x3, x4, x5, x6⟩ := RX.out.next C9.out
        go_wp2_with fail
        refine ((RPRE.out _ (AT.out.below C9.out)).mono (fun e w' (h : PreRefPost S n T _ e w') => show e = .returned (.bool true) ∧ Below _ _ w' from ⟨by rcases h.1 with q | q; exact absurd q.2 NTW.out; exact q.1, h.2⟩)).mono ?_
        rintro e w7 ⟨rfl, b⟩
        have C10 := hide' (C9.out.trans (b.mono C9.out.size))
        have KO' := hide' (KO.out.below b)
        clear KO
        have KO := KO'
        clear KO'
        have KU' := hide' (KU.out.below b)
        clear KU
        have KU := KU'
        clear KU'
        have KV' := hide' (KV.out.below b)
        clear KV
        have KV := KV'
        clear KV'
        have KR' := hide' (KR.out.below b)
        clear KR
        have KR := KR'
        clear KR'
        clear b x0 x1 x2 x3 x4 x5 x6 C9
        obtain ⟨x0, x1, x2, x3, x4, x5, x6⟩ := RX.out.next C10.out
        go_wp2_with fail
        refine ((RONE.out _ (AT.out.below C10.out)).mono (fun e w' (h : OneRefPost S n T _ e w') => show e = .returned (.bool false) ∧ Below _ _ w' from ⟨by rcases h.1 with q | q; exact q.1; obtain ⟨k, hk, ht⟩ := TT.out; exact absurd ht (q.2 k hk), h.2⟩)).mono ?_
        rintro e w8 ⟨rfl, b⟩
        have C11 := hide' (C10.out.trans (b.mono C10.out.size))
        have KO' := hide' (KO.out.below b)
        clear KO
        have KO := KO'
        clear KO'
        have KU' := hide' (KU.out.below b)
        clear KU
        have KU := KU'
        clear KU'
        have KV' := hide' (KV.out.below b)
        clear KV
        have KV := KV'
        clear KV'
        have KR' := hide' (KR.out.below b)
        clear KR
        have KR := KR'
        clear KR'
        clear b x0 x1 x2 x3 x4 x5 x6 C10
        obtain ⟨x0, x1, x2, x3, x4, x5, x6⟩ := RX.out.next C11.out
        go_wp2_with fail
        refine (RGA.out _ (AT.out.below C11.out) KU.out KV.out).mono ?_
        rintro e w9 ⟨rfl, b⟩
        have C12 := hide' (C11.out.trans (b.mono C11.out.size))
        have KO' := hide' (KO.out.below b)
        clear KO
        have KO := KO'
        clear KO'
        have KU' := hide' (KU.out.below b)
        clear KU
        have KU := KU'
        clear KU'
        have KV' := hide' (KV.out.below b)
        clear KV
        have KV := KV'
        clear KV'
        have KR' := hide' (KR.out.below b)
        clear KR
        have KR := KR'
        clear KR'
        clear b x0 x1 x2 x3 x4 x5 x6 C11
        obtain ⟨x0, x1, x2, x3, x4, x5, x6⟩ := RX.out.next C12.out
        go_wp2
        go_ret
        exact ⟨rfl, BB.out.trans (C12.out.mono BB.out.size)⟩
      · have NTT := hide' (no_turn n0 hno)
        clear hno
        have C6 := hide' (C5.out.trans (b.mono C5.out.size))
        have KO' := hide' (KO.out.below b)
        clear KO
        have KO := KO'
        clear KO'
        clear b x0 x1 x2 x3 x4 x5 x6 C5
        obtain ⟨x0, x1, x2, x3, x4, x5, x6⟩ := RX.out.next C6.out
        go_wp2_with fail
        refine (err_nil_true _).mono ?_
        rintro e w5 ⟨rfl, b⟩
        have C7 := hide' (C6.out.trans (b.mono C6.out.size))
        have KO' := hide' (KO.out.below b)
        clear KO
        have KO := KO'
        clear KO'
        clear b x0 x1 x2 x3 x4 x5 x6 C6
        obtain ⟨x0, x1, x2, x3, x4, x5, x6⟩ := RX.out.next C7.out
        go_wp2_with fail
        refine ((RORP.out _ (AT.out.below C7.out)).mono (fun e w' (h : RefOrphanPost S n T _ e w') => show (∃ g c, e = .returned (.tuple #[.slice (some ⟨g, 0, none⟩) wd.length c, .bool true]) ∧ Cel w' g wd) ∧ Below _ _ w' from by
          rcases h with ⟨wd', g', c', e1, ho', _, cl', b'⟩ | ⟨ho', _, _⟩
          · have q := orphan_one (by omega) HO.out ho'
            injection q with q
            subst q
            exact ⟨⟨g', c', e1, cl'⟩, b'⟩
          · exact absurd (orphan_one (by omega) HO.out ho') (by simp))).mono ?_
        rintro e w13 ⟨⟨go', co', rfl, clo⟩, b⟩
        have KR := hide' (show ArgP w13 wd (some ⟨go', 0, none⟩) wd.length co' from clo.argP rfl (by unfold maxLen; omega))
        clear clo
        have C8 := hide' (C7.out.trans (b.mono C7.out.size))
        have KO' := hide' (KO.out.below b)
        clear KO
        have KO := KO'
        clear KO'
        clear b x0 x1 x2 x3 x4 x5 x6 C7
        obtain ⟨x0, x1, x2, x3, x4, x5, x6⟩ := RX.out.next C8.out
        go_wp2_with fail
        refine (ints_yes wd _ _ _ _ _ _ _ KO.out KR.out).mono ?_
        rintro e w6 ⟨rfl, b⟩
        have C9 := hide' (C8.out.trans (b.mono C8.out.size))
        have KO' := hide' (KO.out.below b)
        clear KO
        have KO := KO'
        clear KO'
        have KR' := hide' (KR.out.below b)
        clear KR
        have KR := KR'
        clear KR'
        clear b x0 x1 x2 x3 x4 x5 x6 C8
        obtain ⟨x0, x1, x2, x3, x4, x5, x6⟩ := RX.out.next C9.out
        go_wp2_with fail
        refine ((RPRE.out _ (AT.out.below C9.out)).mono (fun e w' (h : PreRefPost S n T _ e w') => show e = .returned (.bool true) ∧ Below _ _ w' from ⟨by rcases h.1 with q | q; exact absurd q.2 NTW.out; exact q.1, h.2⟩)).mono ?_
        rintro e w7 ⟨rfl, b⟩
        have C10 := hide' (C9.out.trans (b.mono C9.out.size))
        have KO' := hide' (KO.out.below b)
        clear KO
        have KO := KO'
        clear KO'
        have KR' := hide' (KR.out.below b)
        clear KR
        have KR := KR'
        clear KR'
        clear b x0 x1 x2 x3 x4 x5 x6 C9
        obtain ⟨x0, x1, x2, x3, x4, x5, x6⟩ := RX.out.next C10.out
        go_wp2_with fail
        refine ((RONE.out _ (AT.out.below C10.out)).mono (fun e w' (h : OneRefPost S n T _ e w') => show e = .returned (.bool true) ∧ Below _ _ w' from ⟨by rcases h.1 with q | q; (obtain ⟨_, k, hk, ht⟩ := q; exact absurd ht (NTT.out k)); exact q.1, h.2⟩)).mono ?_
        rintro e w8 ⟨rfl, b⟩
        have C11 := hide' (C10.out.trans (b.mono C10.out.size))
        have KO' := hide' (KO.out.below b)
        clear KO
        have KO := KO'
        clear KO'
        have KR' := hide' (KR.out.below b)
        clear KR
        have KR := KR'
        clear KR'
        clear b x0 x1 x2 x3 x4 x5 x6 C10
        obtain ⟨x0, x1, x2, x3, x4, x5, x6⟩ := RX.out.next C11.out
        go_wp2
        go_ret
        exact ⟨rfl, BB.out.trans (C11.out.mono BB.out.size)⟩
  · have HO := hide' ho
    clear ho
    have C2 := hide' (C1.out.trans (b.mono C1.out.size))
    clear b x0 x1 x2 x3 x4 x5 x6 C1
    obtain ⟨x0, x1, x2, x3, x4, x5, x6⟩ := RX.out.next C2.out
    go_wp2_with fail
    refine (err_nil_true _).mono ?_
    rintro e w3 ⟨rfl, b⟩
    have C3 := hide' (C2.out.trans (b.mono C2.out.size))
    clear b x0 x1 x2 x3 x4 x5 x6 C2
    obtain ⟨x0, x1, x2, x3, x4, x5, x6⟩ := RX.out.next C3.out
    go_wp2_with fail
    refine (PRE.out _ (AT.out.below C3.out)).mono ?_
    unfold PrePost
    rintro e w11 ⟨hor, b⟩
    rcases hor with ⟨p, full, v1, v2, rfl, o1, o2, tw⟩ | ⟨rfl, hno⟩
    · have tw2 := tw
      rw [← HNN.out] at tw2
      obtain ⟨l1, l2, e1, e2, ne, ap, tk, dr⟩ := twin_law HL.out tw2
      have f0 : 0 < full.length := by obtain ⟨_, _, ⟨cs, d, e, _⟩, _⟩ := tw; rw [e]; simp
      obtain ⟨L, hL⟩ : ∃ L, full.length + 2 * R = L := ⟨_, rfl⟩
      rw [show 2 * R + full.length = L by omega] at o1 o2
      rw [hL] at l1 l2
      obtain ⟨gx, cx, rfl, kx, hcx, hmx⟩ := row_arg o1 l1 (by omega)
      obtain ⟨gy, cy, rfl, ky, hcy, hmy⟩ := row_arg o2 l2 (by omega)
      have KX := hide' kx
      have KY := hide' ky
      have TWA := hide' (is_twin_at n0 tw)
      have APA := hide' (fun (W : World) (h : ArgP W T ta tn tc) (h1 : ArgP W (winL S (2 * R) p ++ full.map fun y => (y.1 : Int)) (some ⟨gx, 0, none⟩) L cx) (h2 : ArgP W (winL S (2 * R) p ++ full.map fun y => (y.2 : Int)) (some ⟨gy, 0, none⟩) L cy) => apart_any S R (2 * R) full.length T ta tn tc _ _ gx gy L cx cy W HL.out h h1 h2 l1 l2 e1 e2 ne ap rfl hL.symm hcx hcy hmx hmy tk dr f0)
      have lb : L ≤ 1000 := by rw [← l1]; exact (wordE_zero e1).1
      have lpos : 0 < L := by omega
      clear tw tw2 o1 o2 kx ky l1 l2 e1 e2 ne ap tk dr hcx hcy hmx hmy hL f0
      have C4 := hide' (C3.out.trans (b.mono C3.out.size))
      clear b x0 x1 x2 x3 x4 x5 x6 C3
      obtain ⟨x0, x1, x2, x3, x4, x5, x6⟩ := RX.out.next C4.out
      go_wp2_with fail
      refine (err_nil_true _).mono ?_
      rintro e w4 ⟨rfl, b⟩
      have C5 := hide' (C4.out.trans (b.mono C4.out.size))
      have KX' := hide' (KX.out.below b)
      clear KX
      have KX := KX'
      clear KX'
      have KY' := hide' (KY.out.below b)
      clear KY
      have KY := KY'
      clear KY'
      clear b x0 x1 x2 x3 x4 x5 x6 C4
      obtain ⟨x0, x1, x2, x3, x4, x5, x6⟩ := RX.out.next C5.out
      go_wp2_with fail
      refine (ONE.out _ (AT.out.below C5.out)).mono ?_
      unfold OnePost
      rintro e w12 ⟨hor, b⟩
      rcases hor with ⟨u, ring, v1, v2, rfl, o1, o2, ir⟩ | ⟨rfl, hno⟩
      · have TT := hide' (ring_turn n0 ir)
        have ir2 := ir
        rw [← HNN.out] at ir2
        have rl : ring.length ≤ 257 := ir.2.2.2.2
        have r0 : 0 < ring.length := by obtain ⟨_, _, _, ⟨cs, d, e, _⟩, _⟩ := ir; rw [e]; simp
        obtain ⟨k1, k2, es, ne⟩ := ring_rings (by omega) ir2
        rw [show (ring.map fun y => Value.int .i64 (y.1 : Int)) = (ring.map fun y => (y.1 : Int)).map fun y => Value.int .i64 y by rw [List.map_map]; rfl] at o1
        rw [show (ring.map fun y => Value.int .i64 (y.2 : Int)) = (ring.map fun y => (y.2 : Int)).map fun y => Value.int .i64 y by rw [List.map_map]; rfl] at o2
        obtain ⟨gu, cu, rfl, ku, _, _⟩ := row_arg o1 (by simp) r0
        obtain ⟨gv, cv, rfl, kv, _, _⟩ := row_arg o2 (by simp) r0
        have KU := hide' ku
        have KV := hide' kv
        have RGA := hide' (fun (W : World) (h : ArgP W T ta tn tc) (h1 : ArgP W (ring.map fun y => (y.1 : Int)) (some ⟨gu, 0, none⟩) ring.length cu) (h2 : ArgP W (ring.map fun y => (y.2 : Int)) (some ⟨gv, 0, none⟩) ring.length cv) => ringsLaw_any S R T ta tn tc _ _ _ _ ring.length cu cv W HL.out h h1 h2 (by simp) (by simp) (wordE_ok (by simp; omega) k1) (wordE_ok (by simp; omega) k2) ne es)
        clear ir ir2 o1 o2 ku kv k1 k2 es ne
        have C6 := hide' (C5.out.trans (b.mono C5.out.size))
        have KX' := hide' (KX.out.below b)
        clear KX
        have KX := KX'
        clear KX'
        have KY' := hide' (KY.out.below b)
        clear KY
        have KY := KY'
        clear KY'
        clear b x0 x1 x2 x3 x4 x5 x6 C5
        obtain ⟨x0, x1, x2, x3, x4, x5, x6⟩ := RX.out.next C6.out
        go_wp2_with fail
        refine (err_nil_true _).mono ?_
        rintro e w5 ⟨rfl, b⟩
        have C7 := hide' (C6.out.trans (b.mono C6.out.size))
        have KX' := hide' (KX.out.below b)
        clear KX
        have KX := KX'
        clear KX'
        have KY' := hide' (KY.out.below b)
        clear KY
        have KY := KY'
        clear KY'
        have KU' := hide' (KU.out.below b)
        clear KU
        have KU := KU'
        clear KU'
        have KV' := hide' (KV.out.below b)
        clear KV
        have KV := KV'
        clear KV'
        clear b x0 x1 x2 x3 x4 x5 x6 C6
        obtain ⟨x0, x1, x2, x3, x4, x5, x6⟩ := RX.out.next C7.out
        go_wp2_with fail
        refine ((RORP.out _ (AT.out.below C7.out)).mono (fun e w' (h : RefOrphanPost S n T _ e w') => show e = .returned (.tuple #[.slice none 0 0, .bool false]) ∧ Below _ _ w' from by
          rcases h with ⟨wd', g', c', e1, ho', _, cl', b'⟩ | ⟨ho', e1, b'⟩
          · exact absurd (orphan_one (by omega) HO.out ho') (by simp)
          · exact ⟨e1, b'⟩)).mono ?_
        rintro e w13 ⟨rfl, b⟩
        have C8 := hide' (C7.out.trans (b.mono C7.out.size))
        have KX' := hide' (KX.out.below b)
        clear KX
        have KX := KX'
        clear KX'
        have KY' := hide' (KY.out.below b)
        clear KY
        have KY := KY'
        clear KY'
        have KU' := hide' (KU.out.below b)
        clear KU
        have KU := KU'
        clear KU'
        have KV' := hide' (KV.out.below b)
        clear KV
        have KV := KV'
        clear KV'
        clear b x0 x1 x2 x3 x4 x5 x6 C7
        obtain ⟨x0, x1, x2, x3, x4, x5, x6⟩ := RX.out.next C8.out
        go_wp2_with fail
        refine (ints_yes [] none none 0 0 0 0 _ (argP_nil _) (argP_nil _)).mono ?_
        rintro e w6 ⟨rfl, b⟩
        have C9 := hide' (C8.out.trans (b.mono C8.out.size))
        have KX' := hide' (KX.out.below b)
        clear KX
        have KX := KX'
        clear KX'
        have KY' := hide' (KY.out.below b)
        clear KY
        have KY := KY'
        clear KY'
        have KU' := hide' (KU.out.below b)
        clear KU
        have KU := KU'
        clear KU'
        have KV' := hide' (KV.out.below b)
        clear KV
        have KV := KV'
        clear KV'
        clear b x0 x1 x2 x3 x4 x5 x6 C8
        obtain ⟨x0, x1, x2, x3, x4, x5, x6⟩ := RX.out.next C9.out
        go_wp2_with fail
        refine ((RPRE.out _ (AT.out.below C9.out)).mono (fun e w' (h : PreRefPost S n T _ e w') => show e = .returned (.bool false) ∧ Below _ _ w' from ⟨by rcases h.1 with q | q; exact q.1; exact absurd TWA.out q.2, h.2⟩)).mono ?_
        rintro e w7 ⟨rfl, b⟩
        have C10 := hide' (C9.out.trans (b.mono C9.out.size))
        have KX' := hide' (KX.out.below b)
        clear KX
        have KX := KX'
        clear KX'
        have KY' := hide' (KY.out.below b)
        clear KY
        have KY := KY'
        clear KY'
        have KU' := hide' (KU.out.below b)
        clear KU
        have KU := KU'
        clear KU'
        have KV' := hide' (KV.out.below b)
        clear KV
        have KV := KV'
        clear KV'
        clear b x0 x1 x2 x3 x4 x5 x6 C9
        obtain ⟨x0, x1, x2, x3, x4, x5, x6⟩ := RX.out.next C10.out
        go_wp2_with fail
        refine ((RONE.out _ (AT.out.below C10.out)).mono (fun e w' (h : OneRefPost S n T _ e w') => show e = .returned (.bool false) ∧ Below _ _ w' from ⟨by rcases h.1 with q | q; exact q.1; obtain ⟨k, hk, ht⟩ := TT.out; exact absurd ht (q.2 k hk), h.2⟩)).mono ?_
        rintro e w8 ⟨rfl, b⟩
        have C11 := hide' (C10.out.trans (b.mono C10.out.size))
        have KX' := hide' (KX.out.below b)
        clear KX
        have KX := KX'
        clear KX'
        have KY' := hide' (KY.out.below b)
        clear KY
        have KY := KY'
        clear KY'
        have KU' := hide' (KU.out.below b)
        clear KU
        have KU := KU'
        clear KU'
        have KV' := hide' (KV.out.below b)
        clear KV
        have KV := KV'
        clear KV'
        clear b x0 x1 x2 x3 x4 x5 x6 C10
        obtain ⟨x0, x1, x2, x3, x4, x5, x6⟩ := RX.out.next C11.out
        go_wp2_with fail
        refine (APA.out _ (AT.out.below C11.out) KX.out KY.out).mono ?_
        rintro e w9 ⟨rfl, b⟩
        have C12 := hide' (C11.out.trans (b.mono C11.out.size))
        have KX' := hide' (KX.out.below b)
        clear KX
        have KX := KX'
        clear KX'
        have KY' := hide' (KY.out.below b)
        clear KY
        have KY := KY'
        clear KY'
        have KU' := hide' (KU.out.below b)
        clear KU
        have KU := KU'
        clear KU'
        have KV' := hide' (KV.out.below b)
        clear KV
        have KV := KV'
        clear KV'
        clear b x0 x1 x2 x3 x4 x5 x6 C11
        obtain ⟨x0, x1, x2, x3, x4, x5, x6⟩ := RX.out.next C12.out
        go_wp2_with fail
        refine (RGA.out _ (AT.out.below C12.out) KU.out KV.out).mono ?_
        rintro e w10 ⟨rfl, b⟩
        have C13 := hide' (C12.out.trans (b.mono C12.out.size))
        have KX' := hide' (KX.out.below b)
        clear KX
        have KX := KX'
        clear KX'
        have KY' := hide' (KY.out.below b)
        clear KY
        have KY := KY'
        clear KY'
        have KU' := hide' (KU.out.below b)
        clear KU
        have KU := KU'
        clear KU'
        have KV' := hide' (KV.out.below b)
        clear KV
        have KV := KV'
        clear KV'
        clear b x0 x1 x2 x3 x4 x5 x6 C12
        obtain ⟨x0, x1, x2, x3, x4, x5, x6⟩ := RX.out.next C13.out
        go_wp2
        go_ret
        exact ⟨rfl, BB.out.trans (C13.out.mono BB.out.size)⟩
      · have NTT := hide' (no_turn n0 hno)
        clear hno
        have C6 := hide' (C5.out.trans (b.mono C5.out.size))
        have KX' := hide' (KX.out.below b)
        clear KX
        have KX := KX'
        clear KX'
        have KY' := hide' (KY.out.below b)
        clear KY
        have KY := KY'
        clear KY'
        clear b x0 x1 x2 x3 x4 x5 x6 C5
        obtain ⟨x0, x1, x2, x3, x4, x5, x6⟩ := RX.out.next C6.out
        go_wp2_with fail
        refine (err_nil_true _).mono ?_
        rintro e w5 ⟨rfl, b⟩
        have C7 := hide' (C6.out.trans (b.mono C6.out.size))
        have KX' := hide' (KX.out.below b)
        clear KX
        have KX := KX'
        clear KX'
        have KY' := hide' (KY.out.below b)
        clear KY
        have KY := KY'
        clear KY'
        clear b x0 x1 x2 x3 x4 x5 x6 C6
        obtain ⟨x0, x1, x2, x3, x4, x5, x6⟩ := RX.out.next C7.out
        go_wp2_with fail
        refine ((RORP.out _ (AT.out.below C7.out)).mono (fun e w' (h : RefOrphanPost S n T _ e w') => show e = .returned (.tuple #[.slice none 0 0, .bool false]) ∧ Below _ _ w' from by
          rcases h with ⟨wd', g', c', e1, ho', _, cl', b'⟩ | ⟨ho', e1, b'⟩
          · exact absurd (orphan_one (by omega) HO.out ho') (by simp)
          · exact ⟨e1, b'⟩)).mono ?_
        rintro e w13 ⟨rfl, b⟩
        have C8 := hide' (C7.out.trans (b.mono C7.out.size))
        have KX' := hide' (KX.out.below b)
        clear KX
        have KX := KX'
        clear KX'
        have KY' := hide' (KY.out.below b)
        clear KY
        have KY := KY'
        clear KY'
        clear b x0 x1 x2 x3 x4 x5 x6 C7
        obtain ⟨x0, x1, x2, x3, x4, x5, x6⟩ := RX.out.next C8.out
        go_wp2_with fail
        refine (ints_yes [] none none 0 0 0 0 _ (argP_nil _) (argP_nil _)).mono ?_
        rintro e w6 ⟨rfl, b⟩
        have C9 := hide' (C8.out.trans (b.mono C8.out.size))
        have KX' := hide' (KX.out.below b)
        clear KX
        have KX := KX'
        clear KX'
        have KY' := hide' (KY.out.below b)
        clear KY
        have KY := KY'
        clear KY'
        clear b x0 x1 x2 x3 x4 x5 x6 C8
        obtain ⟨x0, x1, x2, x3, x4, x5, x6⟩ := RX.out.next C9.out
        go_wp2_with fail
        refine ((RPRE.out _ (AT.out.below C9.out)).mono (fun e w' (h : PreRefPost S n T _ e w') => show e = .returned (.bool false) ∧ Below _ _ w' from ⟨by rcases h.1 with q | q; exact q.1; exact absurd TWA.out q.2, h.2⟩)).mono ?_
        rintro e w7 ⟨rfl, b⟩
        have C10 := hide' (C9.out.trans (b.mono C9.out.size))
        have KX' := hide' (KX.out.below b)
        clear KX
        have KX := KX'
        clear KX'
        have KY' := hide' (KY.out.below b)
        clear KY
        have KY := KY'
        clear KY'
        clear b x0 x1 x2 x3 x4 x5 x6 C9
        obtain ⟨x0, x1, x2, x3, x4, x5, x6⟩ := RX.out.next C10.out
        go_wp2_with fail
        refine ((RONE.out _ (AT.out.below C10.out)).mono (fun e w' (h : OneRefPost S n T _ e w') => show e = .returned (.bool true) ∧ Below _ _ w' from ⟨by rcases h.1 with q | q; (obtain ⟨_, k, hk, ht⟩ := q; exact absurd ht (NTT.out k)); exact q.1, h.2⟩)).mono ?_
        rintro e w8 ⟨rfl, b⟩
        have C11 := hide' (C10.out.trans (b.mono C10.out.size))
        have KX' := hide' (KX.out.below b)
        clear KX
        have KX := KX'
        clear KX'
        have KY' := hide' (KY.out.below b)
        clear KY
        have KY := KY'
        clear KY'
        clear b x0 x1 x2 x3 x4 x5 x6 C10
        obtain ⟨x0, x1, x2, x3, x4, x5, x6⟩ := RX.out.next C11.out
        go_wp2_with fail
        refine (APA.out _ (AT.out.below C11.out) KX.out KY.out).mono ?_
        rintro e w9 ⟨rfl, b⟩
        have C12 := hide' (C11.out.trans (b.mono C11.out.size))
        have KX' := hide' (KX.out.below b)
        clear KX
        have KX := KX'
        clear KX'
        have KY' := hide' (KY.out.below b)
        clear KY
        have KY := KY'
        clear KY'
        clear b x0 x1 x2 x3 x4 x5 x6 C11
        obtain ⟨x0, x1, x2, x3, x4, x5, x6⟩ := RX.out.next C12.out
        go_wp2
        go_ret
        exact ⟨rfl, BB.out.trans (C12.out.mono BB.out.size)⟩
    · have NTW := hide' (show ¬ TwinAt S n T from fun h => twin_not_no h hno)
      clear hno
      have C4 := hide' (C3.out.trans (b.mono C3.out.size))
      clear b x0 x1 x2 x3 x4 x5 x6 C3
      obtain ⟨x0, x1, x2, x3, x4, x5, x6⟩ := RX.out.next C4.out
      go_wp2_with fail
      refine (err_nil_true _).mono ?_
      rintro e w4 ⟨rfl, b⟩
      have C5 := hide' (C4.out.trans (b.mono C4.out.size))
      clear b x0 x1 x2 x3 x4 x5 x6 C4
      obtain ⟨x0, x1, x2, x3, x4, x5, x6⟩ := RX.out.next C5.out
      go_wp2_with fail
      refine (ONE.out _ (AT.out.below C5.out)).mono ?_
      unfold OnePost
      rintro e w12 ⟨hor, b⟩
      rcases hor with ⟨u, ring, v1, v2, rfl, o1, o2, ir⟩ | ⟨rfl, hno⟩
      · have TT := hide' (ring_turn n0 ir)
        have ir2 := ir
        rw [← HNN.out] at ir2
        have rl : ring.length ≤ 257 := ir.2.2.2.2
        have r0 : 0 < ring.length := by obtain ⟨_, _, _, ⟨cs, d, e, _⟩, _⟩ := ir; rw [e]; simp
        obtain ⟨k1, k2, es, ne⟩ := ring_rings (by omega) ir2
        rw [show (ring.map fun y => Value.int .i64 (y.1 : Int)) = (ring.map fun y => (y.1 : Int)).map fun y => Value.int .i64 y by rw [List.map_map]; rfl] at o1
        rw [show (ring.map fun y => Value.int .i64 (y.2 : Int)) = (ring.map fun y => (y.2 : Int)).map fun y => Value.int .i64 y by rw [List.map_map]; rfl] at o2
        obtain ⟨gu, cu, rfl, ku, _, _⟩ := row_arg o1 (by simp) r0
        obtain ⟨gv, cv, rfl, kv, _, _⟩ := row_arg o2 (by simp) r0
        have KU := hide' ku
        have KV := hide' kv
        have RGA := hide' (fun (W : World) (h : ArgP W T ta tn tc) (h1 : ArgP W (ring.map fun y => (y.1 : Int)) (some ⟨gu, 0, none⟩) ring.length cu) (h2 : ArgP W (ring.map fun y => (y.2 : Int)) (some ⟨gv, 0, none⟩) ring.length cv) => ringsLaw_any S R T ta tn tc _ _ _ _ ring.length cu cv W HL.out h h1 h2 (by simp) (by simp) (wordE_ok (by simp; omega) k1) (wordE_ok (by simp; omega) k2) ne es)
        clear ir ir2 o1 o2 ku kv k1 k2 es ne
        have C6 := hide' (C5.out.trans (b.mono C5.out.size))
        clear b x0 x1 x2 x3 x4 x5 x6 C5
        obtain ⟨x0, x1, x2, x3, x4, x5, x6⟩ := RX.out.next C6.out
        go_wp2_with fail
        refine (err_nil_true _).mono ?_
        rintro e w5 ⟨rfl, b⟩
        have C7 := hide' (C6.out.trans (b.mono C6.out.size))
        have KU' := hide' (KU.out.below b)
        clear KU
        have KU := KU'
        clear KU'
        have KV' := hide' (KV.out.below b)
        clear KV
        have KV := KV'
        clear KV'
        clear b x0 x1 x2 x3 x4 x5 x6 C6
        obtain ⟨x0, x1, x2, x3, x4, x5, x6⟩ := RX.out.next C7.out
        go_wp2_with fail
        refine ((RORP.out _ (AT.out.below C7.out)).mono (fun e w' (h : RefOrphanPost S n T _ e w') => show e = .returned (.tuple #[.slice none 0 0, .bool false]) ∧ Below _ _ w' from by
          rcases h with ⟨wd', g', c', e1, ho', _, cl', b'⟩ | ⟨ho', e1, b'⟩
          · exact absurd (orphan_one (by omega) HO.out ho') (by simp)
          · exact ⟨e1, b'⟩)).mono ?_
        rintro e w13 ⟨rfl, b⟩
        have C8 := hide' (C7.out.trans (b.mono C7.out.size))
        have KU' := hide' (KU.out.below b)
        clear KU
        have KU := KU'
        clear KU'
        have KV' := hide' (KV.out.below b)
        clear KV
        have KV := KV'
        clear KV'
        clear b x0 x1 x2 x3 x4 x5 x6 C7
        obtain ⟨x0, x1, x2, x3, x4, x5, x6⟩ := RX.out.next C8.out
        go_wp2_with fail
        refine (ints_yes [] none none 0 0 0 0 _ (argP_nil _) (argP_nil _)).mono ?_
        rintro e w6 ⟨rfl, b⟩
        have C9 := hide' (C8.out.trans (b.mono C8.out.size))
        have KU' := hide' (KU.out.below b)
        clear KU
        have KU := KU'
        clear KU'
        have KV' := hide' (KV.out.below b)
        clear KV
        have KV := KV'
        clear KV'
        clear b x0 x1 x2 x3 x4 x5 x6 C8
        obtain ⟨x0, x1, x2, x3, x4, x5, x6⟩ := RX.out.next C9.out
        go_wp2_with fail
        refine ((RPRE.out _ (AT.out.below C9.out)).mono (fun e w' (h : PreRefPost S n T _ e w') => show e = .returned (.bool true) ∧ Below _ _ w' from ⟨by rcases h.1 with q | q; exact absurd q.2 NTW.out; exact q.1, h.2⟩)).mono ?_
        rintro e w7 ⟨rfl, b⟩
        have C10 := hide' (C9.out.trans (b.mono C9.out.size))
        have KU' := hide' (KU.out.below b)
        clear KU
        have KU := KU'
        clear KU'
        have KV' := hide' (KV.out.below b)
        clear KV
        have KV := KV'
        clear KV'
        clear b x0 x1 x2 x3 x4 x5 x6 C9
        obtain ⟨x0, x1, x2, x3, x4, x5, x6⟩ := RX.out.next C10.out
        go_wp2_with fail
        refine ((RONE.out _ (AT.out.below C10.out)).mono (fun e w' (h : OneRefPost S n T _ e w') => show e = .returned (.bool false) ∧ Below _ _ w' from ⟨by rcases h.1 with q | q; exact q.1; obtain ⟨k, hk, ht⟩ := TT.out; exact absurd ht (q.2 k hk), h.2⟩)).mono ?_
        rintro e w8 ⟨rfl, b⟩
        have C11 := hide' (C10.out.trans (b.mono C10.out.size))
        have KU' := hide' (KU.out.below b)
        clear KU
        have KU := KU'
        clear KU'
        have KV' := hide' (KV.out.below b)
        clear KV
        have KV := KV'
        clear KV'
        clear b x0 x1 x2 x3 x4 x5 x6 C10
        obtain ⟨x0, x1, x2, x3, x4, x5, x6⟩ := RX.out.next C11.out
        go_wp2_with fail
        refine (RGA.out _ (AT.out.below C11.out) KU.out KV.out).mono ?_
        rintro e w9 ⟨rfl, b⟩
        have C12 := hide' (C11.out.trans (b.mono C11.out.size))
        have KU' := hide' (KU.out.below b)
        clear KU
        have KU := KU'
        clear KU'
        have KV' := hide' (KV.out.below b)
        clear KV
        have KV := KV'
        clear KV'
        clear b x0 x1 x2 x3 x4 x5 x6 C11
        obtain ⟨x0, x1, x2, x3, x4, x5, x6⟩ := RX.out.next C12.out
        go_wp2
        go_ret
        exact ⟨rfl, BB.out.trans (C12.out.mono BB.out.size)⟩
      · have NTT := hide' (no_turn n0 hno)
        clear hno
        have C6 := hide' (C5.out.trans (b.mono C5.out.size))
        clear b x0 x1 x2 x3 x4 x5 x6 C5
        obtain ⟨x0, x1, x2, x3, x4, x5, x6⟩ := RX.out.next C6.out
        go_wp2_with fail
        refine (err_nil_true _).mono ?_
        rintro e w5 ⟨rfl, b⟩
        have C7 := hide' (C6.out.trans (b.mono C6.out.size))
        clear b x0 x1 x2 x3 x4 x5 x6 C6
        obtain ⟨x0, x1, x2, x3, x4, x5, x6⟩ := RX.out.next C7.out
        go_wp2_with fail
        refine ((RORP.out _ (AT.out.below C7.out)).mono (fun e w' (h : RefOrphanPost S n T _ e w') => show e = .returned (.tuple #[.slice none 0 0, .bool false]) ∧ Below _ _ w' from by
          rcases h with ⟨wd', g', c', e1, ho', _, cl', b'⟩ | ⟨ho', e1, b'⟩
          · exact absurd (orphan_one (by omega) HO.out ho') (by simp)
          · exact ⟨e1, b'⟩)).mono ?_
        rintro e w13 ⟨rfl, b⟩
        have C8 := hide' (C7.out.trans (b.mono C7.out.size))
        clear b x0 x1 x2 x3 x4 x5 x6 C7
        obtain ⟨x0, x1, x2, x3, x4, x5, x6⟩ := RX.out.next C8.out
        go_wp2_with fail
        refine (ints_yes [] none none 0 0 0 0 _ (argP_nil _) (argP_nil _)).mono ?_
        rintro e w6 ⟨rfl, b⟩
        have C9 := hide' (C8.out.trans (b.mono C8.out.size))
        clear b x0 x1 x2 x3 x4 x5 x6 C8
        obtain ⟨x0, x1, x2, x3, x4, x5, x6⟩ := RX.out.next C9.out
        go_wp2_with fail
        refine ((RPRE.out _ (AT.out.below C9.out)).mono (fun e w' (h : PreRefPost S n T _ e w') => show e = .returned (.bool true) ∧ Below _ _ w' from ⟨by rcases h.1 with q | q; exact absurd q.2 NTW.out; exact q.1, h.2⟩)).mono ?_
        rintro e w7 ⟨rfl, b⟩
        have C10 := hide' (C9.out.trans (b.mono C9.out.size))
        clear b x0 x1 x2 x3 x4 x5 x6 C9
        obtain ⟨x0, x1, x2, x3, x4, x5, x6⟩ := RX.out.next C10.out
        go_wp2_with fail
        refine ((RONE.out _ (AT.out.below C10.out)).mono (fun e w' (h : OneRefPost S n T _ e w') => show e = .returned (.bool true) ∧ Below _ _ w' from ⟨by rcases h.1 with q | q; (obtain ⟨_, k, hk, ht⟩ := q; exact absurd ht (NTT.out k)); exact q.1, h.2⟩)).mono ?_
        rintro e w8 ⟨rfl, b⟩
        have C11 := hide' (C10.out.trans (b.mono C10.out.size))
        clear b x0 x1 x2 x3 x4 x5 x6 C10
        obtain ⟨x0, x1, x2, x3, x4, x5, x6⟩ := RX.out.next C11.out
        go_wp2
        go_ret
        exact ⟨rfl, BB.out.trans (C11.out.mono BB.out.size)⟩

/-- At every rule. -/
theorem law_dec_all (o : Out) (ta : Option Addr) (tn tc : Nat) (w : World) (hR : ArgR w o ta tn tc) (hg : Handle w) (hz : TzTab w) :
    Calls Tryd.prog 12 #[.agg #[.int .i64 o.kind, .int .i64 o.born, .int .i64 o.stay, .int .i64 o.states, .int .i64 o.radius, .slice ta tn tc, .string o.turns]] w fun e w' => e = .returned (.bool true) ∧ Below w.heap.size w w' := by
  by_cases h : Good o ∧ o.kind = 2
  · obtain ⟨S, R, e, hL⟩ := good_line o h.1 h.2
    have hT : ArgP w o.table ta tn tc := ⟨hR.len, hR.max, hR.cells⟩
    obtain ⟨T, hTe⟩ : ∃ T, o.table = T := ⟨_, rfl⟩
    rw [hTe] at e hL hT
    subst e
    by_cases he : askE S R [] = 0
    · exact law_dec_ok S R T ta tn tc w hL hT hg he hz
    · exact law_dec_bad S R T ta tn tc w hL hT hg he
  · exact law_dec_off o ta tn tc w hR h hg
end Go.Proofs.YtdhbdkkchobinaaDoor

