/-
  What the last text of this claim leans on, part 31: Ry6.
-/
import Derived.Test.YtdhbdkkchobinabJx30
namespace Go.Proofs.Ytdhbdkkchobinab
open Go.RowKit
set_option linter.unusedVariables false

theorem zeroInt (w : World) : (zeroValue 3).run Try.prog w = .ok (.int .i64 0) w := by kernel_rfl

set_option maxRecDepth 100000 in
set_option maxHeartbeats 1600000 in
theorem lineCycle_off (o : Out) (ta : Option Addr) (tn tc : Nat) (v : Value) (w : World) (hR : ArgR w o ta tn tc) (h : ¬ (Good o ∧ o.kind = 2)) :
    Calls Try.prog 5 #[.agg #[.int .i64 o.kind, .int .i64 o.born, .int .i64 o.stay, .int .i64 o.states, .int .i64 o.radius, .slice ta tn tc, .string o.turns], v] w (CycleErr 1 w) := by
  obtain ⟨w1, hw1⟩ : ∃ w1, w.alloc (.cells #[.int .i64 o.kind, .int .i64 o.born, .int .i64 o.stay, .int .i64 o.states, .int .i64 o.radius, .slice ta tn tc, .string o.turns] 24) = w1 := ⟨_, rfl⟩
  have BB := hide' (show Below w.heap.size w w1 by rw [← hw1]; exact (Below.refl _ _).alloc (Nat.le_refl _) _)
  have RX := hide' (show RBo w.heap.size o (.slice ta tn tc) w1 by rw [← hw1]; exact RBo.new w o _ _)
  have AT := hide' (show ArgR w1 o ta tn tc by rw [← hw1]; exact hR.alloc _)
  have HH := hide' h
  clear hR h
  obtain ⟨x0, x1, x2, x3, x4, x5, x6⟩ := RX.out
  go_enter Try.func5, Try.ntmps5
  go_wp2_with fail
  refine (lineCheck_off o ta tn tc v _ AT.out HH.out).mono ?_
  rintro e w2 ⟨rfl, b2⟩
  have B2 := hide' (BB.out.trans (b2.mono BB.out.size))
  clear x0 x1 x2 x3 x4 x5 x6 b2 hw1
  go_wp2
  go_ret3
  exact ⟨rfl, B2.out⟩

set_option maxRecDepth 100000 in
set_option maxHeartbeats 1600000 in
theorem lineCycle_word (S R : Nat) (T : List Int) (ta : Option Addr) (tn tc : Nat) (ws : List Int) (wa : Option Addr) (wc : Nat) (w : World)
    (hL : LineOk S R T) (hT : ArgP w T ta tn tc) (hW : ArgP w ws wa ws.length wc) (he : wordE S ws ≠ 0) :
    Calls Try.prog 5 #[.agg #[.int .i64 2, .int .i64 0, .int .i64 0, .int .i64 (S : Int), .int .i64 (R : Int), .slice ta tn tc, .string ⟨#[]⟩], .slice wa ws.length wc] w (CycleErr (wordE S ws) w) := by
  obtain ⟨w1, hw1⟩ : ∃ w1, w.alloc (.cells #[.int .i64 2, .int .i64 0, .int .i64 0, .int .i64 (S : Int), .int .i64 (R : Int), .slice ta tn tc, .string ⟨#[]⟩] 24) = w1 := ⟨_, rfl⟩
  have BB := hide' (show Below w.heap.size w w1 by rw [← hw1]; exact (Below.refl _ _).alloc (Nat.le_refl _) _)
  have RX := hide' (show RB w.heap.size S R (.slice ta tn tc) w1 by rw [← hw1]; exact RB.new w S R _ _)
  have AT := hide' (hT.below BB.out)
  have AW := hide' (hW.below BB.out)
  have HL := hide' hL
  obtain ⟨f, hf⟩ : ∃ f, wordE S ws = f := ⟨_, rfl⟩
  have ER := hide' (show errOf (wordE S ws) = .iface 43 (.int .i64 (f : Int)) by rw [hf]; exact errOf_ne (by rw [← hf]; exact he))
  rw [hf]
  clear hT hW hL he hf
  obtain ⟨x0, x1, x2, x3, x4, x5, x6⟩ := RX.out
  go_enter Try.func5, Try.ntmps5
  go_wp2_with fail
  refine (lineCheck_line S R T ta tn tc ws wa ws.length wc _ HL.out AT.out AW.out).mono ?_
  rw [ER.out]
  rintro e w2 ⟨rfl, b2⟩
  have B2 := hide' (BB.out.trans (b2.mono BB.out.size))
  clear x0 x1 x2 x3 x4 x5 x6 b2 hw1
  go_wp2
  go_ret3
  exact ⟨rfl, B2.out⟩

set_option maxRecDepth 100000 in
set_option maxHeartbeats 6400000 in
theorem lineCycle_full (S R : Nat) (T : List Int) (ta : Option Addr) (tn tc : Nat) (ws : List Int) (wa : Addr) (wc : Nat) (w : World)
    (hL : LineOk S R T) (hT : ArgP w T ta tn tc) (hW : ArgP w ws (some wa) ws.length wc) (he : wordE S ws = 0) (h0 : 0 < ws.length) :
    Calls Try.prog 5 #[.agg #[.int .i64 2, .int .i64 0, .int .i64 0, .int .i64 (S : Int), .int .i64 (R : Int), .slice ta tn tc, .string ⟨#[]⟩], .slice (some wa) ws.length wc] w (CyclePost (fun n => runL S R T n ws) w) := by
  obtain ⟨w1, hw1⟩ : ∃ w1, w.alloc (.cells #[.int .i64 2, .int .i64 0, .int .i64 0, .int .i64 (S : Int), .int .i64 (R : Int), .slice ta tn tc, .string ⟨#[]⟩] 24) = w1 := ⟨_, rfl⟩
  have z1 : w1.heap.size = w.heap.size + 1 := by rw [← hw1]; simp
  have BB := hide' (show Below w.heap.size w w1 by rw [← hw1]; exact (Below.refl _ _).alloc (Nat.le_refl _) _)
  have RX := hide' (show RB w.heap.size S R (.slice ta tn tc) w1 by rw [← hw1]; exact RB.new w S R _ _)
  have AT := hide' (hT.below BB.out)
  have AW := hide' (hW.below BB.out)
  have HL := hide' hL
  have TBK := hide' (hT.blk (by have := hT.len; have := hL.pos; omega))
  have TB0 := hide' (show ∀ g off, ta = some ⟨g, off, none⟩ → g < w.heap.size from TBK.out)
  obtain ⟨i0, hi, hz0, hz1, hz2⟩ := info_parts info_int
  have hmm := @run_makeMap Try.prog
  obtain ⟨g, hg⟩ : ∃ g : Nat → List Int, (fun n => runL S R T n ws) = g := ⟨_, rfl⟩
  have HG := hide' hg
  rw [hg]
  clear hg
  obtain ⟨hl, hok⟩ := wordE_zero he
  have HE := hide' he
  have HO := hide' hok
  have H0 := hide' h0
  have hlw : ws.length ≤ 1000 := hl
  have LN := hide' (fun i => show (runL (S : Int) R T i ws).length = ws.length from runL_length (S : Int) R T ws i)
  have LO := hide' (fun i => runL_ok (S := (S : Int)) (R := R) (T := T) (xs := ws) (by have := hL.s2; omega) hL.lenI hL.ok hok i)
  clear hT hW hL he hok h0 hl
  obtain ⟨x0, x1, x2, x3, x4, x5, x6⟩ := RX.out
  go_enter Try.func5, Try.ntmps5
  go_wp2_with fail
  refine (lineCheck_line S R T ta tn tc ws (some wa) ws.length wc _ HL.out AT.out AW.out).mono ?_
  rw [HE.out, show errOf 0 = .nilIface from rfl]
  rintro e w2 ⟨rfl, b2⟩
  have s2 := b2.size
  have B2 := hide' (BB.out.trans (b2.mono BB.out.size))
  have RX2 := hide' (RX.out.next b2)
  have AT2 := hide' (AT.out.below b2)
  have NW := hide' (news_ints (AW.out.below b2))
  clear x0 x1 x2 x3 x4 x5 x6 hw1 b2
  obtain ⟨x0, x1, x2, x3, x4, x5, x6⟩ := RX2.out
  go_wp2_with (at_builtin; refine wpList_append_own _ rfl _ _ 22 rfl w2.heap.size 3 i0 (.int .i64 0) 1 8 Try.underlying22 hi hz0 hz1 hz2 rfl (by decide) (.slice none 0 0) 0 [] rfl ⟨by simp, Or.inl ⟨rfl, by simp⟩⟩ wa ws.length wc (ws.map fun x => .int .i64 x) rfl (by simp) NW.out (fun x hx => by obtain ⟨y, -, rfl⟩ := List.mem_map.1 hx; rfl) (by unfold maxLen; omega) (by omega) (by simp) ?_; intro v' w3 hown' hgrow3 hnil3; obtain ⟨gr, cr, rfl, hgr, hc1, hc2, ce⟩ := ownsRow_cel hown' H0.out; have CE := hide' ce; have B3 := hide' (grown_below hgrow3); have RX3 := hide' (RX2.out.next B3.out); have AT3 := hide' (AT2.out.below B3.out); clear hgrow3 hown' hnil3 ce x0 x1 x2 x3 x4 x5 x6 hc1 hc2; obtain ⟨x0, x1, x2, x3, x4, x5, x6⟩ := RX3.out)
  have s3 := B3.out.size
  have lgr := CE.out.lt
  refine (stepper_any S R T ta tn tc ws.length _ HL.out AT3.out hlw (fun g off e => by have := TBK.out g off e; omega)).mono ?_
  rintro e w4 ⟨rfl, st, b4, s4⟩
  have CE4 := hide' (CE.out.below b4)
  have s4' : w4.heap.size = w3.heap.size + 3 := s4
  have B4 := hide' (show Below w.heap.size w w4 from ((B2.out.trans (B3.out.mono (by omega))).trans (b4.mono (by omega))))
  have hg := HG.out
  have INJ := hide' (show ∀ i j, klOf (g i) = klOf (g j) → g i = g j by
    intro i j e
    rw [← hg] at e ⊢
    exact klOf_inj HL.out.s4 (LO.out i) (LO.out j) (by rw [LN.out i, LN.out j]) e)
  have KS := hide' (show ∀ i, (keyB (g i)).length ≤ 1000 by
    intro i
    rw [← hg]
    have := LN.out i
    simp only [keyB, List.length_map, List.length_range]
    omega)
  obtain ⟨Q, RSS, Q0⟩ : ∃ Q : Nat → World → Prop, Hid (RS g (some ⟨gr, 0, none⟩) ws.length cr (w3.heap.size + 2) w3.heap.size (w3.heap.size + 3) w.heap.size Q) ∧ Hid (Q 0 w4) := by
    rw [← hg]
    exact ⟨_, hide' (RS.full S R T ta tn tc ws w3.heap.size gr cr w.heap.size HL.out H0.out hlw HO.out (by omega) (by omega) (by omega) TB0.out), hide' ⟨CE4.out, _, st⟩⟩
  have HKEY := hide' (show ∀ i, keyOf Try.prog 9 (.string ⟨(keyB (g i)).toArray⟩) = some (klOf (g i)) by
    intro i
    have := WideMaps.keyOf_string_mk (P := Try.prog) Try.underlying9 (s := ⟨(keyB (g i)).toArray⟩) (by have := KS.out i; simp [ByteArray.size, maxLen]; omega)
    rw [this]
    simp [klOf])
  have LAW := hide' (Maps.string_keyed (P := Try.prog) Try.underlying9)
  have OW0 := hide' (World.ownsMap_made w4 Try.prog 9 (plainElem (H := Unit) Try.prog 3))
  clear hg HG LO LN KS x0 x1 x2 x3 x4 x5 x6 st b4
  obtain ⟨M, hM⟩ : ∃ M, w3.heap.size + 3 = M := ⟨_, rfl⟩
  rw [hM] at RSS s4'
  rw [s4'] at OW0
  go_wp2
  try rw [s4']
  go_loopw [11] (fun nv wr => ∃ k : Nat, nv = .int .i64 (k : Int) ∧ k ≤ 100001 ∧ Hid (Q k wr ∧ wr.ownsMap Try.prog 9 (plainElem (H := Unit) Try.prog 3) M k (DM g k) ∧ (∀ i j, i < j → j < k → g i ≠ g j) ∧ Below w.heap.size w wr ∧ M < wr.heap.size)) (fun nv _ => 100002 - (intOf nv).toNat)
  case atStart => exact ⟨0, rfl, by omega, hide' ⟨RSS.out.kept 0 _ _ Q0.out ((Below.refl _ _).alloc (by omega) _), OW0.out, fun i j h1 h2 => by omega, B4.out.alloc (by omega) _, by simp; omega⟩⟩
  case round =>
    clear OW0 Q0 B4 hmm
    obtain ⟨k, rfl, k1, HH⟩ := hrel
    by_cases d : (k : Int) ≤ 100000
    · go_wp2_with fail
      refine (RSS.out.key k _ HH.out.1).mono ?_
      rintro e w5 ⟨rfl, b5⟩
      have Q5 := hide' (RSS.out.kept k _ w5 HH.out.1 (b5.mono (Nat.le_of_lt HH.out.2.2.2.2)))
      have O5 := hide' (ownsMap_of_block HH.out.2.1 (b5.block M HH.out.2.2.2.2))
      have DI := hide' HH.out.2.2.1
      have B5 := hide' (HH.out.2.2.2.1.trans (b5.mono HH.out.2.2.2.1.size))
      have M5 := hide' (Nat.lt_of_lt_of_le HH.out.2.2.2.2 b5.size)
      have DK := hide' (show ∀ i j, i < j → j < k → klOf (g i) ≠ klOf (g j) from fun i j h1 h2 e => DI.out i j h1 h2 (INJ.out i j e))
      have HK := hide' (HKEY.out k)
      clear b5 HH
      by_cases hit : ∃ i, i < k ∧ g i = g k
      · obtain ⟨i, hik, hgi⟩ := hit
        have FI := hide' (show First g i (k - i) from ⟨by omega, by rw [show i + (k - i) = k by omega]; exact hgi, fun a b h1 h2 => DI.out a b h1 (by omega)⟩)
        have AT1 := hide' (DM_at g (.lit (.int .i64 0)) k i hik DK.out)
        rw [hgi] at AT1
        have A1 := hide' AT1.out.1
        have A2 := hide' AT1.out.2
        clear hgi AT1
        go_wp2_with (at_lookup; refine wpList_lookup_here _ rfl _ _ 40 rfl 9 3 .i64 LAW.out Try.underlying40 Try.underlying3 (zeroInt _) M k (DM g k) rfl O5.out _ (klOf (g k)) rfl HK.out (i : Int) true A2.out A1.out ?_)
        go_ret3
        exact ⟨Or.inl ⟨i, k - i, FI.out, by omega, by rw [show ((k - i : Nat) : Int) = (k : Int) - (i : Int) by omega]; rfl⟩, B5.out⟩
      · have A1 := hide' (DM_not g (g k) k (fun i h e => hit ⟨i, h, INJ.out i k e⟩))
        have A2 := hide' (Maps.atKey_of_not_has A1.out (.lit (.int .i64 0)))
        have DN := hide' (show ∀ i j, i < j → j < k + 1 → g i ≠ g j from fun i j h1 h2 e => by
          by_cases q : j = k
          · subst q; exact hit ⟨i, h1, e⟩
          · exact DI.out i j h1 (by omega) e)
        clear hit
        go_wp2_with (first | (at_lookup; refine wpList_lookup_here _ rfl _ _ 40 rfl 9 3 .i64 LAW.out Try.underlying40 Try.underlying3 (zeroInt _) M k (DM g k) rfl O5.out _ (klOf (g k)) rfl HK.out 0 false A2.out A1.out ?_) | (at_mapUpdate; refine wpList_mapUpdate_own _ rfl _ _ _ 40 rfl 9 3 LAW.out Try.underlying40 _ M k _ rfl O5.out (by unfold maxLen; omega) _ _ _ rfl rfl HK.out _ [] (plainElem_int Try.underlying3 (WalkArith.wf_i64 (by omega))) ?_; intro w6 hown6 hgrow6; have O6 := hide' hown6; have G6 := hide' hgrow6; clear hown6 hgrow6))
        have Q6 := hide' (RSS.out.kept k _ w6 Q5.out (below_of_grown G6.out (Nat.le_refl _) (Nat.le_of_lt M5.out)))
        have B6 := hide' (B5.out.trans (below_of_grown G6.out (by omega) B5.out.size))
        have M6 := hide' (Nat.lt_of_lt_of_le M5.out G6.out.size)
        refine (RSS.out.step k _ Q6.out M6.out).mono ?_
        rintro e w7 ⟨rfl, q7, m7, b7⟩
        have Q7 := hide' q7
        have O7 := hide' (ownsMap_of_block O6.out m7)
        have B7 := hide' (B6.out.trans b7)
        have M7 := hide' (Nat.lt_of_lt_of_le M6.out b7.size)
        clear q7 m7 b7
        go_wp2
        exact ⟨⟨k + 1, by go_num, by omega, hide' ⟨Q7.out, O7.out, DN.out, B7.out, M7.out⟩⟩, by simp [intOf]; omega⟩
    · have NO := hide' (show ∀ m p, First g m p → ¬ m + p ≤ 100000 from fun m p h hle => HH.out.2.2.1 m (m + p) (by have := h.pos; omega) (by omega) h.again)
      have B5 := hide' HH.out.2.2.2.1
      clear HH
      go_wp2
      go_ret3
      exact ⟨Or.inr ⟨NO.out, rfl⟩, B5.out⟩

set_option maxRecDepth 100000 in
set_option maxHeartbeats 6400000 in
theorem lineCycle_nil_some (S R : Nat) (T : List Int) (ta : Option Addr) (tn tc : Nat) (wa : Addr) (wc : Nat) (w : World)
    (hL : LineOk S R T) (hT : ArgP w T ta tn tc) (hW : ArgP w [] (some wa) 0 wc) :
    Calls Try.prog 5 #[.agg #[.int .i64 2, .int .i64 0, .int .i64 0, .int .i64 (S : Int), .int .i64 (R : Int), .slice ta tn tc, .string ⟨#[]⟩], .slice (some wa) 0 wc] w (CyclePost (fun n => runL S R T n []) w) := by
  obtain ⟨w1, hw1⟩ : ∃ w1, w.alloc (.cells #[.int .i64 2, .int .i64 0, .int .i64 0, .int .i64 (S : Int), .int .i64 (R : Int), .slice ta tn tc, .string ⟨#[]⟩] 24) = w1 := ⟨_, rfl⟩
  have z1 : w1.heap.size = w.heap.size + 1 := by rw [← hw1]; simp
  have BB := hide' (show Below w.heap.size w w1 by rw [← hw1]; exact (Below.refl _ _).alloc (Nat.le_refl _) _)
  have RX := hide' (show RB w.heap.size S R (.slice ta tn tc) w1 by rw [← hw1]; exact RB.new w S R _ _)
  have AT := hide' (hT.below BB.out)
  have AW := hide' (hW.below BB.out)
  have HL := hide' hL
  have TBK := hide' (hT.blk (by have := hT.len; have := hL.pos; omega))
  have TB0 := hide' (show ∀ g off, ta = some ⟨g, off, none⟩ → g < w.heap.size from TBK.out)
  obtain ⟨i0, hi, hz0, hz1, hz2⟩ := info_parts info_int
  have hmm := @run_makeMap Try.prog
  obtain ⟨g, hg⟩ : ∃ g : Nat → List Int, (fun n => runL S R T n []) = g := ⟨_, rfl⟩
  have HG := hide' hg
  rw [hg]
  clear hg
  have HE := hide' (wordE_ok (S := S) (ws := []) (by simp) (fun x hx => by simp at hx))
  have LN := hide' (fun i => show (runL (S : Int) R T i []).length = 0 by rw [runL_nil]; rfl)
  have LO := hide' (fun i => show cellsOk (S : Int) (runL (S : Int) R T i []) by rw [runL_nil]; exact fun x hx => by simp at hx)
  clear hT hW hL
  obtain ⟨x0, x1, x2, x3, x4, x5, x6⟩ := RX.out
  go_enter Try.func5, Try.ntmps5
  go_wp2_with fail
  refine (lineCheck_line S R T ta tn tc [] (some wa) 0 wc _ HL.out AT.out AW.out).mono ?_
  rw [HE.out, show errOf 0 = .nilIface from rfl]
  rintro e w2 ⟨rfl, b2⟩
  have s2 := b2.size
  have B2 := hide' (BB.out.trans (b2.mono BB.out.size))
  have RX2 := hide' (RX.out.next b2)
  have AT2 := hide' (AT.out.below b2)
  clear x0 x1 x2 x3 x4 x5 x6 hw1 b2
  obtain ⟨x0, x1, x2, x3, x4, x5, x6⟩ := RX2.out
  go_wp2_with (at_builtin; refine wpList_append_own _ rfl _ _ 22 rfl w2.heap.size 3 i0 (.int .i64 0) 1 8 Try.underlying22 hi hz0 hz1 hz2 rfl (by decide) (.slice none 0 0) 0 [] rfl ⟨by simp, Or.inl ⟨rfl, by simp⟩⟩ wa 0 wc [] rfl (by simp) (fun j u hu => by simp at hu) (fun x hx => by simp at hx) (by unfold maxLen; omega) (by omega) (by simp) ?_; intro v' w3 hown' hgrow3 hnil3; obtain rfl := hnil3.2 ⟨rfl, rfl⟩; have B3 := hide' (grown_below hgrow3); have RX3 := hide' (RX2.out.next B3.out); have AT3 := hide' (AT2.out.below B3.out); clear hgrow3 hown' hnil3 x0 x1 x2 x3 x4 x5 x6; obtain ⟨x0, x1, x2, x3, x4, x5, x6⟩ := RX3.out)
  have s3 := B3.out.size
  refine (stepper_any S R T ta tn tc 0 _ HL.out AT3.out (by omega) (fun g off e => by have := TBK.out g off e; omega)).mono ?_
  rintro e w4 ⟨rfl, st, b4, s4⟩
  rw [Nat.zero_add] at st
  have s4' : w4.heap.size = w3.heap.size + 3 := s4
  have B4 := hide' (show Below w.heap.size w w4 from ((B2.out.trans (B3.out.mono (by omega))).trans (b4.mono (by omega))))
  have hg := HG.out
  have INJ := hide' (show ∀ i j, klOf (g i) = klOf (g j) → g i = g j by
    intro i j e
    rw [← hg] at e ⊢
    exact klOf_inj HL.out.s4 (LO.out i) (LO.out j) (by rw [LN.out i, LN.out j]) e)
  have KS := hide' (show ∀ i, (keyB (g i)).length ≤ 1000 by
    intro i
    rw [← hg]
    have := LN.out i
    simp only [keyB, List.length_map, List.length_range]
    omega)
  obtain ⟨Q, RSS, Q0⟩ : ∃ Q : Nat → World → Prop, Hid (RS g none 0 0 (w3.heap.size + 2) w3.heap.size (w3.heap.size + 3) w.heap.size Q) ∧ Hid (Q 0 w4) := by
    rw [← hg]
    exact ⟨_, hide' (RS.empty S R T ta tn tc w3.heap.size w.heap.size HL.out (by omega) TB0.out), hide' ⟨st, by omega⟩⟩
  have HKEY := hide' (show ∀ i, keyOf Try.prog 9 (.string ⟨(keyB (g i)).toArray⟩) = some (klOf (g i)) by
    intro i
    have := WideMaps.keyOf_string_mk (P := Try.prog) Try.underlying9 (s := ⟨(keyB (g i)).toArray⟩) (by have := KS.out i; simp [ByteArray.size, maxLen]; omega)
    rw [this]
    simp [klOf])
  have LAW := hide' (Maps.string_keyed (P := Try.prog) Try.underlying9)
  have OW0 := hide' (World.ownsMap_made w4 Try.prog 9 (plainElem (H := Unit) Try.prog 3))
  clear hg HG LO LN KS x0 x1 x2 x3 x4 x5 x6 st b4
  obtain ⟨M, hM⟩ : ∃ M, w3.heap.size + 3 = M := ⟨_, rfl⟩
  rw [hM] at RSS s4'
  rw [s4'] at OW0
  go_wp2
  try rw [s4']
  go_loopw [11] (fun nv wr => ∃ k : Nat, nv = .int .i64 (k : Int) ∧ k ≤ 100001 ∧ Hid (Q k wr ∧ wr.ownsMap Try.prog 9 (plainElem (H := Unit) Try.prog 3) M k (DM g k) ∧ (∀ i j, i < j → j < k → g i ≠ g j) ∧ Below w.heap.size w wr ∧ M < wr.heap.size)) (fun nv _ => 100002 - (intOf nv).toNat)
  case atStart => exact ⟨0, rfl, by omega, hide' ⟨RSS.out.kept 0 _ _ Q0.out ((Below.refl _ _).alloc (by omega) _), OW0.out, fun i j h1 h2 => by omega, B4.out.alloc (by omega) _, by simp; omega⟩⟩
  case round =>
    clear OW0 Q0 B4 hmm
    obtain ⟨k, rfl, k1, HH⟩ := hrel
    by_cases d : (k : Int) ≤ 100000
    · go_wp2_with fail
      refine (RSS.out.key k _ HH.out.1).mono ?_
      rintro e w5 ⟨rfl, b5⟩
      have Q5 := hide' (RSS.out.kept k _ w5 HH.out.1 (b5.mono (Nat.le_of_lt HH.out.2.2.2.2)))
      have O5 := hide' (ownsMap_of_block HH.out.2.1 (b5.block M HH.out.2.2.2.2))
      have DI := hide' HH.out.2.2.1
      have B5 := hide' (HH.out.2.2.2.1.trans (b5.mono HH.out.2.2.2.1.size))
      have M5 := hide' (Nat.lt_of_lt_of_le HH.out.2.2.2.2 b5.size)
      have DK := hide' (show ∀ i j, i < j → j < k → klOf (g i) ≠ klOf (g j) from fun i j h1 h2 e => DI.out i j h1 h2 (INJ.out i j e))
      have HK := hide' (HKEY.out k)
      clear b5 HH
      by_cases hit : ∃ i, i < k ∧ g i = g k
      · obtain ⟨i, hik, hgi⟩ := hit
        have FI := hide' (show First g i (k - i) from ⟨by omega, by rw [show i + (k - i) = k by omega]; exact hgi, fun a b h1 h2 => DI.out a b h1 (by omega)⟩)
        have AT1 := hide' (DM_at g (.lit (.int .i64 0)) k i hik DK.out)
        rw [hgi] at AT1
        have A1 := hide' AT1.out.1
        have A2 := hide' AT1.out.2
        clear hgi AT1
        go_wp2_with (at_lookup; refine wpList_lookup_here _ rfl _ _ 40 rfl 9 3 .i64 LAW.out Try.underlying40 Try.underlying3 (zeroInt _) M k (DM g k) rfl O5.out _ (klOf (g k)) rfl HK.out (i : Int) true A2.out A1.out ?_)
        go_ret3
        exact ⟨Or.inl ⟨i, k - i, FI.out, by omega, by rw [show ((k - i : Nat) : Int) = (k : Int) - (i : Int) by omega]; rfl⟩, B5.out⟩
      · have A1 := hide' (DM_not g (g k) k (fun i h e => hit ⟨i, h, INJ.out i k e⟩))
        have A2 := hide' (Maps.atKey_of_not_has A1.out (.lit (.int .i64 0)))
        have DN := hide' (show ∀ i j, i < j → j < k + 1 → g i ≠ g j from fun i j h1 h2 e => by
          by_cases q : j = k
          · subst q; exact hit ⟨i, h1, e⟩
          · exact DI.out i j h1 (by omega) e)
        clear hit
        go_wp2_with (first | (at_lookup; refine wpList_lookup_here _ rfl _ _ 40 rfl 9 3 .i64 LAW.out Try.underlying40 Try.underlying3 (zeroInt _) M k (DM g k) rfl O5.out _ (klOf (g k)) rfl HK.out 0 false A2.out A1.out ?_) | (at_mapUpdate; refine wpList_mapUpdate_own _ rfl _ _ _ 40 rfl 9 3 LAW.out Try.underlying40 _ M k _ rfl O5.out (by unfold maxLen; omega) _ _ _ rfl rfl HK.out _ [] (plainElem_int Try.underlying3 (WalkArith.wf_i64 (by omega))) ?_; intro w6 hown6 hgrow6; have O6 := hide' hown6; have G6 := hide' hgrow6; clear hown6 hgrow6))
        have Q6 := hide' (RSS.out.kept k _ w6 Q5.out (below_of_grown G6.out (Nat.le_refl _) (Nat.le_of_lt M5.out)))
        have B6 := hide' (B5.out.trans (below_of_grown G6.out (by omega) B5.out.size))
        have M6 := hide' (Nat.lt_of_lt_of_le M5.out G6.out.size)
        refine (RSS.out.step k _ Q6.out M6.out).mono ?_
        rintro e w7 ⟨rfl, q7, m7, b7⟩
        have Q7 := hide' q7
        have O7 := hide' (ownsMap_of_block O6.out m7)
        have B7 := hide' (B6.out.trans b7)
        have M7 := hide' (Nat.lt_of_lt_of_le M6.out b7.size)
        clear q7 m7 b7
        go_wp2
        exact ⟨⟨k + 1, by go_num, by omega, hide' ⟨Q7.out, O7.out, DN.out, B7.out, M7.out⟩⟩, by simp [intOf]; omega⟩
    · have NO := hide' (show ∀ m p, First g m p → ¬ m + p ≤ 100000 from fun m p h hle => HH.out.2.2.1 m (m + p) (by have := h.pos; omega) (by omega) h.again)
      have B5 := hide' HH.out.2.2.2.1
      clear HH
      go_wp2
      go_ret3
      exact ⟨Or.inr ⟨NO.out, rfl⟩, B5.out⟩

set_option maxRecDepth 100000 in
set_option maxHeartbeats 6400000 in
theorem lineCycle_nil_none (S R : Nat) (T : List Int) (ta : Option Addr) (tn tc : Nat) (wc : Nat) (w : World)
    (hL : LineOk S R T) (hT : ArgP w T ta tn tc) (hW : ArgP w [] none 0 wc) :
    Calls Try.prog 5 #[.agg #[.int .i64 2, .int .i64 0, .int .i64 0, .int .i64 (S : Int), .int .i64 (R : Int), .slice ta tn tc, .string ⟨#[]⟩], .slice none 0 wc] w (CyclePost (fun n => runL S R T n []) w) := by
  obtain ⟨w1, hw1⟩ : ∃ w1, w.alloc (.cells #[.int .i64 2, .int .i64 0, .int .i64 0, .int .i64 (S : Int), .int .i64 (R : Int), .slice ta tn tc, .string ⟨#[]⟩] 24) = w1 := ⟨_, rfl⟩
  have z1 : w1.heap.size = w.heap.size + 1 := by rw [← hw1]; simp
  have BB := hide' (show Below w.heap.size w w1 by rw [← hw1]; exact (Below.refl _ _).alloc (Nat.le_refl _) _)
  have RX := hide' (show RB w.heap.size S R (.slice ta tn tc) w1 by rw [← hw1]; exact RB.new w S R _ _)
  have AT := hide' (hT.below BB.out)
  have AW := hide' (hW.below BB.out)
  have HL := hide' hL
  have TBK := hide' (hT.blk (by have := hT.len; have := hL.pos; omega))
  have TB0 := hide' (show ∀ g off, ta = some ⟨g, off, none⟩ → g < w.heap.size from TBK.out)
  obtain ⟨i0, hi, hz0, hz1, hz2⟩ := info_parts info_int
  have hmm := @run_makeMap Try.prog
  obtain ⟨g, hg⟩ : ∃ g : Nat → List Int, (fun n => runL S R T n []) = g := ⟨_, rfl⟩
  have HG := hide' hg
  rw [hg]
  clear hg
  have HE := hide' (wordE_ok (S := S) (ws := []) (by simp) (fun x hx => by simp at hx))
  have LN := hide' (fun i => show (runL (S : Int) R T i []).length = 0 by rw [runL_nil]; rfl)
  have LO := hide' (fun i => show cellsOk (S : Int) (runL (S : Int) R T i []) by rw [runL_nil]; exact fun x hx => by simp at hx)
  clear hT hW hL
  obtain ⟨x0, x1, x2, x3, x4, x5, x6⟩ := RX.out
  go_enter Try.func5, Try.ntmps5
  go_wp2_with fail
  refine (lineCheck_line S R T ta tn tc [] none 0 wc _ HL.out AT.out AW.out).mono ?_
  rw [HE.out, show errOf 0 = .nilIface from rfl]
  rintro e w2 ⟨rfl, b2⟩
  have s2 := b2.size
  have B2 := hide' (BB.out.trans (b2.mono BB.out.size))
  have RX2 := hide' (RX.out.next b2)
  have AT2 := hide' (AT.out.below b2)
  clear x0 x1 x2 x3 x4 x5 x6 hw1 b2
  obtain ⟨x0, x1, x2, x3, x4, x5, x6⟩ := RX2.out
  go_wp2_with fail
  obtain ⟨w3, hw3⟩ : ∃ w3, w3 = w2 := ⟨_, rfl⟩
  rw [← hw3]
  have B3 := hide' (show Below w2.heap.size w2 w3 by rw [hw3]; exact Below.refl _ _)
  have AT3 := hide' (AT2.out.below B3.out)
  clear hw3
  have s3 := B3.out.size
  refine (stepper_any S R T ta tn tc 0 _ HL.out AT3.out (by omega) (fun g off e => by have := TBK.out g off e; omega)).mono ?_
  rintro e w4 ⟨rfl, st, b4, s4⟩
  rw [Nat.zero_add] at st
  have s4' : w4.heap.size = w3.heap.size + 3 := s4
  have B4 := hide' (show Below w.heap.size w w4 from ((B2.out.trans (B3.out.mono (by omega))).trans (b4.mono (by omega))))
  have hg := HG.out
  have INJ := hide' (show ∀ i j, klOf (g i) = klOf (g j) → g i = g j by
    intro i j e
    rw [← hg] at e ⊢
    exact klOf_inj HL.out.s4 (LO.out i) (LO.out j) (by rw [LN.out i, LN.out j]) e)
  have KS := hide' (show ∀ i, (keyB (g i)).length ≤ 1000 by
    intro i
    rw [← hg]
    have := LN.out i
    simp only [keyB, List.length_map, List.length_range]
    omega)
  obtain ⟨Q, RSS, Q0⟩ : ∃ Q : Nat → World → Prop, Hid (RS g none 0 0 (w3.heap.size + 2) w3.heap.size (w3.heap.size + 3) w.heap.size Q) ∧ Hid (Q 0 w4) := by
    rw [← hg]
    exact ⟨_, hide' (RS.empty S R T ta tn tc w3.heap.size w.heap.size HL.out (by omega) TB0.out), hide' ⟨st, by omega⟩⟩
  have HKEY := hide' (show ∀ i, keyOf Try.prog 9 (.string ⟨(keyB (g i)).toArray⟩) = some (klOf (g i)) by
    intro i
    have := WideMaps.keyOf_string_mk (P := Try.prog) Try.underlying9 (s := ⟨(keyB (g i)).toArray⟩) (by have := KS.out i; simp [ByteArray.size, maxLen]; omega)
    rw [this]
    simp [klOf])
  have LAW := hide' (Maps.string_keyed (P := Try.prog) Try.underlying9)
  have OW0 := hide' (World.ownsMap_made w4 Try.prog 9 (plainElem (H := Unit) Try.prog 3))
  clear hg HG LO LN KS x0 x1 x2 x3 x4 x5 x6 st b4
  obtain ⟨M, hM⟩ : ∃ M, w3.heap.size + 3 = M := ⟨_, rfl⟩
  rw [hM] at RSS s4'
  rw [s4'] at OW0
  go_wp2
  try rw [s4']
  go_loopw [11] (fun nv wr => ∃ k : Nat, nv = .int .i64 (k : Int) ∧ k ≤ 100001 ∧ Hid (Q k wr ∧ wr.ownsMap Try.prog 9 (plainElem (H := Unit) Try.prog 3) M k (DM g k) ∧ (∀ i j, i < j → j < k → g i ≠ g j) ∧ Below w.heap.size w wr ∧ M < wr.heap.size)) (fun nv _ => 100002 - (intOf nv).toNat)
  case atStart => exact ⟨0, rfl, by omega, hide' ⟨RSS.out.kept 0 _ _ Q0.out ((Below.refl _ _).alloc (by omega) _), OW0.out, fun i j h1 h2 => by omega, B4.out.alloc (by omega) _, by simp; omega⟩⟩
  case round =>
    clear OW0 Q0 B4 hmm
    obtain ⟨k, rfl, k1, HH⟩ := hrel
    by_cases d : (k : Int) ≤ 100000
    · go_wp2_with fail
      refine (RSS.out.key k _ HH.out.1).mono ?_
      rintro e w5 ⟨rfl, b5⟩
      have Q5 := hide' (RSS.out.kept k _ w5 HH.out.1 (b5.mono (Nat.le_of_lt HH.out.2.2.2.2)))
      have O5 := hide' (ownsMap_of_block HH.out.2.1 (b5.block M HH.out.2.2.2.2))
      have DI := hide' HH.out.2.2.1
      have B5 := hide' (HH.out.2.2.2.1.trans (b5.mono HH.out.2.2.2.1.size))
      have M5 := hide' (Nat.lt_of_lt_of_le HH.out.2.2.2.2 b5.size)
      have DK := hide' (show ∀ i j, i < j → j < k → klOf (g i) ≠ klOf (g j) from fun i j h1 h2 e => DI.out i j h1 h2 (INJ.out i j e))
      have HK := hide' (HKEY.out k)
      clear b5 HH
      by_cases hit : ∃ i, i < k ∧ g i = g k
      · obtain ⟨i, hik, hgi⟩ := hit
        have FI := hide' (show First g i (k - i) from ⟨by omega, by rw [show i + (k - i) = k by omega]; exact hgi, fun a b h1 h2 => DI.out a b h1 (by omega)⟩)
        have AT1 := hide' (DM_at g (.lit (.int .i64 0)) k i hik DK.out)
        rw [hgi] at AT1
        have A1 := hide' AT1.out.1
        have A2 := hide' AT1.out.2
        clear hgi AT1
        go_wp2_with (at_lookup; refine wpList_lookup_here _ rfl _ _ 40 rfl 9 3 .i64 LAW.out Try.underlying40 Try.underlying3 (zeroInt _) M k (DM g k) rfl O5.out _ (klOf (g k)) rfl HK.out (i : Int) true A2.out A1.out ?_)
        go_ret3
        exact ⟨Or.inl ⟨i, k - i, FI.out, by omega, by rw [show ((k - i : Nat) : Int) = (k : Int) - (i : Int) by omega]; rfl⟩, B5.out⟩
      · have A1 := hide' (DM_not g (g k) k (fun i h e => hit ⟨i, h, INJ.out i k e⟩))
        have A2 := hide' (Maps.atKey_of_not_has A1.out (.lit (.int .i64 0)))
        have DN := hide' (show ∀ i j, i < j → j < k + 1 → g i ≠ g j from fun i j h1 h2 e => by
          by_cases q : j = k
          · subst q; exact hit ⟨i, h1, e⟩
          · exact DI.out i j h1 (by omega) e)
        clear hit
        go_wp2_with (first | (at_lookup; refine wpList_lookup_here _ rfl _ _ 40 rfl 9 3 .i64 LAW.out Try.underlying40 Try.underlying3 (zeroInt _) M k (DM g k) rfl O5.out _ (klOf (g k)) rfl HK.out 0 false A2.out A1.out ?_) | (at_mapUpdate; refine wpList_mapUpdate_own _ rfl _ _ _ 40 rfl 9 3 LAW.out Try.underlying40 _ M k _ rfl O5.out (by unfold maxLen; omega) _ _ _ rfl rfl HK.out _ [] (plainElem_int Try.underlying3 (WalkArith.wf_i64 (by omega))) ?_; intro w6 hown6 hgrow6; have O6 := hide' hown6; have G6 := hide' hgrow6; clear hown6 hgrow6))
        have Q6 := hide' (RSS.out.kept k _ w6 Q5.out (below_of_grown G6.out (Nat.le_refl _) (Nat.le_of_lt M5.out)))
        have B6 := hide' (B5.out.trans (below_of_grown G6.out (by omega) B5.out.size))
        have M6 := hide' (Nat.lt_of_lt_of_le M5.out G6.out.size)
        refine (RSS.out.step k _ Q6.out M6.out).mono ?_
        rintro e w7 ⟨rfl, q7, m7, b7⟩
        have Q7 := hide' q7
        have O7 := hide' (ownsMap_of_block O6.out m7)
        have B7 := hide' (B6.out.trans b7)
        have M7 := hide' (Nat.lt_of_lt_of_le M6.out b7.size)
        clear q7 m7 b7
        go_wp2
        exact ⟨⟨k + 1, by go_num, by omega, hide' ⟨Q7.out, O7.out, DN.out, B7.out, M7.out⟩⟩, by simp [intOf]; omega⟩
    · have NO := hide' (show ∀ m p, First g m p → ¬ m + p ≤ 100000 from fun m p h hle => HH.out.2.2.1 m (m + p) (by have := h.pos; omega) (by omega) h.again)
      have B5 := hide' HH.out.2.2.2.1
      clear HH
      go_wp2
      go_ret3
      exact ⟨Or.inr ⟨NO.out, rfl⟩, B5.out⟩

theorem lineCycle_ok (S R : Nat) (T : List Int) (ta : Option Addr) (tn tc : Nat) (ws : List Int) (wa : Option Addr) (wc : Nat) (w : World)
    (hL : LineOk S R T) (hT : ArgP w T ta tn tc) (hW : ArgP w ws wa ws.length wc) (he : wordE S ws = 0) :
    Calls Try.prog 5 #[.agg #[.int .i64 2, .int .i64 0, .int .i64 0, .int .i64 (S : Int), .int .i64 (R : Int), .slice ta tn tc, .string ⟨#[]⟩], .slice wa ws.length wc] w (CyclePost (fun n => runL S R T n ws) w) := by
  cases ws with
  | nil =>
    cases wa with
    | none => exact lineCycle_nil_none S R T ta tn tc wc w hL hT hW
    | some wa => exact lineCycle_nil_some S R T ta tn tc wa wc w hL hT hW
  | cons x xs =>
    obtain ⟨g, off, e, -⟩ := hW.cells 0 (by simp)
    subst e
    exact lineCycle_full S R T ta tn tc (x :: xs) ⟨g, off, none⟩ wc w hL hT hW he (by simp)
end Go.Proofs.Ytdhbdkkchobinab

