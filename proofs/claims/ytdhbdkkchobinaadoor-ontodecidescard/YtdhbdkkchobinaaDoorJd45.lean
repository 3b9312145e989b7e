/-
  What the last text of this claim leans on, part 45: Ok4.
-/
import Derived.Test.YtdhbdkkchobinaaDoorJd44
import Derived.Test.YtdhbdkkchobinaaDoorJd33
namespace Go.Proofs.YtdhbdkkchobinaaDoor
open Go.RowKit
set_option linter.unusedVariables false

theorem row_cellsG {w : World} {base g n cap : Nat} {e : TypeId} {xs : List Value} (h : w.ownsRow base e 1 (.slice (some ⟨g, 0, none⟩) n cap) n xs) : ∀ j u, xs[j]? = some u → w.cell? ⟨g, j, none⟩ = some u := fun j u hu => by
  have hl := h.1
  rcases h.2 with ⟨h1, _⟩ | ⟨g', cap', cur, e, hg, hh, hc, hm, hs, ht⟩
  · injection h1 with h1; cases h1
  · injection e with e1 _ _
    injection e1 with e1
    injection e1 with e1
    subst e1
    have hj : j < xs.length := (List.getElem?_eq_some_iff.1 hu).1
    rw [← ht, List.getElem?_take, if_pos (by omega)] at hu
    simp only [World.cell?, hh]
    rw [← Array.getElem?_toList]
    exact hu
def RefOrphanPost (S n : Nat) (T : List Int) (w : World) (e : Ending) (w' : World) : Prop :=
  (∃ wd g c, e = .returned (.tuple #[.slice (some ⟨g, 0, none⟩) wd.length c, .bool true]) ∧ OrphanIs (follN S n T) S (2 ^ n - 1) (some wd) ∧ wd.length ≤ 65536 ∧ Cel w' g wd ∧ Below w.heap.size w w') ∨ (OrphanIs (follN S n T) S (2 ^ n - 1) none ∧ e = .returned (.tuple #[.slice none 0 0, .bool false]) ∧ Below w.heap.size w w')

set_option maxRecDepth 100000 in
set_option maxHeartbeats 25600000 in
theorem refOrphan_any (S R n : Nat) (T : List Int) (ta : Option Addr) (tn tc : Nat) (w : World) (hL : LineOk S R T) (hT : ArgP w T ta tn tc) (hn : S ^ (2 * R) = n) (n16 : n ≤ 16) :
    Calls Tryd.prog 66 #[.agg #[.int .i64 2, .int .i64 0, .int .i64 0, .int .i64 (S : Int), .int .i64 (R : Int), .slice ta tn tc, .string ⟨#[]⟩]] w (RefOrphanPost S n T w) := by
  obtain ⟨g1, htn, n0⟩ := hL.graph hT.len hn
  have hpl : plc S R = n := by rw [plc_end (by omega), hn]
  obtain ⟨PP, hPP⟩ : ∃ PP, RefOrphanPost S n T w = PP := ⟨_, rfl⟩
  have HPP := hide' hPP
  rw [hPP]
  have s2 := hL.s2
  have s4 := hL.s4
  obtain ⟨w1, hw1⟩ : ∃ w1, w.alloc (.cells #[.int .i64 2, .int .i64 0, .int .i64 0, .int .i64 (S : Int), .int .i64 (R : Int), .slice ta tn tc, .string ⟨#[]⟩] 24) = w1 := ⟨_, rfl⟩
  have BB := hide' (show Below w.heap.size w w1 by rw [← hw1]; exact (Below.refl _ _).alloc (Nat.le_refl _) _)
  have RX := hide' (show RB w.heap.size S R (.slice ta tn tc) w1 by rw [← hw1]; exact RB.new w S R _ _)
  obtain ⟨N, hN⟩ : ∃ N, 2 ^ n = N := ⟨_, rfl⟩
  have N16 : N ≤ 65536 := by rw [← hN]; exact Nat.le_trans (Nat.pow_le_pow_right (by omega) n16) (by decide)
  have N2 : 2 ≤ N := by rw [← hN]; exact Nat.le_trans (by decide) (Nat.pow_le_pow_right (show 0 < 2 by omega) n0)
  have HN := hide' hN
  obtain ⟨M, hM0⟩ : ∃ M, N = M + 1 := ⟨N - 1, by omega⟩
  have HM := hide' hM0
  have hM : (N : Int) - 1 = (M : Int) := by omega
  clear hM0
  have TO := hide' (show ∀ j, j < tn → ∃ c : Nat, c < S ∧ T.getD j 0 = (c : Int) from fun j hj => by
    have := cellsOk_at hL.ok (show j < T.length by rw [← hT.len]; exact hj)
    exact ⟨(T.getD j 0).toNat, by omega, by omega⟩)
  have t64 : tn ≤ 64 := by rw [htn]; exact Nat.mul_le_mul n16 s4
  have HTn := hide' htn
  have AT := hide' hT
  have PL := hide' (fun (W : World) => refPlaces_any S R T ta tn tc W hL)
  rw [hpl] at PL
  have FL := hide' (show ∀ c m, follN S n T c m < N from fun c m => by rw [← hN]; exact follN_lt ..)
  have hmk := run_make_row' (P := Tryd.prog) 155 4 (.bool false) 1 Tryd.underlying155 info_bool rfl .i64 .i64 N (by omega) (by omega)
  have hmk2 := run_make_row' (P := Tryd.prog) 155 4 (.bool false) 1 Tryd.underlying155 info_bool rfl .i64 .i64 n (by omega) (by omega)
  obtain ⟨i0, hi0, hz0, hz1, hz2⟩ := info_parts info_int
  obtain ⟨i1, hi1, hy0, hy1, hy2⟩ := info_parts info_ints
  have P2 := hide' (show ∀ p, p ≤ n → 2 ^ p ≤ 65536 from fun p hp => Nat.le_trans (Nat.pow_le_pow_right (by omega) (Nat.le_trans hp n16)) (by decide))
  clear hL hT hn htn g1 hpl hPP hN
  obtain ⟨x0, x1, x2, x3, x4, x5, x6⟩ := RX.out
  go_enter Tryd.func66, Tryd.ntmps66
  go_wp2_with fail
  refine (PL.out _).mono ?_
  rintro e w2 ⟨rfl, b⟩
  clear hw1
  have C0 := hide' (show RB w.heap.size S R (.slice ta tn tc) w2 ∧ Below w.heap.size w w2 from ⟨RX.out.next b, BB.out.trans (b.mono BB.out.size)⟩)
  have LTW := hide' (show w.heap.size < w2.heap.size from C0.out.1.lt)
  clear b x0 x1 x2 x3 x4 x5 x6 RX BB PL
  go_wp2
  go_loop [5, 6] (fun av pv => ∃ p : Nat, pv = .int .i64 (p : Int) ∧ av = .int .i64 ((2 ^ p : Nat) : Int) ∧ p ≤ n) (fun _ pv => n - (intOf pv).toNat)
  case atStart => exact ⟨0, rfl, rfl, by omega⟩
  case round =>
    obtain ⟨p, rfl, rfl, hp⟩ := hrel
    by_cases d : (p : Int) < (n : Int)
    · have pb := P2.out (p + 1) (by omega)
      have e1 : ((2 ^ p : Nat) : Int) * 2 = ((2 ^ (p + 1) : Nat) : Int) := by rw [Nat.pow_succ]; simp
      obtain ⟨y, hy⟩ : ∃ y, 2 ^ p = y := ⟨_, rfl⟩
      obtain ⟨z, hz⟩ : ∃ z, 2 ^ (p + 1) = z := ⟨_, rfl⟩
      have HZ := hide' hz
      rw [hy, hz] at e1
      rw [hz] at pb
      rw [hy]
      clear hy hz
      go_wp2
      exact ⟨⟨p + 1, by go_num, by rw [HZ.out], by omega⟩, by simp [intOf]; omega⟩
    · obtain rfl : n = p := by omega
      rw [HN.out]
      clear d hp
      obtain ⟨gb, hgb⟩ : ∃ gb, w2.heap.size = gb := ⟨_, rfl⟩
      have sc : (((w2.alloc (.cells (madeCells #[.bool false] N) 4)).alloc (.cells #[.int .i64 (M : Int)] 3)).alloc (.cells #[.slice none 0 0] 22)).cell? ⟨gb, M, none⟩ = some (.bool false) := by
        rw [World.cell?_alloc_lt _ _ ⟨gb, M, none⟩ (by simp; omega), World.cell?_alloc_lt _ _ ⟨gb, M, none⟩ (by simp; omega), World.cell?_alloc_at _ _ _ _ hgb.symm, ← Array.getElem?_toList, toList_madeCells_one]
        have := HM.out
        rw [List.getElem?_replicate, if_pos (by omega)]
      have sf : (((w2.alloc (.cells (madeCells #[.bool false] N) 4)).alloc (.cells #[.int .i64 (M : Int)] 3)).alloc (.cells #[.slice none 0 0] 22)).frozen? ⟨gb, M, none⟩ = false := by
        rw [← hgb, World.frozen?_of_block (w := w2.alloc (.cells (madeCells #[.bool false] N) 4)) (a := ⟨w2.heap.size, M, none⟩) ((Below.heap_alloc _ _ _ (by simp; omega)).trans (Below.heap_alloc _ _ _ (by simp)))]
        simp
      obtain ⟨x0, x1, x2, x3, x4, x5, x6⟩ := C0.out.1
      have P0 := hide' (show RO w (((w2.alloc (.cells ((madeCells #[.bool false] N).setIfInBounds M (.bool true)) 4)).alloc (.cells #[.int .i64 (M : Int)] 3)).alloc (.cells #[.slice none 0 0] 22)) S R N (.slice ta tn tc) gb (gb + 1) (.slice (some ⟨gb + 1, 0, none⟩) 1 1) (.slice (some ⟨gb + 1 + 1, 0, none⟩) 1 1) [⟨M, 0, 0, []⟩] [.slice none 0 0] from by
        have b1 : Below w2.heap.size w2 (((w2.alloc (.cells ((madeCells #[.bool false] N).setIfInBounds M (.bool true)) 4)).alloc (.cells #[.int .i64 (M : Int)] 3)).alloc (.cells #[.slice none 0 0] 22)) := (((Below.refl _ _).alloc (Nat.le_refl _) _).alloc (by simp) _).alloc (by simp; omega) _
        have lw := LTW.out
        have mc : (madeCells #[.bool false] N).size = N := by rw [← Array.length_toList, toList_madeCells_one]; simp
        refine ⟨C0.out.1.next b1, fun k hk => ?_, fun k => ?_, ?_, ?_, fun i e he => ?_, C0.out.2.trans (b1.mono (by omega)), by omega, by omega, by simp; omega⟩
        · rw [World.cell?_alloc_lt _ _ ⟨gb, k, none⟩ (by simp; omega), World.cell?_alloc_lt _ _ ⟨gb, k, none⟩ (by simp; omega), World.cell?_alloc_at _ _ _ _ hgb.symm]
          by_cases e : k = M
          · subst e
            rw [Array.getElem?_setIfInBounds_self]
            simp [mc]
            omega
          · rw [Array.getElem?_setIfInBounds_ne (fun q => e q.symm), ← Array.getElem?_toList, toList_madeCells_one, List.getElem?_replicate, if_pos hk]
            simp [e]
        · rw [← hgb, World.frozen?_of_block (w := w2.alloc (.cells ((madeCells #[.bool false] N).setIfInBounds M (.bool true)) 4)) (a := ⟨w2.heap.size, k, none⟩) ((Below.heap_alloc _ _ _ (by simp; omega)).trans (Below.heap_alloc _ _ _ (by simp)))]
          simp
        · refine ⟨rfl, Or.inr ⟨gb + 1, 1, #[.int .i64 (M : Int)], rfl, Nat.le_refl _, ?_, by simp, by unfold maxLen; decide, rfl, rfl⟩⟩
          have := World.alloc_heap_new (w2.alloc (.cells ((madeCells #[.bool false] N).setIfInBounds M (.bool true)) 4)) (.cells #[.int .i64 (M : Int)] 3)
          rw [World.size_alloc, hgb] at this
          exact (Below.heap_alloc _ _ _ (by simp; omega)).trans this
        · refine ⟨rfl, Or.inr ⟨gb + 1 + 1, 1, #[.slice none 0 0], rfl, by omega, ?_, by simp, by unfold maxLen; decide, rfl, rfl⟩⟩
          have := World.alloc_heap_new ((w2.alloc (.cells ((madeCells #[.bool false] N).setIfInBounds M (.bool true)) 4)).alloc (.cells #[.int .i64 (M : Int)] 3)) (.cells #[.slice none 0 0] 22)
          rw [World.size_alloc, World.size_alloc, hgb] at this
          exact this
        · have i0 : i = 0 := by
            have := (List.getElem?_eq_some_iff.1 he).1
            simp at this
            exact this
          subst i0
          simp at he
          subst he
          exact ⟨.slice none 0 0, rfl, ⟨rfl, Or.inl ⟨rfl, rfl⟩⟩, fun k q => by simp [Value.ownBlock] at q⟩)
      go_wp2
      clear sc sf x0 x1 x2 x3 x4 x5 x6 hgb
      obtain ⟨F, hF⟩ : ∃ F, follN S n T = F := ⟨_, rfl⟩
      go_loopw [8, 9, 10] (fun sv wv av wr => ∃ (a L g cap g2 cap2 : Nat) (Q : List En) (ws : List Value), av = .int .i64 (a : Int) ∧ sv = .slice (some ⟨g, 0, none⟩) L cap ∧ wv = .slice (some ⟨g2, 0, none⟩) L cap2 ∧ L ≤ 65536 ∧ a ≤ L ∧ Hid (Q = runQ F S M (a * S) ∧ Q.length = L ∧ NoZero Q ∧ RO w wr S R N (.slice ta tn tc) gb (gb + 1) (.slice (some ⟨g, 0, none⟩) L cap) (.slice (some ⟨g2, 0, none⟩) L cap2) Q ws)) (fun _ _ av _ => 70000 - (intOf av).toNat)
      case atStart => exact ⟨0, 1, gb + 1, 1, gb + 1 + 1, 1, [⟨M, 0, 0, []⟩], _, rfl, rfl, rfl, by omega, by omega, hide' ⟨by simp [runQ], rfl, fun e he => by simp at he; subst he; show M ≠ 0; have := HM.out; omega, P0.out⟩⟩
      case round =>
        clear P0 C0
        obtain ⟨a, L, g, cap, g2, cap2, Q, ws, rfl, rfl, rfl, hL, haL, H⟩ := hrel
        by_cases d : (a : Int) < (L : Int)
        · go_wp2
          go_loopw [8, 9, 11] (fun sv wv cv wr => ∃ (c L g cap g2 cap2 : Nat) (Q : List En) (ws : List Value), cv = .int .i64 (c : Int) ∧ sv = .slice (some ⟨g, 0, none⟩) L cap ∧ wv = .slice (some ⟨g2, 0, none⟩) L cap2 ∧ L ≤ 65536 ∧ a < L ∧ c ≤ S ∧ Hid (Q = runQ F S M (a * S + c) ∧ Q.length = L ∧ NoZero Q ∧ RO w wr S R N (.slice ta tn tc) gb (gb + 1) (.slice (some ⟨g, 0, none⟩) L cap) (.slice (some ⟨g2, 0, none⟩) L cap2) Q ws)) (fun _ _ cv _ => S - (intOf cv).toNat)
          case atStart => exact ⟨0, L, g, cap, g2, cap2, Q, ws, rfl, rfl, rfl, hL, by omega, by omega, H⟩
          case round =>
            clear H hL haL d
            obtain ⟨c, L, g, cap, g2, cap2, Q, ws, rfl, rfl, rfl, hL, haL, hc, H⟩ := hrel
            obtain ⟨x0, x1, x2, x3, x4, x5, x6⟩ := H.out.2.2.2.rb
            by_cases dc : (c : Int) < (S : Int)
            · obtain ⟨e, he⟩ : ∃ e, Q[a]? = some e := ⟨_, List.getElem?_eq_getElem (show a < Q.length by rw [H.out.2.1]; exact haL)⟩
              obtain ⟨wv, hwv, wrow, wsep⟩ := H.out.2.2.2.wd a e he
              have ml : e.set < N := runQ_lt (f := F) (S := S) (q0 := M) (by have := HM.out; omega) (by rw [← hF]; exact FL.out) _ e (by rw [← H.out.1]; exact List.mem_of_getElem? he)
              have QL := hide' H.out.2.1
              have k0 := row_cellsG (show wr.ownsRow (gb + 1) 3 1 (.slice (some ⟨g, 0, none⟩) L cap) L (Q.map fun e => Value.int .i64 (e.set : Int)) by have := H.out.2.2.2.sr; rwa [QL.out] at this) a (.int .i64 (e.set : Int)) (by simp [he])
              have W0C := hide' (row_cellsG (show wr.ownsRow (gb + 1) 22 1 (.slice (some ⟨g2, 0, none⟩) L cap2) L ws by have := H.out.2.2.2.wr_; rwa [QL.out] at this) a wv hwv)
              have gz := row_size (show wr.ownsRow (gb + 1) 3 1 (.slice (some ⟨g, 0, none⟩) L cap) Q.length (Q.map fun e => Value.int .i64 (e.set : Int)) from H.out.2.2.2.sr) (k := g) rfl
              have gz2 := row_size (show wr.ownsRow (gb + 1) 22 1 (.slice (some ⟨g2, 0, none⟩) L cap2) Q.length ws from H.out.2.2.2.wr_) (k := g2) rfl
              obtain ⟨m, hm⟩ : ∃ m, e.set = m := ⟨_, rfl⟩
              rw [hm] at k0 ml
              obtain ⟨VV, rfl⟩ : ∃ VV, VV = wr := ⟨_, rfl⟩
              obtain ⟨nb, hnb⟩ : ∃ nb, VV.heap.size = nb := ⟨_, rfl⟩
              have BN := hide' (show Blk (VV.alloc (.cells (madeCells #[.bool false] n) 4)) nb ((nxtL S n T c m 0 0).map Value.bool).toArray 4 ∧ Below VV.heap.size VV (VV.alloc (.cells (madeCells #[.bool false] n) 4)) from by
                refine ⟨?_, (Below.refl _ _).alloc (Nat.le_refl _) _⟩
                rw [nxtL_zero, ← hnb, show ((List.replicate n false).map Value.bool).toArray = madeCells #[.bool false] n by
                  apply Array.toList_inj.1
                  rw [toList_madeCells_one]
                  simp]
                exact Blk.new _ _ _)
              have NB := hide' hnb
              have k1 : (VV.alloc (.cells (madeCells #[.bool false] n) 4)).cell? ⟨g, a, none⟩ = some (.int .i64 (m : Int)) := (World.cell?_alloc_lt _ _ ⟨g, a, none⟩ gz.2).trans k0
              have WRS := hide' wrow
              have WSP := hide' wsep
              have EM := hide' hm
              have EA := hide' he
              rw [hnb] at BN
              obtain ⟨W4, hW4⟩ : ∃ W4, VV.alloc (.cells (madeCells #[.bool false] n) 4) = W4 := ⟨_, rfl⟩
              rw [hW4] at BN k1
              clear wrow wsep hm he hwv k0
              go_wp2
              try rw [hnb]
              try rw [hW4]
              clear x0 x1 x2 x3 x4 x5 x6 k1 hnb hW4
              have OKX := hide' (show ∀ X : World, Below nb VV X → RB w.heap.size S R (.slice ta tn tc) X from fun X h => H.out.2.2.2.rb.next (by rw [NB.out]; exact h))
              have MP := hide' (show m < 2 ^ n by rw [HN.out]; exact ml)
              go_loopw [13, 14] (fun mv pv W => ∃ (p : Nat) (y : Nat), pv = .int .i64 (p : Int) ∧ mv = .int .i64 (y : Int) ∧ p ≤ n ∧ y ≤ 65536 ∧ Hid (y = m / 2 ^ p ∧ Blk W nb ((nxtL S n T c m p 0).map Value.bool).toArray 4 ∧ Below nb VV W)) (fun _ pv _ => n - (intOf pv).toNat)
              case atStart => exact ⟨0, m, rfl, rfl, by omega, by omega, hide' ⟨by simp, BN.out⟩⟩
              case round =>
                clear BN
                obtain ⟨p, y, rfl, rfl, hp, hy, HX⟩ := hrel
                by_cases dp : (p : Int) < (n : Int)
                · obtain ⟨h2, hh2⟩ : ∃ h2, y / 2 = h2 := ⟨_, rfl⟩
                  have d1 : (y : Int).tdiv 2 = (h2 : Int) := by rw [Int.tdiv_eq_ediv_of_nonneg (by omega), ← hh2]; simp
                  have NY := hide' (show h2 = m / 2 ^ (p + 1) by rw [← hh2, HX.out.1, Nat.pow_succ, Nat.div_div_eq_div_mul])
                  have hl : h2 ≤ 65536 := by omega
                  have TB := hide' (show m.testBit p = decide (y % 2 = 1) by rw [HX.out.1]; exact Nat.testBit_eq_decide_div_mod_eq)
                  clear hh2
                  obtain ⟨x0, x1, x2, x3, x4, x5, x6⟩ := OKX.out _ HX.out.2.2
                  by_cases hb : y % 2 = 1
                  · have d2 : (y : Int).tmod 2 = 1 := by rw [Int.tmod_eq_emod_of_nonneg (by omega)]; omega
                    have TB1 := hide' (show m.testBit p = true by rw [TB.out]; simp [hb])
                    go_wp2
                    clear x0 x1 x2 x3 x4 x5 x6
                    go_loopw [15] (fun xv W => ∃ x : Nat, xv = .int .i64 (x : Int) ∧ x ≤ S ∧ Hid (Blk W nb ((nxtL S n T c m p x).map Value.bool).toArray 4 ∧ Below nb VV W)) (fun xv _ => S - (intOf xv).toNat)
                    case atStart => exact ⟨0, rfl, by omega, hide' HX.out.2⟩
                    case round =>
                      obtain ⟨x, rfl, hx, HY⟩ := hrel
                      obtain ⟨x0, x1, x2, x3, x4, x5, x6⟩ := OKX.out _ HY.out.2
                      by_cases dx : (x : Int) < (S : Int)
                      · have hj : p * S + x < tn := by
                          rw [HTn.out]
                          have := Nat.mul_le_mul_right S (show p + 1 ≤ n by omega)
                          rw [Nat.add_mul] at this
                          omega
                        obtain ⟨c', hc', hT⟩ := TO.out _ hj
                        obtain ⟨gt, ot, rfl, ht⟩ := (AT.out.below (H.out.2.2.2.bl.trans (HY.out.2.mono (by rw [← NB.out]; exact H.out.2.2.2.bl.size)))).at (k := p * S + x) (by omega)
                        rw [hT] at ht
                        obtain ⟨ps, hps⟩ : ∃ y, p * S = y := ⟨_, rfl⟩
                        obtain ⟨u, hu⟩ : ∃ y, ps + x = y := ⟨_, rfl⟩
                        have m1 : (p : Int) * (S : Int) = (ps : Int) := by rw [← hps]; simp
                        have m2 : (ps : Int) + (x : Int) = (u : Int) := by omega
                        obtain ⟨t, hmt⟩ : ∃ t, u % n = t := ⟨_, rfl⟩
                        have m3 : (u : Int).tmod (n : Int) = (t : Int) := by rw [Int.tmod_eq_emod_of_nonneg (by omega), ← hmt]; simp
                        have tl : t < n := by rw [← hmt]; exact Nat.mod_lt _ n0
                        have nz : ¬ (n : Int) = 0 := by omega
                        have psl : ps ≤ 64 := by omega
                        have ck := HY.out.1.cell t
                        rw [bools_at _ t (by rw [nxtL_length]; exact tl)] at ck
                        have fk := HY.out.1.frozen t
                        rw [hps, hu] at ht hT hj
                        by_cases ec : c' = c
                        · subst ec
                          have NM := hide' (show nxtL S n T c' m p (x + 1) = (nxtL S n T c' m p x).set t true by have := nxtL_more (S := S) (n := n) (x := x) TB1.out (show T.getD (p * S + x) 0 = (c' : Int) by rw [hps, hu]; exact hT); rw [hps, hu, hmt] at this; exact this)
                          have q1 : ((c' : Int) == (c' : Int)) = true := by simp
                          clear hT hps hu hmt hc'
                          go_wp2
                          refine ⟨⟨x + 1, by go_num, by omega, hide' ⟨?_, ?_⟩⟩, by simp [intOf]; omega⟩
                          · have := HY.out.1.set t (.bool true)
                            rw [NM.out]
                            rw [show ((nxtL S n T c' m p x).map Value.bool).toArray.setIfInBounds t (.bool true) = (((nxtL S n T c' m p x).set t true).map Value.bool).toArray by simp [List.map_set]] at this
                            exact this
                          · exact HY.out.2.setCell (p := ⟨nb, t, none⟩) (Nat.le_refl _) _
                        · have NM := hide' (show nxtL S n T c m p (x + 1) = nxtL S n T c m p x from nxtL_same (by rw [hps, hu, hT]; omega))
                          have q1 : ((c' : Int) == (c : Int)) = false := by rw [beq_eq_false_iff_ne]; omega
                          clear hT hps hu hmt ec
                          go_wp2
                          exact ⟨⟨x + 1, by go_num, by omega, hide' ⟨by rw [NM.out]; exact HY.out.1, HY.out.2⟩⟩, by simp [intOf]; omega⟩
                      · have NM := hide' (show nxtL S n T c m (p + 1) 0 = nxtL S n T c m p x by rw [nxtL_over TB1.out, show S = x by omega])
                        go_wp2
                        exact ⟨⟨p + 1, h2, by go_num, rfl, by omega, hl, hide' ⟨NY.out, by rw [NM.out]; exact HY.out.1, HY.out.2⟩⟩, by simp [intOf]; omega⟩
                  · have d2 : (y : Int).tmod 2 = 0 := by rw [Int.tmod_eq_emod_of_nonneg (by omega)]; omega
                    have NM := hide' (show nxtL S n T c m (p + 1) 0 = nxtL S n T c m p 0 from nxtL_skip (by rw [TB.out]; simp [hb]))
                    go_wp2
                    exact ⟨⟨p + 1, h2, by go_num, rfl, by omega, hl, hide' ⟨NY.out, by rw [NM.out]; exact HX.out.2.1, HX.out.2.2⟩⟩, by simp [intOf]; omega⟩
                · have BN := hide' (show Blk wr nb ((nxtL S n T c m n 0).map Value.bool).toArray 4 ∧ Below nb VV wr by rw [show n = p by omega]; exact (show p = n by omega) ▸ HX.out.2)
                  clear HX
                  obtain ⟨W2, rfl⟩ : ∃ W2, W2 = wr := ⟨_, rfl⟩
                  have sl : follN S n T c m < N := FL.out c m
                  obtain ⟨s, hs⟩ : ∃ s, follN S n T c m = s := ⟨_, rfl⟩
                  rw [hs] at sl
                  have SB := hide' (show ∀ i, i < n → W2.cell? ⟨nb, i, none⟩ = some (.bool (s.testBit i)) from fun i hi => by
                    rw [BN.out.1.cell, bools_at _ i (by rw [nxtL_length]; exact hi), nxtL_full hi MP.out, ← hs, follN, testBit_bitsN]
                    simp [hi])
                  go_wp2
                  go_loop [17, 18] (fun sv pv => ∃ (j z : Nat), pv = .int .i64 ((j : Int) - 1) ∧ sv = .int .i64 (z : Int) ∧ j ≤ n ∧ z ≤ 65536 ∧ Hid (z = s / 2 ^ j)) (fun _ pv => (intOf pv + 1).toNat)
                  case atStart => exact ⟨n, 0, rfl, rfl, Nat.le_refl _, by omega, hide' (by rw [Nat.div_eq_of_lt (by rw [HN.out]; exact sl)])⟩
                  case round =>
                    obtain ⟨j, z, rfl, rfl, hj, hz, HZ⟩ := hrel
                    by_cases dj : (0 : Int) ≤ (j : Int) - 1
                    · obtain ⟨i, rfl⟩ : ∃ i, j = i + 1 := ⟨j - 1, by omega⟩
                      have qi : ((i + 1 : Nat) : Int) - 1 = (i : Int) := by omega
                      have ci := SB.out i (by omega)
                      have bd := bits_down s i
                      rw [← HZ.out] at bd
                      have zb : s / 2 ^ i ≤ 65536 := Nat.le_trans (Nat.div_le_self _ _) (by omega)
                      rw [qi] at dj ⊢
                      clear qi
                      cases hb : s.testBit i with
                      | true =>
                        rw [hb] at ci bd
                        have NX := hide' (show z * 2 + 1 = s / 2 ^ i by simpa using bd.symm)
                        have zz : z * 2 + 1 ≤ 65536 := by rw [NX.out]; exact zb
                        clear hb bd zb
                        go_wp2
                        exact ⟨⟨i, z * 2 + 1, by go_num, by go_num, by omega, zz, NX⟩, by simp [intOf]⟩
                      | false =>
                        rw [hb] at ci bd
                        have NX := hide' (show z * 2 = s / 2 ^ i by simpa using bd.symm)
                        have zz : z * 2 ≤ 65536 := by rw [NX.out]; exact zb
                        clear hb bd zb
                        go_wp2
                        exact ⟨⟨i, z * 2, by go_num, by go_num, by omega, zz, NX⟩, by simp [intOf]⟩
                    · have z0 : z = s := by rw [HZ.out, show j = 0 by omega]; simp
                      subst z0
                      have j0 : j = 0 := by omega
                      subst j0
                      clear HZ
                      have RO2 := hide' (H.out.2.2.2.below (by rw [NB.out]; exact BN.out.2))
                      have cw : W2.cell? ⟨g2, a, none⟩ = some wv := (BN.out.2.cell (p := ⟨g2, a, none⟩) (by show g2 < nb; rw [← NB.out]; exact gz2.2)).trans W0C.out
                      have WR2 := hide' (WRS.out.kept (grown_of_below (show Below VV.heap.size VV W2 by rw [NB.out]; exact BN.out.2)) (Classical.em _))
                      have NR := hide' (show W2.ownsRow W2.heap.size 3 1 (.slice none 0 0) 0 [] from ⟨rfl, Or.inl ⟨rfl, rfl⟩⟩)
                      have WSL := hide' (show e.wd.length ≤ a from (show QOk S Q by rw [H.out.1]; exact runQ_ok (by omega) _).wd_le a e EA.out)
                      obtain ⟨wl, hwl⟩ : ∃ wl, e.wd.length = wl := ⟨_, rfl⟩
                      have HWL := hide' hwl
                      have wlb : wl + 1 ≤ 65536 := by have := WSL.out; omega
                      rw [hwl] at WR2
                      clear hwl
                      have SEN := hide' (show (follN S n T c e.set) = z by rw [EM.out]; exact hs)
                      have dv : (a * S + c) / S = a := by rw [Nat.mul_comm, Nat.mul_add_div (by omega), Nat.div_eq_of_lt (by omega)]; rfl
                      have md : (a * S + c) % S = c := by rw [Nat.mul_comm, Nat.mul_add_mod, Nat.mod_eq_of_lt (by omega)]
                      have NXT := hide' (show runQ F S M (a * S + (c + 1)) = if z ∈ Q.map En.set then Q else Q ++ [⟨z, c, a, e.wd ++ [((c : Nat) : Int)]⟩] by
                        rw [← Nat.add_assoc]
                        show stepQ F S (runQ F S M (a * S + c)) (a * S + c) = _
                        rw [← H.out.1, stepQ, dv, md, EA.out, ← hF]
                        simp only [SEN.out])
                      have ORP := hide' (show z = 0 → OrphanIs F S M (some (e.wd ++ [((c : Nat) : Int)])) from fun h0 => ⟨a * S + c, e, by rw [← H.out.1]; exact H.out.2.2.1, by rw [dv, ← H.out.1]; exact EA.out, by rw [md, ← hF, SEN.out]; exact h0, by rw [md]⟩)
                      have LNX := hide' (show (runQ F S M (a * S + (c + 1))).length ≤ N from runQ_length (by have := HM.out; omega) (by rw [← hF]; exact FL.out) _)
                      clear dv md
                      rcases WR2.out.2 with ⟨rfl, w0⟩ | ⟨gv, capv, cur, rfl, _, hcur, hcv, hmv, hsv, htv⟩
                      · have E0 := hide' (show e.wd = [] from List.length_eq_zero_iff.1 (by rw [HWL.out]; simpa using w0))
                        have WL0 := hide' (show wl = 0 by rw [← HWL.out, E0.out]; rfl)
                        clear w0
                        go_upto_region 40 with (first
                          | (at_builtin; refine wpList_append_own_none _ rfl _ _ 22 rfl W2.heap.size 3 i0 1 Tryd.underlying22 hi0 (.slice none 0 0) 0 [] rfl NR.out rfl ?_)
                          | (at_builtin; refine wpList_append_own_at _ rfl _ _ 22 rfl W2.heap.size 3 i0 (.int .i64 0) 1 8 Tryd.underlying22 hi0 hz0 hz1 hz2 rfl (by decide) (.slice none 0 0) 0 [] rfl (NR.out.alloc _) ⟨W2.heap.size, 0, none⟩ 1 1 [.int .i64 (c : Int)] rfl rfl (cell_one_new _ _ _) (by simp [Value.oneCell']) (by unfold maxLen; omega) (by omega) (by simp) ?_; intro v2 w6 own6 grow6 nil6 loc6; have O6 := hide' (show w6.ownsRow W2.heap.size 3 1 v2 (wl + 1) ((e.wd.map fun y => Value.int .i64 y) ++ [.int .i64 (c : Int)]) by (rw [E0.out, WL0.out]; exact own6)); have B6 := hide' (((Below.refl W2.heap.size W2).alloc (Nat.le_refl _) _).grown grow6 (by simp) (fun k q => by simp [Value.ownBlock] at q)); clear own6 grow6 nil6 loc6))
                        obtain ⟨gz', cz, ev2⟩ := row_form O6.out (by omega)
                        subst ev2
                        have RO6 := hide' (RO2.out.below B6.out)
                        have BF6 := hide' (RO6.out.bl)
                        rcases Nat.eq_zero_or_pos z with zz | zz
                        · have sq : ((z : Int) == 0) = true := by rw [zz]; rfl
                          have ORZ := hide' (ORP.out zz)
                          have CL := hide' (owns_cel (xs := e.wd ++ [((c : Nat) : Int)]) (show w6.ownsRow W2.heap.size 3 1 (.slice (some ⟨gz', 0, none⟩) (wl + 1) cz) (e.wd ++ [((c : Nat) : Int)]).length ((e.wd ++ [((c : Nat) : Int)]).map fun y => Value.int .i64 y) by rw [List.length_append, HWL.out, List.map_append]; exact O6.out) (by simp))
                          clear zz
                          go_wp2
                          rw [← HPP.out]
                          refine Or.inl ⟨e.wd ++ [((c : Nat) : Int)], gz', cz, by rw [List.length_append, HWL.out]; rfl, ?_, by rw [List.length_append, HWL.out]; simp only [List.length_cons, List.length_nil]; omega, ?_, BF6.out⟩
                          · rw [hF, HN.out, show N - 1 = M by have := HM.out; omega]
                            exact ORZ.out
                          · obtain ⟨g', cap', ev, _, cl⟩ := CL.out
                            injection ev with ev _ _
                            injection ev with ev
                            injection ev with ev
                            subst ev
                            exact cl
                        · have sq : ((z : Int) == 0) = false := by rw [beq_eq_false_iff_ne]; omega
                          have bz := RO6.out.bn z (by omega)
                          have fz := RO6.out.bf z
                          by_cases hmem : z ∈ Q.map En.set
                          · rw [decide_eq_true hmem] at bz
                            have NX1 := hide' (show runQ F S M (a * S + (c + 1)) = Q by rw [NXT.out, if_pos hmem])
                            clear hmem
                            go_wp2
                            exact ⟨⟨c + 1, L, g, cap, g2, cap2, Q, ws, by go_num, rfl, rfl, hL, haL, by omega, hide' ⟨NX1.out.symm, H.out.2.1, H.out.2.2.1, RO6.out⟩⟩, by simp [intOf]; omega⟩
                          · rw [decide_eq_false hmem] at bz
                            have NX1 := hide' (show runQ F S M (a * S + (c + 1)) = Q ++ [⟨z, c, a, e.wd ++ [((c : Nat) : Int)]⟩] by rw [NXT.out, if_neg hmem])
                            have LN : L + 1 ≤ N := by have := LNX.out; rw [NX1.out, List.length_append, QL.out] at this; exact this
                            have S0 := hide' RO6.out.o3
                            have SR7 := hide' (show (w6.setCell ⟨gb, z, none⟩ (.bool true)).ownsRow (gb + 1) 3 1 (.slice (some ⟨g, 0, none⟩) L cap) L (Q.map fun e => Value.int .i64 (e.set : Int)) from by
                              have h := RO6.out.sr
                              rw [QL.out] at h
                              refine owns_stay h fun k hk => ?_
                              have : g = k := by simpa [Value.ownBlock] using hk
                              rw [heap_setCell_other _ _ _ _ _ (by omega)])
                            have WR7 := hide' (show (w6.setCell ⟨gb, z, none⟩ (.bool true)).ownsRow (gb + 1) 22 1 (.slice (some ⟨g2, 0, none⟩) L cap2) L ws from by
                              have h := RO6.out.wr_
                              rw [QL.out] at h
                              refine owns_stay h fun k hk => ?_
                              have : g2 = k := by simpa [Value.ownBlock] using hk
                              rw [heap_setCell_other _ _ _ _ _ (by omega)])
                            clear hmem
                            go_upto_region 44 with fail
                            obtain ⟨W7, hW7⟩ : ∃ W7, w6.setCell ⟨gb, z, none⟩ (.bool true) = W7 := ⟨_, rfl⟩
                            have Z7 := hide' (show gb + 1 ≤ W7.heap.size by rw [← hW7, World.size_setCell]; exact S0.out)
                            rw [hW7] at SR7 WR7 ⊢
                            have HW7 := hide' hW7
                            clear hW7
                            go_upto_region 45 with (at_builtin; refine wpList_append_own_at _ rfl _ _ 22 rfl (gb + 1) 3 i0 (.int .i64 0) 1 8 Tryd.underlying22 hi0 hz0 hz1 hz2 rfl (by decide) (.slice (some ⟨g, 0, none⟩) L cap) L (Q.map fun e => Value.int .i64 (e.set : Int)) rfl (SR7.out.alloc _) ⟨W7.heap.size, 0, none⟩ 1 1 [.int .i64 (z : Int)] rfl rfl (cell_one_new _ _ _) (by simp [Value.oneCell']) (by unfold maxLen; omega) (by omega) (by have := Z7.out; simp; omega) ?_; intro sv' w8 own8 grow8 nil8 loc8; have O8 := hide' own8; have G8 := hide' grow8; have L8 := hide' loc8; clear own8 grow8 nil8 loc8)
                            have WR8 := hide' (show w8.ownsRow (gb + 1) 22 1 (.slice (some ⟨g2, 0, none⟩) L cap2) L ws from (WR7.out.alloc _).kept G8.out (Or.inr (fun q => rows_apart WR7.out SR7.out (by decide) g2 rfl (by rw [← q]; rfl))))
                            obtain ⟨g8, c8, ev8⟩ := row_form O8.out (by omega)
                            subst ev8
                            have Z8 := hide' (show gb + 1 ≤ w8.heap.size by have := G8.out.size; rw [World.size_alloc] at this; have := Z7.out; omega)
                            go_wp2_with (at_builtin; refine wpList_append_own_at _ rfl _ _ 156 rfl (gb + 1) 22 i1 (.slice none 0 0) 1 24 Tryd.underlying156 hi1 hy0 hy1 hy2 rfl (by decide) (.slice (some ⟨g2, 0, none⟩) L cap2) L ws rfl (WR8.out.alloc _) ⟨w8.heap.size, 0, none⟩ 1 1 [.slice (some ⟨gz', 0, none⟩) (wl + 1) cz] rfl rfl (cell_one_new _ _ _) (by simp [Value.oneCell']) (by unfold maxLen; omega) (by omega) (by have := Z8.out; simp; omega) ?_; intro wv' w9 own9 grow9 nil9 loc9; have O9 := hide' own9; have G9 := hide' grow9; clear own9 grow9 nil9 loc9; obtain ⟨g9, c9, ev9⟩ := row_form O9.out (by omega); subst ev9)
                            have RON := hide' (RO6.out.push (base := W2.heap.size) (x := ⟨z, c, a, e.wd ++ [((c : Nat) : Int)]⟩) rfl (by omega) (by show w6.ownsRow W2.heap.size 3 1 _ (e.wd ++ [((c : Nat) : Int)]).length _; rw [List.length_append, HWL.out, List.map_append]; exact O6.out) RO2.out.o3 (fun k q => by have := (row_size RO2.out.sr q).2; exact this) (by rw [HW7.out]; exact G8.out) (by rw [QL.out]; exact O8.out) (by rw [HW7.out]; exact L8.out) G9.out (by rw [QL.out]; exact O9.out))
                            exact ⟨⟨c + 1, L + 1, g8, c8, g9, c9, _, _, by go_num, rfl, rfl, by omega, by omega, by omega, hide' ⟨NX1.out.symm, by rw [List.length_append, QL.out]; rfl, fun e' he' => (List.mem_append.1 he').elim (H.out.2.2.1 e') (fun h => by simp at h; rw [h]; show z ≠ 0; omega), RON.out⟩⟩, by simp [intOf]; omega⟩
                      · have SRC := hide' (show ∀ j u, (e.wd.map fun y => Value.int .i64 y)[j]? = some u → W2.cell? ((⟨gv, 0, none⟩ : Addr).add j) = some u from fun j u hu => by
                          rw [show (⟨gv, 0, none⟩ : Addr).add j = ⟨gv, j, none⟩ by unfold Addr.add; split <;> simp_all]
                          exact row_cellsG (show W2.ownsRow (gb + 1) 3 1 (.slice (some ⟨gv, 0, none⟩) wl capv) wl _ from WR2.out) j u hu)
                        have GVL := hide' (show gv < W2.heap.size from (Array.getElem?_eq_some_iff.1 hcur).1)
                        clear hcur hcv hmv hsv htv
                        go_upto_region 40 with (first
                          | (at_builtin; refine wpList_append_own_at _ rfl _ _ 22 rfl W2.heap.size 3 i0 (.int .i64 0) 1 8 Tryd.underlying22 hi0 hz0 hz1 hz2 rfl (by decide) (.slice none 0 0) 0 [] rfl NR.out ⟨gv, 0, none⟩ wl capv (e.wd.map fun y => Value.int .i64 y) rfl (by rw [List.length_map, HWL.out, Nat.mul_one]) SRC.out (by intro u hu; obtain ⟨y, _, rfl⟩ := List.mem_map.1 hu; rfl) (by unfold maxLen; omega) (by omega) (Nat.le_refl _) ?_; intro v1 w5 own5 grow5 nil5 loc5; have O5 := hide' (show w5.ownsRow W2.heap.size 3 1 v1 wl (e.wd.map fun y => Value.int .i64 y) by (have h := own5; rw [Nat.zero_add, List.nil_append] at h; exact h)); have B5 := hide' ((Below.refl W2.heap.size W2).grown grow5 (Nat.le_refl _) (fun k q => by simp [Value.ownBlock] at q)); clear own5 grow5 nil5 loc5)
                          | (at_builtin; refine wpList_append_own_at _ rfl _ _ 22 rfl W2.heap.size 3 i0 (.int .i64 0) 1 8 Tryd.underlying22 hi0 hz0 hz1 hz2 rfl (by decide) v1 wl (e.wd.map fun y => Value.int .i64 y) rfl (O5.out.alloc _) ⟨w5.heap.size, 0, none⟩ 1 1 [.int .i64 (c : Int)] rfl rfl (cell_one_new _ _ _) (by simp [Value.oneCell']) (by unfold maxLen; omega) (by omega) (by have := B5.out.size; simp; omega) ?_; intro v2 w6 own6 grow6 nil6 loc6; have O6 := hide' own6; have B6 := hide' ((B5.out.alloc B5.out.size _).grown grow6 (by have := B5.out.size; simp; omega) (row_base O5.out)); clear own6 grow6 nil6 loc6))
                        obtain ⟨gz', cz, ev2⟩ := row_form O6.out (by omega)
                        subst ev2
                        have RO6 := hide' (RO2.out.below B6.out)
                        have BF6 := hide' (RO6.out.bl)
                        rcases Nat.eq_zero_or_pos z with zz | zz
                        · have sq : ((z : Int) == 0) = true := by rw [zz]; rfl
                          have ORZ := hide' (ORP.out zz)
                          have CL := hide' (owns_cel (xs := e.wd ++ [((c : Nat) : Int)]) (show w6.ownsRow W2.heap.size 3 1 (.slice (some ⟨gz', 0, none⟩) (wl + 1) cz) (e.wd ++ [((c : Nat) : Int)]).length ((e.wd ++ [((c : Nat) : Int)]).map fun y => Value.int .i64 y) by rw [List.length_append, HWL.out, List.map_append]; exact O6.out) (by simp))
                          clear zz
                          go_wp2
                          rw [← HPP.out]
                          refine Or.inl ⟨e.wd ++ [((c : Nat) : Int)], gz', cz, by rw [List.length_append, HWL.out]; rfl, ?_, by rw [List.length_append, HWL.out]; simp only [List.length_cons, List.length_nil]; omega, ?_, BF6.out⟩
                          · rw [hF, HN.out, show N - 1 = M by have := HM.out; omega]
                            exact ORZ.out
                          · obtain ⟨g', cap', ev, _, cl⟩ := CL.out
                            injection ev with ev _ _
                            injection ev with ev
                            injection ev with ev
                            subst ev
                            exact cl
                        · have sq : ((z : Int) == 0) = false := by rw [beq_eq_false_iff_ne]; omega
                          have bz := RO6.out.bn z (by omega)
                          have fz := RO6.out.bf z
                          by_cases hmem : z ∈ Q.map En.set
                          · rw [decide_eq_true hmem] at bz
                            have NX1 := hide' (show runQ F S M (a * S + (c + 1)) = Q by rw [NXT.out, if_pos hmem])
                            clear hmem
                            go_wp2
                            exact ⟨⟨c + 1, L, g, cap, g2, cap2, Q, ws, by go_num, rfl, rfl, hL, haL, by omega, hide' ⟨NX1.out.symm, H.out.2.1, H.out.2.2.1, RO6.out⟩⟩, by simp [intOf]; omega⟩
                          · rw [decide_eq_false hmem] at bz
                            have NX1 := hide' (show runQ F S M (a * S + (c + 1)) = Q ++ [⟨z, c, a, e.wd ++ [((c : Nat) : Int)]⟩] by rw [NXT.out, if_neg hmem])
                            have LN : L + 1 ≤ N := by have := LNX.out; rw [NX1.out, List.length_append, QL.out] at this; exact this
                            have S0 := hide' RO6.out.o3
                            have SR7 := hide' (show (w6.setCell ⟨gb, z, none⟩ (.bool true)).ownsRow (gb + 1) 3 1 (.slice (some ⟨g, 0, none⟩) L cap) L (Q.map fun e => Value.int .i64 (e.set : Int)) from by
                              have h := RO6.out.sr
                              rw [QL.out] at h
                              refine owns_stay h fun k hk => ?_
                              have : g = k := by simpa [Value.ownBlock] using hk
                              rw [heap_setCell_other _ _ _ _ _ (by omega)])
                            have WR7 := hide' (show (w6.setCell ⟨gb, z, none⟩ (.bool true)).ownsRow (gb + 1) 22 1 (.slice (some ⟨g2, 0, none⟩) L cap2) L ws from by
                              have h := RO6.out.wr_
                              rw [QL.out] at h
                              refine owns_stay h fun k hk => ?_
                              have : g2 = k := by simpa [Value.ownBlock] using hk
                              rw [heap_setCell_other _ _ _ _ _ (by omega)])
                            clear hmem
                            go_upto_region 44 with fail
                            obtain ⟨W7, hW7⟩ : ∃ W7, w6.setCell ⟨gb, z, none⟩ (.bool true) = W7 := ⟨_, rfl⟩
                            have Z7 := hide' (show gb + 1 ≤ W7.heap.size by rw [← hW7, World.size_setCell]; exact S0.out)
                            rw [hW7] at SR7 WR7 ⊢
                            have HW7 := hide' hW7
                            clear hW7
                            go_upto_region 45 with (at_builtin; refine wpList_append_own_at _ rfl _ _ 22 rfl (gb + 1) 3 i0 (.int .i64 0) 1 8 Tryd.underlying22 hi0 hz0 hz1 hz2 rfl (by decide) (.slice (some ⟨g, 0, none⟩) L cap) L (Q.map fun e => Value.int .i64 (e.set : Int)) rfl (SR7.out.alloc _) ⟨W7.heap.size, 0, none⟩ 1 1 [.int .i64 (z : Int)] rfl rfl (cell_one_new _ _ _) (by simp [Value.oneCell']) (by unfold maxLen; omega) (by omega) (by have := Z7.out; simp; omega) ?_; intro sv' w8 own8 grow8 nil8 loc8; have O8 := hide' own8; have G8 := hide' grow8; have L8 := hide' loc8; clear own8 grow8 nil8 loc8)
                            have WR8 := hide' (show w8.ownsRow (gb + 1) 22 1 (.slice (some ⟨g2, 0, none⟩) L cap2) L ws from (WR7.out.alloc _).kept G8.out (Or.inr (fun q => rows_apart WR7.out SR7.out (by decide) g2 rfl (by rw [← q]; rfl))))
                            obtain ⟨g8, c8, ev8⟩ := row_form O8.out (by omega)
                            subst ev8
                            have Z8 := hide' (show gb + 1 ≤ w8.heap.size by have := G8.out.size; rw [World.size_alloc] at this; have := Z7.out; omega)
                            go_wp2_with (at_builtin; refine wpList_append_own_at _ rfl _ _ 156 rfl (gb + 1) 22 i1 (.slice none 0 0) 1 24 Tryd.underlying156 hi1 hy0 hy1 hy2 rfl (by decide) (.slice (some ⟨g2, 0, none⟩) L cap2) L ws rfl (WR8.out.alloc _) ⟨w8.heap.size, 0, none⟩ 1 1 [.slice (some ⟨gz', 0, none⟩) (wl + 1) cz] rfl rfl (cell_one_new _ _ _) (by simp [Value.oneCell']) (by unfold maxLen; omega) (by omega) (by have := Z8.out; simp; omega) ?_; intro wv' w9 own9 grow9 nil9 loc9; have O9 := hide' own9; have G9 := hide' grow9; clear own9 grow9 nil9 loc9; obtain ⟨g9, c9, ev9⟩ := row_form O9.out (by omega); subst ev9)
                            have RON := hide' (RO6.out.push (base := W2.heap.size) (x := ⟨z, c, a, e.wd ++ [((c : Nat) : Int)]⟩) rfl (by omega) (by show w6.ownsRow W2.heap.size 3 1 _ (e.wd ++ [((c : Nat) : Int)]).length _; rw [List.length_append, HWL.out, List.map_append]; exact O6.out) RO2.out.o3 (fun k q => by have := (row_size RO2.out.sr q).2; exact this) (by rw [HW7.out]; exact G8.out) (by rw [QL.out]; exact O8.out) (by rw [HW7.out]; exact L8.out) G9.out (by rw [QL.out]; exact O9.out))
                            exact ⟨⟨c + 1, L + 1, g8, c8, g9, c9, _, _, by go_num, rfl, rfl, by omega, by omega, by omega, hide' ⟨NX1.out.symm, by rw [List.length_append, QL.out]; rfl, fun e' he' => (List.mem_append.1 he').elim (H.out.2.2.1 e') (fun h => by simp at h; rw [h]; show z ≠ 0; omega), RON.out⟩⟩, by simp [intOf]; omega⟩
            · have H2 := hide' (show Q = runQ F S M ((a + 1) * S) by rw [Nat.add_mul, Nat.one_mul, show S = c by omega]; exact (show c = S by omega) ▸ H.out.1)
              have H3 := hide' H.out.2
              clear H
              go_wp2
              exact ⟨⟨a + 1, L, g, cap, g2, cap2, Q, ws, by go_num, rfl, rfl, hL, by omega, hide' ⟨H2.out, H3.out⟩⟩, by simp [intOf]; omega⟩
        · have HO := hide' (show OrphanIs F S M none from ⟨a, by rw [← H.out.1]; exact H.out.2.2.1, by rw [← H.out.1, H.out.2.1]; omega⟩)
          have BF := hide' H.out.2.2.2.bl
          clear H
          go_wp2
          rw [← HPP.out]
          refine Or.inr ⟨?_, rfl, BF.out⟩
          rw [hF, HN.out, show N - 1 = M by have := HM.out; omega]
          exact HO.out
end Go.Proofs.YtdhbdkkchobinaaDoor

