/-
  What the last text of this claim leans on, part 28: Gf1.
-/
import Derived.Test.YtjjdjdodhedihaaDoorJl27
import Derived.Test.YtjjdjdodhedihaaDoorJl18
import Derived.Test.YtjjdjdodhedihaaDoorJl16
import Derived.Test.YtjjdjdodhedihaaDoorJl14
namespace Go.Proofs.YtjjdjdodhedihaaDoor
open Go.RowKit
set_option linter.unusedVariables false

def unitF (i t : Nat) : Nat := if t = i then 1 else 0
theorem hn_unit (S i : Nat) : ∀ k, hn S (unitF i) 0 k = if k ≤ i then 0 else S ^ (k - 1 - i)
  | 0 => by simp [hn]
  | k + 1 => by
    rw [hn, hn_unit S i k, Nat.zero_add]
    unfold unitF
    rcases Nat.lt_trichotomy k i with q | q | q
    · simp [show k ≤ i by omega, show ¬ k = i by omega, show k + 1 ≤ i by omega]
    · subst q
      simp
    · simp only [show ¬ k ≤ i by omega, show ¬ k = i by omega, show ¬ k + 1 ≤ i by omega, if_false, Nat.add_zero]
      rw [← Nat.pow_succ]
      congr 1
      omega
theorem hn_unit_le {S i k : Nat} (hS : 0 < S) {K : Nat} (hk : k ≤ K) (h0 : 0 < K) : hn S (unitF i) 0 k ≤ S ^ (K - 1) := by
  rw [hn_unit]
  split
  · exact Nat.zero_le _
  · exact Nat.pow_le_pow_right hS (by omega)
/-- What holds between the rounds of the first loop. -/
structure LR (w1 wr : World) (v : Value) (xs : List Int) : Prop where
  bl : Below w1.heap.size w1 wr
  own : wr.ownsRow w1.heap.size 3 1 v xs.length (xs.map fun y => Value.int .i64 y)
theorem LR.start (w1 : World) : LR w1 w1 (.slice none 0 0) [] := ⟨Below.refl _ _, by simp, Or.inl ⟨rfl, by simp⟩⟩
theorem LR.make {w1 wr : World} {v : Value} {xs : List Int} (h : LR w1 wr v xs) (o : Obj) (i : Nat) (u : Value) : LR w1 ((wr.alloc o).setCell ⟨wr.heap.size, i, none⟩ u) v xs := by
  refine ⟨(h.bl.alloc h.bl.size _).setCell (p := ⟨wr.heap.size, i, none⟩) h.bl.size _, ownsRow_keepB h.own fun k _ hk => ?_⟩
  rw [heap_setCell_other _ _ _ _ _ (by omega)]
  exact Below.heap_alloc _ _ _ hk
theorem LR.drewN {w1 wr : World} {v : Value} {xs : List Int} (h : LR w1 wr v xs) (q : Nat) : LR w1 (wr.drewN q) v xs := ⟨below_drewN h.bl q, ownsRow_keepB h.own fun k _ _ => rfl⟩
theorem LR.push {w1 W w3 : World} {v v' : Value} {xs : List Int} (h : LR w1 W v xs) (x : Int) (t : TypeId) (hg : (W.alloc (.cells #[.int .i64 x] t)).grownBy w3 v.ownBlock) (ho : w3.ownsRow w1.heap.size 3 1 v' (xs.length + 1) ((xs.map fun y => Value.int .i64 y) ++ [.int .i64 x])) : LR w1 w3 v' (xs ++ [x]) := by
  refine ⟨below_grown (h.bl.alloc h.bl.size _) hg (by rw [World.size_alloc]; have := h.bl.size; omega) (Nat.le_refl _) (own_ge h.own), ?_⟩
  rw [List.length_append, List.map_append]
  exact ho
def RefLinPost (S R : Nat) (T : List Int) (w : World) (e : Ending) (w' : World) : Prop :=
  ((LinP S R T ∧ ∃ g c, e = .returned (.tuple #[.slice (some ⟨g, 0, none⟩) (2 * R + 1) c, .bool true]) ∧ ArgP w' (numL S R T) (some ⟨g, 0, none⟩) (2 * R + 1) c) ∨ (¬ LinP S R T ∧ e = .returned (.tuple #[.slice none 0 0, .bool false]))) ∧ Below w.heap.size w w'

set_option maxRecDepth 100000 in
set_option maxHeartbeats 12800000 in
theorem refLinear_any (S R : Nat) (T : List Int) (ta : Option Addr) (tn tc : Nat) (w : World) (hL : LineOk S R T) (hT : ArgP w T ta tn tc) :
    Calls Tryd.prog 18 #[.agg #[.int .i64 2, .int .i64 0, .int .i64 0, .int .i64 (S : Int), .int .i64 (R : Int), .slice ta tn tc, .string ⟨#[]⟩]] w (RefLinPost S R T w) := by
  obtain ⟨i0, hi, hz0, hz1, hz2⟩ := info_parts info_int
  obtain ⟨w1, hw1⟩ : ∃ w1, w.alloc (.cells #[.int .i64 2, .int .i64 0, .int .i64 0, .int .i64 (S : Int), .int .i64 (R : Int), .slice ta tn tc, .string ⟨#[]⟩] 24) = w1 := ⟨_, rfl⟩
  have BB := hide' (show Below w.heap.size w w1 by rw [← hw1]; exact (Below.refl _ _).alloc (Nat.le_refl _) _)
  have RX := hide' (show RB w.heap.size S R (.slice ta tn tc) w1 by rw [← hw1]; exact RB.new w S R _ _)
  have AT := hide' (hT.below BB.out)
  have s2 := hL.s2
  have s4 := hL.s4
  have r10 := hL.r10
  have t4 : tn ≤ 4096 := by rw [hT.len]; exact hL.max
  have TL := hide' hT.len
  have TO := hide' hL.ok
  have n2 : ¬ (S : Int) = 0 := by omega
  obtain ⟨K, hK⟩ : ∃ K, 2 * R + 1 = K := ⟨_, rfl⟩
  obtain ⟨cs, hcs⟩ : ∃ cs, numL S R T = cs := ⟨_, rfl⟩
  have hki : (2 : Int) * (R : Int) + 1 = (K : Int) := by omega
  have K21 : K ≤ 21 := by omega
  have CL := hide' (show cs.length = K by rw [← hcs, ← hK]; exact numL_length S R T)
  have COK := hide' (show cellsOk S cs by rw [← hcs]; exact numL_ok hL)
  have CAT := hide' (fun (i : Nat) (h : i < K) => show cs.getD i 0 = T.getD (S ^ (K - 1 - i)) 0 by rw [← hcs, ← hK]; exact numL_at (by omega))
  have PW := hide' (fun (i : Nat) => show S ^ (K - 1 - i) < tn by rw [hT.len, hL.len]; exact Nat.pow_lt_pow_right (by omega) (by omega))
  have PK := hide' (show S ^ (K - 1) < tn by rw [hT.len, hL.len]; exact Nat.pow_lt_pow_right (by omega) (by omega))
  have CB := hide' (fun x i (hi : i < K) => addF_bound (m := K) s4 (show cellsOk S cs by rw [← hcs]; exact numL_ok hL) x i (by rw [← hcs, numL_length]; omega))
  have LP := hide' (show (∀ x, x < tn → sumF (addF S K cs x) K % S = T.getD x 0) ↔ LinP S R T by rw [hT.len, ← hcs, ← hK]; exact Iff.rfl)
  obtain ⟨PP, hPP⟩ : ∃ PP, RefLinPost S R T w = PP := ⟨_, rfl⟩
  have HPP := hide' hPP
  rw [hPP]
  unfold RefLinPost at HPP
  rw [hcs, hK] at HPP
  clear hT hL hcs hK hPP
  obtain ⟨x0, x1, x2, x3, x4, x5, x6⟩ := RX.out
  go_enter Tryd.func18, Tryd.ntmps18
  go_wp2
  clear x0 x1 x2 x3 x4 x5 x6 hw1
  go_loopw [5, 6] (fun cv iv wr => ∃ i : Nat, iv = .int .i64 (i : Int) ∧ i ≤ K ∧ LR w1 wr cv (cs.take i)) (fun _ iv _ => K - (intOf iv).toNat)
  case atStart => exact ⟨0, rfl, by omega, LR.start w1⟩
  case round =>
    obtain ⟨i, rfl, hik, H⟩ := hrel
    have LH := hide' H
    have hlen : (cs.take i).length = i := by have := CL.out; rw [List.length_take]; omega
    obtain ⟨sa, sc, e⟩ := ownsRow_len H.own
    rw [hlen] at e
    subst e
    have HLN := hide' hlen
    clear H hlen
    obtain ⟨V, hV⟩ : ∃ V, V = wr := ⟨_, rfl⟩
    subst hV
    obtain ⟨x0, x1, x2, x3, x4, x5, x6⟩ := RX.out.next LH.out.bl
    by_cases d : (i : Int) < (K : Int)
    · have CM := hide' (Cel.made V K 3)
      have c0 : (V.alloc (.cells (madeCells #[.int .i64 0] K) 3)).cell? ⟨V.heap.size, i, none⟩ = some (.int .i64 0) := by
        have := CM.out.cells i (by rw [List.length_replicate]; omega)
        rw [this]
        have hiK : i < K := by omega
        simp [List.getD, hiK]
      have f0 := CM.out.fz i
      obtain ⟨W, hW⟩ : ∃ W, (V.alloc (.cells (madeCells #[.int .i64 0] K) 3)).setCell ⟨V.heap.size, i, none⟩ (.int .i64 1) = W := ⟨_, rfl⟩
      have CW := hide' (show Cel W V.heap.size ((List.replicate K 0).set i 1) by rw [← hW]; exact CM.out.set i 1 (by rw [List.length_replicate]; omega))
      have LW := hide' (show LR w1 W (.slice sa i sc) (cs.take i) by rw [← hW]; exact LH.out.make _ i _)
      have UA := hide' (fun (k : Nat) (hk : k < K) => show ((List.replicate K (0 : Int)).set i 1).getD k 0 = ((unitF i k : Nat) : Int) by
        unfold unitF
        rw [getD_set, List.length_replicate]
        by_cases e : k = i
        · rw [if_pos ⟨e, by omega⟩, if_pos e]; rfl
        · rw [if_neg (fun q => e q.1), if_neg e]
          simp [List.getD, hk])
      have hmk := run_make_row' (P := Tryd.prog) 22 3 (.int .i64 0) 8 Tryd.underlying22 info_int rfl .i64 .i64 K (by omega) (by omega) V
      go_wp2
      clear x0 x1 x2 x3 x4 x5 x6 c0 f0 hW hmk
      go_loopw [8, 9] (fun nv kv wr => ∃ k y q : Nat, kv = .int .i64 (k : Int) ∧ nv = .int .i64 (y : Int) ∧ k ≤ K ∧ y ≤ 4096 ∧ wr = W.drewN q ∧ Hid (y = hn S (unitF i) 0 k)) (fun _ kv _ => K - (intOf kv).toNat)
      case atStart => exact ⟨0, 0, 0, rfl, rfl, by omega, by omega, rfl, hide' rfl⟩
      case round =>
        obtain ⟨k, y, q, rfl, rfl, hk, hy, rfl, HY⟩ := hrel
        obtain ⟨x0, x1, x2, x3, x4, x5, x6⟩ := RX.out.next LW.out.bl
        by_cases dk : (k : Int) < (K : Int)
        · have hc := CW.out.cells k (by rw [List.length_set, List.length_replicate]; omega)
          rw [UA.out k (by omega)] at hc
          obtain ⟨u, hu⟩ : ∃ u, unitF i k = u := ⟨_, rfl⟩
          obtain ⟨p, hp⟩ : ∃ p : Nat, (y : Int) * (S : Int) = (p : Int) := ⟨y * S, by simp⟩
          have NY := hide' (show p + u = hn S (unitF i) 0 (k + 1) by
            rw [hn, ← HY.out, Nat.zero_add, hu]
            have : ((y * S : Nat) : Int) = (p : Int) := by rw [← hp]; simp
            omega)
          have hle : p + u ≤ 4096 := by
            have a := hn_unit_le (S := S) (i := i) (k := k + 1) (K := K) (by omega) (by omega) (by omega)
            have b := PK.out
            rw [← NY.out] at a
            omega
          rw [hu] at hc
          clear hu
          go_wp2
          go_quiet (fail)
          go_wp2
          exact ⟨⟨k + 1, p + u, q + nq, by go_num, by go_num, by omega, hle, rfl, NY⟩, by simp [intOf]; omega⟩
        · have kK : k = K := by omega
          subst kK
          have ye : y = S ^ (k - 1 - i) := by rw [HY.out, hn_unit, if_neg (by omega)]
          have yl : y < tn := by rw [ye]; exact PW.out i
          have XV := hide' (show cs.getD i 0 = T.getD y 0 by rw [ye]; exact CAT.out i (by omega))
          clear ye HY
          obtain ⟨tg, toff, rfl, ht⟩ := (AT.out.below LW.out.bl).at (k := y) yl
          obtain ⟨x, hx⟩ : ∃ x, T.getD y 0 = x := ⟨_, rfl⟩
          rw [hx] at ht
          have XE := hide' (XV.out.trans hx)
          have LD := hide' (LW.out.drewN q)
          clear hx XV
          go_wp2_with (at_builtin; refine wpList_append_own _ rfl _ _ 22 rfl w1.heap.size 3 i0 (.int .i64 0) 1 8 Tryd.underlying22 hi hz0 hz1 hz2 rfl (by decide) (.slice sa i sc) _ _ rfl (LD.out.own.alloc _) ⟨(W.drewN q).heap.size, 0, none⟩ 1 1 [.int .i64 x] rfl rfl (cell_one_new _ _ _) (fun x hx => by simp at hx; subst hx; rfl) (by rw [HLN.out]; unfold maxLen; omega) (by rw [HLN.out]; omega) (by have := LD.out.bl.size; rw [World.size_alloc]; omega) ?_; intro v' w3 hown3 hgrow3 hnil3; have L3 := hide' (LD.out.push x 3 hgrow3 hown3); clear hown3 hgrow3 hnil3)
          exact ⟨⟨i + 1, by go_num, by omega, by rw [take_next (by have := CL.out; omega) XE.out]; exact L3.out⟩, by simp [intOf]; omega⟩
    · have iK : i = K := by omega
      subst iK
      have OW := LH.out.own
      rw [show cs.take i = cs by have := CL.out; exact List.take_of_length_le (by omega)] at OW
      obtain ⟨g, cap, e, ac⟩ := ownsRow_argP OW (by have := CL.out; omega) (by have := CL.out; unfold maxLen; omega)
      have AC := hide' ac
      have CLe := CL.out
      rw [CLe] at e AC
      injection e with e1 e2 e3
      subst e1
      subst e3
      clear ac OW e2 CLe
      go_wp2
      clear x0 x1 x2 x3 x4 x5 x6
      go_loopw [10] (fun nv wr => ∃ n : Nat, nv = .int .i64 (n : Int) ∧ n ≤ tn ∧ Hid (Below V.heap.size V wr) ∧ Hid (∀ x, x < n → sumF (addF S i cs x) i % S = T.getD x 0)) (fun nv _ => tn - (intOf nv).toNat)
      case atStart => exact ⟨0, rfl, by omega, hide' (Below.refl _ _), hide' (fun x hx => by omega)⟩
      case round =>
        obtain ⟨n, rfl, hn, BV, HN⟩ := hrel
        obtain ⟨U, hU⟩ : ∃ U, U = wr := ⟨_, rfl⟩
        subst hU
        obtain ⟨x0, x1, x2, x3, x4, x5, x6⟩ := (RX.out.next LH.out.bl).next BV.out
        by_cases d : (n : Int) < (tn : Int)
        · go_wp2_with fail
          refine (Window_ref S i n _ (by omega) (by omega) (by omega) (by omega)).mono ?_
          rintro e w5 ⟨rfl, fd⟩
          have FD := hide' fd
          have BW := hide' (BV.out.trans (fd.below.mono BV.out.size))
          clear fd x0 x1 x2 x3 x4 x5 x6
          go_wp2
          go_loopw [12, 13] (fun sv kv wr => ∃ (k q : Nat) (u : Int), kv = .int .i64 (k : Int) ∧ sv = .int .i64 u ∧ k ≤ i ∧ 0 ≤ u ∧ u ≤ 16 * (k : Int) ∧ wr = w5.drewN q ∧ Hid (u = sumF (addF S i cs n) k)) (fun _ kv _ => i - (intOf kv).toNat)
          case atStart => exact ⟨0, 0, 0, rfl, rfl, by omega, by omega, by omega, rfl, hide' rfl⟩
          case round =>
            obtain ⟨k, q, u, rfl, rfl, hk, hu0, hu1, rfl, HU⟩ := hrel
            obtain ⟨x0, x1, x2, x3, x4, x5, x6⟩ := (RX.out.next LH.out.bl).next BW.out
            by_cases dk : (k : Int) < (i : Int)
            · obtain ⟨gc, oc, eg, hc⟩ := (AC.out.below BW.out).at (k := k) (by omega)
              obtain ⟨cv, hcv⟩ : ∃ cv, cs.getD k 0 = cv := ⟨_, rfl⟩
              rw [hcv] at hc
              injection eg with eg
              injection eg with eg1 eg2 eg3
              subst eg1
              subst eg2
              rw [Nat.zero_add] at hc
              obtain ⟨v, hv, hv2⟩ := FD.out.cells k (by omega)
              rw [hv2 (Nat.zero_le _)] at hv
              obtain ⟨z, hz⟩ : ∃ z, winAt S i n k = z := ⟨_, rfl⟩
              rw [hz] at hv
              clear hv2
              obtain ⟨a, ha⟩ : ∃ a, cv * (z : Int) = a := ⟨_, rfl⟩
              have AF := hide' (show addF S i cs n k = a by unfold addF; rw [hcv, ← ha, ← hz]; rfl)
              have ab := CB.out n k (by omega)
              rw [AF.out] at ab
              have NU := hide' (show u + a = sumF (addF S i cs n) (k + 1) by rw [sumF, ← HU.out, AF.out])
              clear hcv hz
              go_wp2
              go_quiet (fail)
              go_wp2
              exact ⟨⟨k + 1, q + nq, u + a, by go_num, rfl, by omega, by omega, by push_cast; omega, rfl, NU⟩, by simp [intOf]; omega⟩
            · have ki : k = i := by omega
              subst ki
              obtain ⟨gt, ot, rfl, ht⟩ := ((AT.out.below LH.out.bl).below BW.out).at (k := n) (by omega)
              have tk := cellsOk_at TO.out (k := n) (by have := TL.out; omega)
              obtain ⟨v, hv⟩ : ∃ v, T.getD n 0 = v := ⟨_, rfl⟩
              rw [hv] at ht tk
              have HV := hide' hv
              clear hv
              have e3 : u.tmod (S : Int) = u % (S : Int) := Int.tmod_eq_emod_of_nonneg hu0
              obtain ⟨r, hr⟩ : ∃ r, u % (S : Int) = r := ⟨_, rfl⟩
              rw [hr] at e3
              have rb : 0 ≤ r ∧ r < (S : Int) := by rw [← hr]; exact ⟨Int.emod_nonneg _ n2, Int.emod_lt_of_pos _ (by omega)⟩
              by_cases eq : r = v
              · have q1 : (r != v) = false := by simp [eq]
                have NK := hide' (show ∀ x, x < n + 1 → sumF (addF S k cs x) k % S = T.getD x 0 from fun x hx => by
                  by_cases e : x = n
                  · subst e; rw [← HU.out, hr, HV.out]; exact eq
                  · exact HN.out x (by omega))
                clear hr eq
                go_wp2
                go_quiet (fail)
                go_wp2
                exact ⟨⟨n + 1, by go_num, by omega, hide' (below_drewN BW.out _), NK⟩, by simp [intOf]; omega⟩
              · have q1 : (r != v) = true := by simp [eq]
                have NO := hide' (show ¬ LinP S R T from fun h => eq (by have := LP.out.2 h n (by omega); rw [← HU.out, hr, HV.out] at this; exact this))
                clear hr eq
                go_wp2
                go_quiet (fail)
                go_wp2
                rw [← HPP.out]
                exact ⟨Or.inr ⟨NO.out, rfl⟩, BB.out.trans ((LH.out.bl.trans ((below_drewN (below_drewN BW.out _) _).mono LH.out.bl.size)).mono BB.out.size)⟩
        · have YS := hide' (LP.out.1 (fun x hx => HN.out x (by omega)))
          go_wp2
          rw [← HPP.out]
          exact ⟨Or.inl ⟨YS.out, g, _, rfl, AC.out.below BV.out⟩, BB.out.trans ((LH.out.bl.trans (BV.out.mono LH.out.bl.size)).mono BB.out.size)⟩
end Go.Proofs.YtjjdjdodhedihaaDoor

