/-
  What the last text of this claim leans on, part 25: Lk1, Lk2.
-/
import Derived.Test.YtdhbdkkchobinaaDoorJd3
namespace Go.Proofs.YtdhbdkkchobinaaDoor
open Go.RowKit
set_option linter.unusedVariables false

/-- Go's remainder of what is below nothing. -/
theorem tmod_neg (a : Int) (n : Nat) (hn : 0 < n) (ha : a < 0) : (a.tmod (n : Int) = 0 ∧ a % (n : Int) = 0) ∨ (a.tmod (n : Int) < 0 ∧ -(n : Int) < a.tmod (n : Int) ∧ a % (n : Int) = a.tmod (n : Int) + n) := by
  obtain ⟨b, rfl⟩ : ∃ b : Int, a = -b := ⟨-a, by omega⟩
  rw [Int.neg_tmod, Int.tmod_eq_emod_of_nonneg (by omega)]
  have h1 := Int.emod_nonneg b (show (n : Int) ≠ 0 by omega)
  have h2 := Int.emod_lt_of_pos b (show (0 : Int) < n by omega)
  have h3 := Int.emod_add_mul_ediv b (n : Int)
  by_cases h : b % (n : Int) = 0
  · left
    refine ⟨by omega, ?_⟩
    rw [show -b = 0 + (n : Int) * (-(b / (n : Int))) by rw [Int.mul_neg]; omega, Int.add_mul_emod_self_left]
    rfl
  · right
    refine ⟨by omega, by omega, ?_⟩
    rw [show -b = ((n : Int) - b % (n : Int)) + (n : Int) * (-(b / (n : Int)) - 1) by rw [Int.mul_sub, Int.mul_neg]; omega, Int.add_mul_emod_self_left, Int.emod_eq_of_lt (by omega) (by omega)]
    omega

/-- What Step's function sees: its own place, the length, the word. -/
structure CloS (w : World) (pi pn pw : Nat) (i : Nat) (ws : List Int) (wa : Option Addr) (wc : Nat) : Prop where
  ci : w.cell? ⟨pi, 0, none⟩ = some (.int .i64 (i : Int))
  cn : w.cell? ⟨pn, 0, none⟩ = some (.int .i64 (ws.length : Int))
  cw : w.cell? ⟨pw, 0, none⟩ = some (.slice wa ws.length wc)
  arg : ArgP w ws wa ws.length wc
theorem cell_lt {w : World} {p o : Nat} {v : Value} (h : w.cell? ⟨p, o, none⟩ = some v) : p < w.heap.size := by
  rcases Nat.lt_or_ge p w.heap.size with k | k
  · exact k
  · simp [World.cell?, Array.getElem?_eq_none k] at h
theorem cell_next {w w' : World} {p o : Nat} {v : Value} (h : w.cell? ⟨p, o, none⟩ = some v) (hb : Below w.heap.size w w') : w'.cell? ⟨p, o, none⟩ = some v :=
  (World.cell?_of_block (w := w) (a := ⟨p, o, none⟩) (hb.block p (cell_lt h))).trans h
theorem CloS.below {w w' : World} {pi pn pw i : Nat} {ws : List Int} {wa : Option Addr} {wc : Nat} (h : CloS w pi pn pw i ws wa wc) (hb : Below w.heap.size w w') : CloS w' pi pn pw i ws wa wc :=
  ⟨cell_next h.ci hb, cell_next h.cn hb, cell_next h.cw hb, h.arg.below hb⟩

set_option maxHeartbeats 1600000 in
theorem cloS_any (pi pn pw i : Nat) (ws : List Int) (wa : Option Addr) (wc : Nat) (k : Int) (w : World) (hC : CloS w pi pn pw i ws wa wc) (hi : i < ws.length) (hl : ws.length ≤ 1000) (k1 : -10 ≤ k) (k2 : k ≤ 10) :
    Calls Tryd.prog 126 #[.int .i64 k, .pointer (some ⟨pi, 0, none⟩), .pointer (some ⟨pn, 0, none⟩), .pointer (some ⟨pw, 0, none⟩)] w fun e w' => e = .returned (.int .i64 (rat ws ((i : Int) + k))) ∧ w' = w := by
  obtain ⟨c1, c2, c3, ha⟩ := hC
  have HA := hide' ha
  have n0 : ((ws.length : Int) == 0) = false := by rw [beq_eq_false_iff_ne]; omega
  obtain ⟨r, hr⟩ : ∃ r : Nat, ((i : Int) + k) % (ws.length : Int) = (r : Int) := ⟨(((i : Int) + k) % (ws.length : Int)).toNat, by have := Int.emod_nonneg ((i : Int) + k) (show (ws.length : Int) ≠ 0 by omega); omega⟩
  have hrl : r < ws.length := by have := Int.emod_lt_of_pos ((i : Int) + k) (show (0 : Int) < (ws.length : Int) by omega); omega
  obtain ⟨g, off, rfl, hc⟩ := ha.at (k := r) hrl
  have RA := hide' (show rat ws ((i : Int) + k) = ws.getD r 0 by unfold rat; rw [hr]; rfl)
  rw [RA.out]
  obtain ⟨x, hx⟩ : ∃ x, ws.getD r 0 = x := ⟨_, rfl⟩
  rw [hx] at hc ⊢
  clear ha hx RA
  by_cases h0 : 0 ≤ (i : Int) + k
  · have q1 : ((i : Int) + k).tmod (ws.length : Int) = (r : Int) := by rw [Int.tmod_eq_emod_of_nonneg h0]; exact hr
    have q2 : ¬ (r : Int) < 0 := by omega
    go_enter Tryd.func126, Tryd.ntmps126
    go_wp2
    go_ret
    exact ⟨rfl, rfl⟩
  · rcases tmod_neg ((i : Int) + k) ws.length (by omega) (by omega) with ⟨h1, h2⟩ | ⟨h1, h2, h3⟩
    · have r0 : r = 0 := by omega
      subst r0
      rw [Nat.add_zero] at hc
      clear hr h2
      go_enter Tryd.func126, Tryd.ntmps126
      go_wp2
      go_ret
      exact ⟨rfl, rfl⟩
    · obtain ⟨t, ht⟩ : ∃ t, ((i : Int) + k).tmod (ws.length : Int) = t := ⟨_, rfl⟩
      rw [ht] at h1 h2 h3
      have q3 : t + (ws.length : Int) = (r : Int) := by omega
      clear hr h3
      go_enter Tryd.func126, Tryd.ntmps126
      go_wp2
      go_ret
      exact ⟨rfl, rfl⟩

/-- What Apply's function sees. -/
structure CloA (w : World) (pw pi : Nat) (i : Nat) (ws : List Int) (wa : Option Addr) (wc : Nat) : Prop where
  cw : w.cell? ⟨pw, 0, none⟩ = some (.slice wa ws.length wc)
  ci : w.cell? ⟨pi, 0, none⟩ = some (.int .i64 (i : Int))
  arg : ArgP w ws wa ws.length wc
theorem CloA.below {w w' : World} {pw pi i : Nat} {ws : List Int} {wa : Option Addr} {wc : Nat} (h : CloA w pw pi i ws wa wc) (hb : Below w.heap.size w w') : CloA w' pw pi i ws wa wc :=
  ⟨cell_next h.cw hb, cell_next h.ci hb, h.arg.below hb⟩

set_option maxHeartbeats 1600000 in
theorem cloA_any (pw pi i d R : Nat) (ws : List Int) (wa : Option Addr) (wc : Nat) (k : Int) (w : World) (hC : CloA w pw pi i ws wa wc) (hk : k = (d : Int) - R) (hi : R ≤ i + d) (hd : i + d - R < ws.length) (hl : ws.length ≤ 5000) (hd1 : d ≤ 30) (hR : R ≤ 30) :
    Calls Tryd.prog 127 #[.int .i64 k, .pointer (some ⟨pw, 0, none⟩), .pointer (some ⟨pi, 0, none⟩)] w fun e w' => e = .returned (.int .i64 (ws.getD (i + d - R) 0)) ∧ w' = w := by
  obtain ⟨c1, c2, ha⟩ := hC
  obtain ⟨g, off, rfl, hc⟩ := ha.at (k := i + d - R) hd
  obtain ⟨x, hx⟩ : ∃ x, ws.getD (i + d - R) 0 = x := ⟨_, rfl⟩
  rw [hx] at hc ⊢
  obtain ⟨t, ht⟩ : ∃ t, i + d - R = t := ⟨_, rfl⟩
  rw [ht] at hc hd
  have q1 : (i : Int) + k = (t : Int) := by omega
  have k3 : -100 ≤ k := by omega
  have k4 : k ≤ 100 := by omega
  have HA := hide' ha
  clear ha hx ht hk
  go_enter Tryd.func127, Tryd.ntmps127
  go_wp2
  go_ret
  exact ⟨rfl, rfl⟩
end Go.Proofs.YtdhbdkkchobinaaDoor

namespace Go.Proofs.YtdhbdkkchobinaaDoor
open Go.RowKit
set_option linter.unusedVariables false

set_option maxRecDepth 100000 in
set_option maxHeartbeats 1600000 in
theorem cellS_any (S R : Nat) (T : List Int) (ta : Option Addr) (tn tc : Nat) (pi pn pw i : Nat) (ws : List Int) (wa : Option Addr) (wc : Nat) (w : World)
    (hL : LineOk S R T) (hT : ArgP w T ta tn tc) (hC : CloS w pi pn pw i ws wa wc) (hok : cellsOk S ws) (hi : i < ws.length) (hl : ws.length ≤ 1000) :
    Calls Tryd.prog 125 #[.agg #[.int .i64 2, .int .i64 0, .int .i64 0, .int .i64 (S : Int), .int .i64 (R : Int), .slice ta tn tc, .string ⟨#[]⟩], .func (.func 126) #[] #[.pointer (some ⟨pi, 0, none⟩), .pointer (some ⟨pn, 0, none⟩), .pointer (some ⟨pw, 0, none⟩)]] w fun e w' => e = .returned (.int .i64 (T.getD (wn S (fun d => rat ws ((i : Int) + d - R)) 0 (2 * R + 1)).toNat 0)) ∧ Below w.heap.size w w' := by
  obtain ⟨w1, hw1⟩ : ∃ w1, w.alloc (.cells #[.int .i64 2, .int .i64 0, .int .i64 0, .int .i64 (S : Int), .int .i64 (R : Int), .slice ta tn tc, .string ⟨#[]⟩] 24) = w1 := ⟨_, rfl⟩
  have BB := hide' (show Below w.heap.size w w1 by rw [← hw1]; exact (Below.refl _ _).alloc (Nat.le_refl _) _)
  have RX := hide' (show RB w.heap.size S R (.slice ta tn tc) w1 by rw [← hw1]; exact RB.new w S R _ _)
  have AT := hide' (hT.below BB.out)
  have CC := hide' (show CloS w1 pi pn pw i ws wa wc from hC.below BB.out)
  have HL := hide' hL
  have HO := hide' hok
  have TL := hide' hT.len
  have r10 := hL.r10
  have s4 := hL.s4
  have s2 := hL.s2
  have htn : tn ≤ 4096 := by have := hT.len; have := hL.max; omega
  have WIN := hide' (win_in (S := (S : Int)) (R := R) (T := T) (f := (fun d => rat ws ((i : Int) + d - R))) (i := 0) (by omega) hL.lenI (fun e he => rat_ok hok (by omega) _))
  have BND := hide' (fun (d : Nat) (hd : d ≤ 2 * R + 1) => show wn S (fun d => rat ws ((i : Int) + d - R)) 0 d ≤ 4096 from by
    have h1 := wn_lt (S := (S : Int)) (f := (fun d => rat ws ((i : Int) + d - R))) (i := 0) (m := d) (by omega) (fun e he => rat_ok hok (by omega) _)
    have h2 := pow_le_tab hL (m := d) hd
    omega)
  have NNG := hide' (fun (d : Nat) (hd : d ≤ 2 * R + 1) => wn_nonneg (S := (S : Int)) (f := (fun d => rat ws ((i : Int) + d - R))) (i := 0) (m := d) (by omega) (fun e he => (rat_ok hok (by omega) _).1))
  obtain ⟨res, hres⟩ : ∃ res, T.getD (wn S (fun d => rat ws ((i : Int) + d - R)) 0 (2 * R + 1)).toNat 0 = res := ⟨_, rfl⟩
  have RES := hide' hres
  rw [hres]
  clear hT hL hok hC hres
  obtain ⟨x0, x1, x2, x3, x4, x5, x6⟩ := RX.out
  go_enter Tryd.func125, Tryd.ntmps125
  go_wp2
  clear hw1
  go_loopw [5, 6] (fun nv kv wr => ∃ (d v : Nat) (kk : Int), kv = .int .i64 kk ∧ nv = .int .i64 (v : Int) ∧ d ≤ 2 * R + 1 ∧ Hid (kk = (d : Int) - R) ∧ Hid ((v : Int) = wn S (fun d => rat ws ((i : Int) + d - R)) 0 d) ∧ wr = w1) (fun _ kv _ => ((R : Int) + 1 - intOf kv).toNat)
  case atStart => exact ⟨0, 0, -(R : Int), rfl, rfl, by omega, hide' (by omega), hide' rfl, rfl⟩
  case round =>
    obtain ⟨d, v, kk, rfl, rfl, hd, KK, HV, rfl⟩ := hrel
    have kb1 : -10 ≤ kk := by have := KK.out; omega
    have kb2 : kk ≤ 11 := by have := KK.out; omega
    by_cases dd : kk ≤ (R : Int)
    · have hd' : d < 2 * R + 1 := by have := KK.out; omega
      go_wp2_with fail
      refine (cloS_any pi pn pw i ws wa wc kk _ CC.out hi hl (by omega) (by omega)).mono ?_
      rw [show (i : Int) + kk = (i : Int) + d - R by have := KK.out; omega]
      rintro e w2 ⟨rfl, rfl⟩
      obtain ⟨x, hx⟩ : ∃ x : Nat, rat ws ((i : Int) + d - R) = (x : Int) := ⟨(rat ws ((i : Int) + d - R)).toNat, by have := rat_ok HO.out (by omega) ((i : Int) + d - R); omega⟩
      rw [hx]
      obtain ⟨p, hp⟩ : ∃ p : Nat, (v : Int) * (S : Int) = (p : Int) := ⟨v * S, by simp⟩
      have HN := hide' (show ((p + x : Nat) : Int) = wn S (fun d => rat ws ((i : Int) + d - R)) 0 (d + 1) by rw [wn, ← HV.out, hp, Nat.zero_add, hx]; simp)
      have hle : p + x ≤ 4096 := by have := BND.out (d + 1) (by omega); rw [← HN.out] at this; omega
      clear hx
      go_wp2
      exact ⟨⟨d + 1, p + x, kk + 1, rfl, by go_num, by omega, hide' (by have := KK.out; omega), HN, trivial⟩, by simp [intOf]; omega⟩
    · have hde : d = 2 * R + 1 := by have := KK.out; omega
      subst hde
      have hvl : v < tn := by have := WIN.out; rw [← HV.out] at this; have := TL.out; omega
      obtain ⟨tg, toff, rfl, hc⟩ := AT.out.at (k := v) hvl
      have E : T.getD v 0 = res := by rw [← RES.out, ← HV.out]; rfl
      rw [E] at hc
      clear E
      go_wp2
      go_ret
      exact ⟨rfl, BB.out⟩

set_option maxRecDepth 100000 in
set_option maxHeartbeats 1600000 in
theorem cellA_any (S R : Nat) (T : List Int) (ta : Option Addr) (tn tc : Nat) (pw pi i : Nat) (ws : List Int) (wa : Option Addr) (wc : Nat) (w : World)
    (hL : LineOk S R T) (hT : ArgP w T ta tn tc) (hC : CloA w pw pi i ws wa wc) (hok : cellsOk S ws) (hi : R ≤ i) (hi2 : i + R < ws.length) (hl : ws.length ≤ 5000) :
    Calls Tryd.prog 125 #[.agg #[.int .i64 2, .int .i64 0, .int .i64 0, .int .i64 (S : Int), .int .i64 (R : Int), .slice ta tn tc, .string ⟨#[]⟩], .func (.func 127) #[] #[.pointer (some ⟨pw, 0, none⟩), .pointer (some ⟨pi, 0, none⟩)]] w fun e w' => e = .returned (.int .i64 (T.getD (wn S (fun t => ws.getD t 0) (i - R) (2 * R + 1)).toNat 0)) ∧ Below w.heap.size w w' := by
  obtain ⟨w1, hw1⟩ : ∃ w1, w.alloc (.cells #[.int .i64 2, .int .i64 0, .int .i64 0, .int .i64 (S : Int), .int .i64 (R : Int), .slice ta tn tc, .string ⟨#[]⟩] 24) = w1 := ⟨_, rfl⟩
  have BB := hide' (show Below w.heap.size w w1 by rw [← hw1]; exact (Below.refl _ _).alloc (Nat.le_refl _) _)
  have RX := hide' (show RB w.heap.size S R (.slice ta tn tc) w1 by rw [← hw1]; exact RB.new w S R _ _)
  have AT := hide' (hT.below BB.out)
  have CC := hide' (show CloA w1 pw pi i ws wa wc from hC.below BB.out)
  have HL := hide' hL
  have HO := hide' hok
  have TL := hide' hT.len
  have r10 := hL.r10
  have s4 := hL.s4
  have s2 := hL.s2
  have htn : tn ≤ 4096 := by have := hT.len; have := hL.max; omega
  have WIN := hide' (win_in (S := (S : Int)) (R := R) (T := T) (f := (fun t => ws.getD t 0)) (i := (i - R)) (by omega) hL.lenI (fun e he => cellsOk_at hok (by omega)))
  have BND := hide' (fun (d : Nat) (hd : d ≤ 2 * R + 1) => show wn S (fun t => ws.getD t 0) (i - R) d ≤ 4096 from by
    have h1 := wn_lt (S := (S : Int)) (f := (fun t => ws.getD t 0)) (i := (i - R)) (m := d) (by omega) (fun e he => cellsOk_at hok (by omega))
    have h2 := pow_le_tab hL (m := d) hd
    omega)
  have NNG := hide' (fun (d : Nat) (hd : d ≤ 2 * R + 1) => wn_nonneg (S := (S : Int)) (f := (fun t => ws.getD t 0)) (i := (i - R)) (m := d) (by omega) (fun e he => (cellsOk_at hok (by omega)).1))
  obtain ⟨res, hres⟩ : ∃ res, T.getD (wn S (fun t => ws.getD t 0) (i - R) (2 * R + 1)).toNat 0 = res := ⟨_, rfl⟩
  have RES := hide' hres
  rw [hres]
  clear hT hL hok hC hres
  obtain ⟨x0, x1, x2, x3, x4, x5, x6⟩ := RX.out
  go_enter Tryd.func125, Tryd.ntmps125
  go_wp2
  clear hw1
  go_loopw [5, 6] (fun nv kv wr => ∃ (d v : Nat) (kk : Int), kv = .int .i64 kk ∧ nv = .int .i64 (v : Int) ∧ d ≤ 2 * R + 1 ∧ Hid (kk = (d : Int) - R) ∧ Hid ((v : Int) = wn S (fun t => ws.getD t 0) (i - R) d) ∧ wr = w1) (fun _ kv _ => ((R : Int) + 1 - intOf kv).toNat)
  case atStart => exact ⟨0, 0, -(R : Int), rfl, rfl, by omega, hide' (by omega), hide' rfl, rfl⟩
  case round =>
    obtain ⟨d, v, kk, rfl, rfl, hd, KK, HV, rfl⟩ := hrel
    have kb1 : -10 ≤ kk := by have := KK.out; omega
    have kb2 : kk ≤ 11 := by have := KK.out; omega
    by_cases dd : kk ≤ (R : Int)
    · have hd' : d < 2 * R + 1 := by have := KK.out; omega
      go_wp2_with fail
      refine (cloA_any pw pi i d R ws wa wc kk _ CC.out KK.out (by omega) (by omega) hl (by omega) (by omega)).mono ?_
      rw [show i + d - R = i - R + d by omega]
      rintro e w2 ⟨rfl, rfl⟩
      obtain ⟨x, hx⟩ : ∃ x : Nat, ws.getD (i - R + d) 0 = (x : Int) := ⟨(ws.getD (i - R + d) 0).toNat, by have := cellsOk_at HO.out (k := i - R + d) (by omega); omega⟩
      rw [hx]
      obtain ⟨p, hp⟩ : ∃ p : Nat, (v : Int) * (S : Int) = (p : Int) := ⟨v * S, by simp⟩
      have HN := hide' (show ((p + x : Nat) : Int) = wn S (fun t => ws.getD t 0) (i - R) (d + 1) by rw [wn, ← HV.out, hp, hx]; simp)
      have hle : p + x ≤ 4096 := by have := BND.out (d + 1) (by omega); rw [← HN.out] at this; omega
      clear hx
      go_wp2
      exact ⟨⟨d + 1, p + x, kk + 1, rfl, by go_num, by omega, hide' (by have := KK.out; omega), HN, trivial⟩, by simp [intOf]; omega⟩
    · have hde : d = 2 * R + 1 := by have := KK.out; omega
      subst hde
      have hvl : v < tn := by have := WIN.out; rw [← HV.out] at this; have := TL.out; omega
      obtain ⟨tg, toff, rfl, hc⟩ := AT.out.at (k := v) hvl
      have E : T.getD v 0 = res := by rw [← RES.out, ← HV.out]; rfl
      rw [E] at hc
      clear E
      go_wp2
      go_ret
      exact ⟨rfl, BB.out⟩
end Go.Proofs.YtdhbdkkchobinaaDoor

