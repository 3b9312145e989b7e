/-
  What the last text of this claim leans on, part 27: Rx3, Lk1, Lk2.
-/
import Derived.Test.YtljdidimoagnhaaDoorJk23
import Derived.Test.YtljdidimoagnhaaDoorJk26
import Derived.Test.YtljdidimoagnhaaDoorJk24
namespace Go.Proofs.YtljdidimoagnhaaDoor
set_option linter.unusedVariables false

theorem num_end (s : ByteArray) (n : Nat) (pre : List UInt8) (hs : s = txt (pre ++ Lib.decDigits n)) : num s pre.length = (n, pre.length + (Lib.decDigits n).length) := by
  obtain ⟨ds, e, h1, h2⟩ := dec_val n
  unfold num
  rw [numF_dec s ds pre [] 0 h1 (by rw [hs, e]; simp), h2]
  have hz : s.size = pre.length + ds.length := by rw [hs, txt_size, e]; simp
  rw [numF_stop (inR_end (by omega) _ _), e]
  simp
theorem tabNum_bit (xs : List Int) (h : ∀ k, k < xs.length → 0 ≤ xs.getD k 0 ∧ xs.getD k 0 < 2) : ∀ k, k ≤ xs.length → ∀ i, i < k → tabNum xs k / 2 ^ i % 2 = (xs.getD i 0).toNat
  | 0, _, i, hi => by omega
  | k + 1, hk, i, hi => by
    have hlt := tabNum_lt xs h k (by omega)
    have hx := h k (by omega)
    have hb : (xs.getD k 0).toNat < 2 := by omega
    unfold tabNum
    by_cases e : i = k
    · subst e
      rw [Nat.add_mul_div_right _ _ (Nat.two_pow_pos _), Nat.div_eq_of_lt hlt, Nat.zero_add, Nat.mod_eq_of_lt hb]
    · have ih := tabNum_bit xs h k (by omega) i (by omega)
      obtain ⟨d, rfl⟩ : ∃ d, k = i + (d + 1) := ⟨k - i - 1, by omega⟩
      rw [show (xs.getD (i + (d + 1)) 0).toNat * 2 ^ (i + (d + 1)) = ((xs.getD (i + (d + 1)) 0).toNat * 2 ^ d * 2) * 2 ^ i by rw [Nat.pow_add, Nat.pow_succ]; ac_rfl]
      rw [Nat.add_mul_div_right _ _ (Nat.two_pow_pos _), Nat.add_mul_mod_self_right, ih]
theorem bits_back (T : List Int) (hl : T.length = 8) (h : ∀ k, k < T.length → 0 ≤ T.getD k 0 ∧ T.getD k 0 < 2) : (List.range 8).map (bitOf (tabNum T 8)) = T := by
  apply List.ext_getElem (by simp [hl])
  intro i h1 h2
  have hb := tabNum_bit T h 8 (by omega) i (by omega)
  have hx := h i h2
  have e : T.getD i 0 = T[i] := by simp [List.getD, h2]
  rw [e] at hb hx
  simp only [List.getElem_map, List.getElem_range]
  unfold bitOf
  rw [hb]
  omega
theorem lineW_back (n : Nat) (hn : n < 256) : parseS (txt ([87] ++ Lib.decDigits n)) = .inl ⟨2, 0, 0, 2, 1, (List.range 8).map (bitOf n), ⟨#[]⟩⟩ := by
  obtain ⟨s, hs⟩ : ∃ s, txt ([87] ++ Lib.decDigits n) = s := ⟨_, rfl⟩
  rw [hs]
  have hp := dec_pos n
  have hz : s.size = 1 + (Lib.decDigits n).length := by rw [← hs, txt_size]; simp; omega
  obtain ⟨a1, a2⟩ := bt_mid (s := s) (pre := []) (c := 87) (post := Lib.decDigits n) (by rw [← hs]; rfl)
  have a3 : bt s 0 = 87 := a1
  have r1 : num s 1 = (n, 1 + (Lib.decDigits n).length) := num_end s n [87] hs.symm
  have ok : numOk s 1 0 255 = true := by
    unfold numOk
    rw [r1]
    dsimp only
    rw [decide_eq_false (by omega), decide_eq_false (show ¬ n < 0 by omega), decide_eq_false (show ¬ 255 < n by omega)]
    by_cases h1 : n < 10
    · rw [decide_eq_false (show ¬ 1 < 1 + (Lib.decDigits n).length - 1 by rw [dec_small n h1]; simp)]
      rfl
    · obtain ⟨d, rest, e, d1, d2⟩ := dec_first n (by omega)
      obtain ⟨b1, b2⟩ := bt_mid (s := s) (pre := [87]) (c := UInt8.ofNat (48 + d)) (post := rest) (by rw [← hs, e])
      rw [dig_nat d d2] at b1
      have b3 : bt s 1 = 48 + d := b1
      rw [decide_eq_false (show ¬ bt s 1 = 48 by omega)]
      simp
  have e : kindS s = .inl (⟨2, 0, 0, 2, 1, (List.range 8).map (bitOf n), ⟨#[]⟩⟩, s.size) := by
    unfold kindS
    rw [if_neg (by omega), if_neg (by omega), if_pos a3]
    unfold numberedS
    rw [ok, r1, hz]
    rfl
  unfold parseS
  rw [e]
  dsimp only
  rw [if_pos rfl]
theorem tabF_back (s : ByteArray) (hi : Int) : ∀ f i, (∀ j, j < f → inR s (i + j) 48 hi = true) → tabF s hi f i = f := by
  intro f
  induction f with
  | zero => intro i _; rfl
  | succ f ih =>
    intro i h
    rw [tabF, if_pos (show inR s i 48 hi = true from h 0 (by omega)), ih (i + 1) fun j hj => ?_]
    have := h (j + 1) (by omega)
    rw [show i + 1 + j = i + (j + 1) by omega]
    exact this
theorem lineL_back (S R : Nat) (T : List Int) (hL : LineOk S R T) (hr : R ≤ 2) : parseS (txt ([76, 32] ++ (Lib.decDigits S ++ ([32] ++ (Lib.decDigits R ++ ([32] ++ (List.range T.length).map (stB T))))))) = .inl ⟨2, 0, 0, S, R, T, ⟨#[]⟩⟩ := by
  have s2 := hL.s2
  have s4 := hL.s4
  rw [dec_small S (by omega), dec_small R (by omega)]
  obtain ⟨s, hs⟩ : ∃ s, txt ([76, 32] ++ ([UInt8.ofNat (48 + S)] ++ ([32] ++ ([UInt8.ofNat (48 + R)] ++ ([32] ++ (List.range T.length).map (stB T)))))) = s := ⟨_, rfl⟩
  rw [hs]
  have hz : s.size = 6 + T.length := by rw [← hs, txt_size]; simp; omega
  have a0 : bt s 0 = 76 := (bt_mid (s := s) (pre := []) (c := 76) (by rw [← hs]; rfl)).1
  have q1 : inR s 1 32 32 = true := inR_at (s := s) (pre := [76]) (c := 32) (by rw [← hs]; rfl) rfl
  have q3 : inR s 3 32 32 = true := inR_at (s := s) (pre := [76, 32, UInt8.ofNat (48 + S)]) (c := 32) (by rw [← hs]; rfl) rfl
  have q5 : inR s 5 32 32 = true := inR_at (s := s) (pre := [76, 32, UInt8.ofNat (48 + S), 32, UInt8.ofNat (48 + R)]) (c := 32) (by rw [← hs]; rfl) rfl
  have a2 : bt s 2 = 48 + S := ((bt_mid (s := s) (pre := [76, 32]) (c := UInt8.ofNat (48 + S)) (by rw [← hs]; rfl)).1).trans (dig_nat S (by omega))
  have n2 : num s 2 = (S, 3) := by
    have := num_back s S [76, 32] ([UInt8.ofNat (48 + R)] ++ ([32] ++ (List.range T.length).map (stB T))) 32 (by rw [← hs, dec_small S (by omega)]; rfl) (Or.inl (by decide))
    rw [dec_small S (by omega)] at this
    exact this
  have n4 : num s 4 = (R, 5) := by
    have := num_back s R [76, 32, UInt8.ofNat (48 + S), 32] ((List.range T.length).map (stB T)) 32 (by rw [← hs, dec_small R (by omega)]; rfl) (Or.inl (by decide))
    rw [dec_small R (by omega)] at this
    exact this
  have k2 : numOk s 2 2 4 = true := by
    unfold numOk
    rw [n2]
    simp
    omega
  have k4 : numOk s 4 0 2 = true := by
    unfold numOk
    rw [n4]
    simp
    omega
  have hent : entries S R = T.length := hL.len.symm
  have hb : ∀ j, j < T.length → bt s (6 + j) = 48 + (T.getD j 0).toNat ∧ 6 + j < s.size := by
    intro j hj
    have hx := cellsOk_at hL.ok hj
    have e1 : (List.range T.length).map (stB T) = (List.range j).map (stB T) ++ stB T j :: ((List.range T.length).drop (j + 1)).map (stB T) := by
      have : List.range T.length = List.range j ++ j :: (List.range T.length).drop (j + 1) := by
        apply List.ext_getElem (by simp; omega)
        intro i h1 h2
        simp at h1
        rcases Nat.lt_trichotomy i j with q | q | q
        · simp [q]
        · subst q; simp
        · obtain ⟨d, rfl⟩ : ∃ d, i = j + (d + 1) := ⟨i - j - 1, by omega⟩
          simp
          omega
      conv => lhs; rw [this]
      simp
    obtain ⟨b1, b2⟩ := bt_at (s := s) (pre := [76, 32, UInt8.ofNat (48 + S), 32, UInt8.ofNat (48 + R), 32] ++ (List.range j).map (stB T)) (c := stB T j) (post := ((List.range T.length).drop (j + 1)).map (stB T)) (i := 6 + j) (by rw [← hs, e1]; simp) (by simp; omega)
    rw [b1]
    exact ⟨dig_nat _ (by omega), b2⟩
  have tf : tabF s (48 + (S : Int) - 1) (entries S R) 6 = entries S R := tabF_back s _ _ 6 fun j hj => by
    obtain ⟨b1, b2⟩ := hb j (by omega)
    have hx := cellsOk_at hL.ok (show j < T.length by omega)
    exact inR_true.2 ⟨b2, by omega, by omega⟩
  have tt : (List.range (entries S R)).map (fun y => (bt s (6 + y) : Int) - 48) = T := by
    apply List.ext_getElem (by simp [hent])
    intro j h1 h2
    have hx := cellsOk_at hL.ok h2
    have e : T.getD j 0 = T[j] := by simp [List.getD, h2]
    simp only [List.getElem_map, List.getElem_range]
    rw [(hb j h2).1, ← e]
    omega
  have e : kindS s = .inl (⟨2, 0, 0, S, R, T, ⟨#[]⟩⟩, s.size) := by
    unfold kindS
    rw [if_neg (by omega), if_neg (by omega), if_neg (by omega), if_pos a0]
    unfold tabledS
    rw [n2]
    dsimp only
    rw [n4]
    dsimp only
    rw [q1, k2, q3, k4, q5]
    simp only [Bool.not_true, Bool.false_eq_true, if_false]
    unfold tabEnd
    rw [show 5 + 1 = 6 from rfl, tf, if_neg (by omega), tt, hent, hz]
  unfold parseS
  rw [e]
  dsimp only
  rw [if_pos rfl]
theorem line_back (S R : Nat) (T : List Int) (hL : LineOk S R T) (hr : R ≤ 2) : parseS (lineB ⟨2, 0, 0, S, R, T, ⟨#[]⟩⟩) = .inl ⟨2, 0, 0, S, R, T, ⟨#[]⟩⟩ := by
  unfold lineB
  dsimp only
  by_cases h : (((S : Int) == 2) && ((R : Int) == 1)) = true
  · rw [if_pos h]
    simp at h
    obtain ⟨h1, h2⟩ := h
    have e1 : S = 2 := by omega
    have e2 : R = 1 := by omega
    subst e1 e2
    have hl : T.length = 8 := hL.len
    have hT : ∀ k, k < T.length → 0 ≤ T.getD k 0 ∧ T.getD k 0 < 2 := fun k hk => cellsOk_at hL.ok hk
    rw [Lib.itoa_nonneg]
    have := lineW_back (tabNum T 8) (tabNum_lt T hT 8 (by omega))
    rw [bits_back T hl hT] at this
    exact this
  · rw [if_neg h]
    have := lineL_back S R T hL hr
    refine Eq.trans (congrArg parseS ?_) this
    rw [Int.toNat_natCast, Int.toNat_natCast]
    simp only [txt, ByteArray.mk_append_mk]
    congr 1
    simp
end Go.Proofs.YtljdidimoagnhaaDoor

namespace Go.Proofs.YtljdidimoagnhaaDoor
open Go.RowKit
set_option linter.unusedVariables false

/-- Go's remainder of what is below nothing. -/
theorem tmod_neg (a : Int) (n : Nat) (hn : 0 < n) (ha : a < 0) : (a.tmod (n : Int) = 0 ∧ a % (n : Int) = 0) ∨ (a.tmod (n : Int) < 0 ∧ -(n : Int) < a.tmod (n : Int) ∧ a % (n : Int) = a.tmod (n : Int) + n) := by
  obtain ⟨b, rfl⟩ : ∃ b : Int, a = -b := ⟨-a, by omega⟩
  rw [Int.neg_tmod, Int.tmod_eq_emod_of_nonneg (by omega)]
  have h1 := Int.emod_nonneg b (show (n : Int) ≠ 0 by omega)
  have h2 := Int.emod_lt_of_pos b (show (0 : Int) < n by omega)
  have h3 := Int.emod_add_mul_ediv b (n : Int)
  by_cases h : b % (n : Int) = 0
  · left
    refine ⟨by omega, ?_⟩
    rw [show -b = 0 + (n : Int) * (-(b / (n : Int))) by rw [Int.mul_neg]; omega, Int.add_mul_emod_self_left]
    rfl
  · right
    refine ⟨by omega, by omega, ?_⟩
    rw [show -b = ((n : Int) - b % (n : Int)) + (n : Int) * (-(b / (n : Int)) - 1) by rw [Int.mul_sub, Int.mul_neg]; omega, Int.add_mul_emod_self_left, Int.emod_eq_of_lt (by omega) (by omega)]
    omega

/-- What Step's function sees: its own place, the length, the word. -/
structure CloS (w : World) (pi pn pw : Nat) (i : Nat) (ws : List Int) (wa : Option Addr) (wc : Nat) : Prop where
  ci : w.cell? ⟨pi, 0, none⟩ = some (.int .i64 (i : Int))
  cn : w.cell? ⟨pn, 0, none⟩ = some (.int .i64 (ws.length : Int))
  cw : w.cell? ⟨pw, 0, none⟩ = some (.slice wa ws.length wc)
  arg : ArgP w ws wa ws.length wc
theorem cell_lt {w : World} {p o : Nat} {v : Value} (h : w.cell? ⟨p, o, none⟩ = some v) : p < w.heap.size := by
  rcases Nat.lt_or_ge p w.heap.size with k | k
  · exact k
  · simp [World.cell?, Array.getElem?_eq_none k] at h
theorem cell_next {w w' : World} {p o : Nat} {v : Value} (h : w.cell? ⟨p, o, none⟩ = some v) (hb : Below w.heap.size w w') : w'.cell? ⟨p, o, none⟩ = some v :=
  (World.cell?_of_block (w := w) (a := ⟨p, o, none⟩) (hb.block p (cell_lt h))).trans h
theorem CloS.below {w w' : World} {pi pn pw i : Nat} {ws : List Int} {wa : Option Addr} {wc : Nat} (h : CloS w pi pn pw i ws wa wc) (hb : Below w.heap.size w w') : CloS w' pi pn pw i ws wa wc :=
  ⟨cell_next h.ci hb, cell_next h.cn hb, cell_next h.cw hb, h.arg.below hb⟩

set_option maxHeartbeats 1600000 in
theorem cloS_any (pi pn pw i : Nat) (ws : List Int) (wa : Option Addr) (wc : Nat) (k : Int) (w : World) (hC : CloS w pi pn pw i ws wa wc) (hi : i < ws.length) (hl : ws.length ≤ 1000) (k1 : -10 ≤ k) (k2 : k ≤ 10) :
    Calls Tryd.prog 117 #[.int .i64 k, .pointer (some ⟨pi, 0, none⟩), .pointer (some ⟨pn, 0, none⟩), .pointer (some ⟨pw, 0, none⟩)] w fun e w' => e = .returned (.int .i64 (rat ws ((i : Int) + k))) ∧ w' = w := by
  obtain ⟨c1, c2, c3, ha⟩ := hC
  have HA := hide' ha
  have n0 : ((ws.length : Int) == 0) = false := by rw [beq_eq_false_iff_ne]; omega
  obtain ⟨r, hr⟩ : ∃ r : Nat, ((i : Int) + k) % (ws.length : Int) = (r : Int) := ⟨(((i : Int) + k) % (ws.length : Int)).toNat, by have := Int.emod_nonneg ((i : Int) + k) (show (ws.length : Int) ≠ 0 by omega); omega⟩
  have hrl : r < ws.length := by have := Int.emod_lt_of_pos ((i : Int) + k) (show (0 : Int) < (ws.length : Int) by omega); omega
  obtain ⟨g, off, rfl, hc⟩ := ha.at (k := r) hrl
  have RA := hide' (show rat ws ((i : Int) + k) = ws.getD r 0 by unfold rat; rw [hr]; rfl)
  rw [RA.out]
  obtain ⟨x, hx⟩ : ∃ x, ws.getD r 0 = x := ⟨_, rfl⟩
  rw [hx] at hc ⊢
  clear ha hx RA
  by_cases h0 : 0 ≤ (i : Int) + k
  · have q1 : ((i : Int) + k).tmod (ws.length : Int) = (r : Int) := by rw [Int.tmod_eq_emod_of_nonneg h0]; exact hr
    have q2 : ¬ (r : Int) < 0 := by omega
    go_enter Tryd.func117, Tryd.ntmps117
    go_wp2
    go_ret
    exact ⟨rfl, rfl⟩
  · rcases tmod_neg ((i : Int) + k) ws.length (by omega) (by omega) with ⟨h1, h2⟩ | ⟨h1, h2, h3⟩
    · have r0 : r = 0 := by omega
      subst r0
      rw [Nat.add_zero] at hc
      clear hr h2
      go_enter Tryd.func117, Tryd.ntmps117
      go_wp2
      go_ret
      exact ⟨rfl, rfl⟩
    · obtain ⟨t, ht⟩ : ∃ t, ((i : Int) + k).tmod (ws.length : Int) = t := ⟨_, rfl⟩
      rw [ht] at h1 h2 h3
      have q3 : t + (ws.length : Int) = (r : Int) := by omega
      clear hr h3
      go_enter Tryd.func117, Tryd.ntmps117
      go_wp2
      go_ret
      exact ⟨rfl, rfl⟩

/-- What Apply's function sees. -/
structure CloA (w : World) (pw pi : Nat) (i : Nat) (ws : List Int) (wa : Option Addr) (wc : Nat) : Prop where
  cw : w.cell? ⟨pw, 0, none⟩ = some (.slice wa ws.length wc)
  ci : w.cell? ⟨pi, 0, none⟩ = some (.int .i64 (i : Int))
  arg : ArgP w ws wa ws.length wc
theorem CloA.below {w w' : World} {pw pi i : Nat} {ws : List Int} {wa : Option Addr} {wc : Nat} (h : CloA w pw pi i ws wa wc) (hb : Below w.heap.size w w') : CloA w' pw pi i ws wa wc :=
  ⟨cell_next h.cw hb, cell_next h.ci hb, h.arg.below hb⟩

set_option maxHeartbeats 1600000 in
theorem cloA_any (pw pi i d R : Nat) (ws : List Int) (wa : Option Addr) (wc : Nat) (k : Int) (w : World) (hC : CloA w pw pi i ws wa wc) (hk : k = (d : Int) - R) (hi : R ≤ i + d) (hd : i + d - R < ws.length) (hl : ws.length ≤ 5000) (hd1 : d ≤ 30) (hR : R ≤ 30) :
    Calls Tryd.prog 118 #[.int .i64 k, .pointer (some ⟨pw, 0, none⟩), .pointer (some ⟨pi, 0, none⟩)] w fun e w' => e = .returned (.int .i64 (ws.getD (i + d - R) 0)) ∧ w' = w := by
  obtain ⟨c1, c2, ha⟩ := hC
  obtain ⟨g, off, rfl, hc⟩ := ha.at (k := i + d - R) hd
  obtain ⟨x, hx⟩ : ∃ x, ws.getD (i + d - R) 0 = x := ⟨_, rfl⟩
  rw [hx] at hc ⊢
  obtain ⟨t, ht⟩ : ∃ t, i + d - R = t := ⟨_, rfl⟩
  rw [ht] at hc hd
  have q1 : (i : Int) + k = (t : Int) := by omega
  have k3 : -100 ≤ k := by omega
  have k4 : k ≤ 100 := by omega
  have HA := hide' ha
  clear ha hx ht hk
  go_enter Tryd.func118, Tryd.ntmps118
  go_wp2
  go_ret
  exact ⟨rfl, rfl⟩
end Go.Proofs.YtljdidimoagnhaaDoor

namespace Go.Proofs.YtljdidimoagnhaaDoor
open Go.RowKit
set_option linter.unusedVariables false

set_option maxRecDepth 100000 in
set_option maxHeartbeats 1600000 in
theorem cellS_any (S R : Nat) (T : List Int) (ta : Option Addr) (tn tc : Nat) (pi pn pw i : Nat) (ws : List Int) (wa : Option Addr) (wc : Nat) (w : World)
    (hL : LineOk S R T) (hT : ArgP w T ta tn tc) (hC : CloS w pi pn pw i ws wa wc) (hok : cellsOk S ws) (hi : i < ws.length) (hl : ws.length ≤ 1000) :
    Calls Tryd.prog 116 #[.agg #[.int .i64 2, .int .i64 0, .int .i64 0, .int .i64 (S : Int), .int .i64 (R : Int), .slice ta tn tc, .string ⟨#[]⟩], .func (.func 117) #[] #[.pointer (some ⟨pi, 0, none⟩), .pointer (some ⟨pn, 0, none⟩), .pointer (some ⟨pw, 0, none⟩)]] w fun e w' => e = .returned (.int .i64 (T.getD (wn S (fun d => rat ws ((i : Int) + d - R)) 0 (2 * R + 1)).toNat 0)) ∧ Below w.heap.size w w' := by
  obtain ⟨w1, hw1⟩ : ∃ w1, w.alloc (.cells #[.int .i64 2, .int .i64 0, .int .i64 0, .int .i64 (S : Int), .int .i64 (R : Int), .slice ta tn tc, .string ⟨#[]⟩] 24) = w1 := ⟨_, rfl⟩
  have BB := hide' (show Below w.heap.size w w1 by rw [← hw1]; exact (Below.refl _ _).alloc (Nat.le_refl _) _)
  have RX := hide' (show RB w.heap.size S R (.slice ta tn tc) w1 by rw [← hw1]; exact RB.new w S R _ _)
  have AT := hide' (hT.below BB.out)
  have CC := hide' (show CloS w1 pi pn pw i ws wa wc from hC.below BB.out)
  have HL := hide' hL
  have HO := hide' hok
  have TL := hide' hT.len
  have r10 := hL.r10
  have s4 := hL.s4
  have s2 := hL.s2
  have htn : tn ≤ 4096 := by have := hT.len; have := hL.max; omega
  have WIN := hide' (win_in (S := (S : Int)) (R := R) (T := T) (f := (fun d => rat ws ((i : Int) + d - R))) (i := 0) (by omega) hL.lenI (fun e he => rat_ok hok (by omega) _))
  have BND := hide' (fun (d : Nat) (hd : d ≤ 2 * R + 1) => show wn S (fun d => rat ws ((i : Int) + d - R)) 0 d ≤ 4096 from by
    have h1 := wn_lt (S := (S : Int)) (f := (fun d => rat ws ((i : Int) + d - R))) (i := 0) (m := d) (by omega) (fun e he => rat_ok hok (by omega) _)
    have h2 := pow_le_tab hL (m := d) hd
    omega)
  have NNG := hide' (fun (d : Nat) (hd : d ≤ 2 * R + 1) => wn_nonneg (S := (S : Int)) (f := (fun d => rat ws ((i : Int) + d - R))) (i := 0) (m := d) (by omega) (fun e he => (rat_ok hok (by omega) _).1))
  obtain ⟨res, hres⟩ : ∃ res, T.getD (wn S (fun d => rat ws ((i : Int) + d - R)) 0 (2 * R + 1)).toNat 0 = res := ⟨_, rfl⟩
  have RES := hide' hres
  rw [hres]
  clear hT hL hok hC hres
  obtain ⟨x0, x1, x2, x3, x4, x5, x6⟩ := RX.out
  go_enter Tryd.func116, Tryd.ntmps116
  go_wp2
  clear hw1
  go_loopw [5, 6] (fun nv kv wr => ∃ (d v : Nat) (kk : Int), kv = .int .i64 kk ∧ nv = .int .i64 (v : Int) ∧ d ≤ 2 * R + 1 ∧ Hid (kk = (d : Int) - R) ∧ Hid ((v : Int) = wn S (fun d => rat ws ((i : Int) + d - R)) 0 d) ∧ wr = w1) (fun _ kv _ => ((R : Int) + 1 - intOf kv).toNat)
  case atStart => exact ⟨0, 0, -(R : Int), rfl, rfl, by omega, hide' (by omega), hide' rfl, rfl⟩
  case round =>
    obtain ⟨d, v, kk, rfl, rfl, hd, KK, HV, rfl⟩ := hrel
    have kb1 : -10 ≤ kk := by have := KK.out; omega
    have kb2 : kk ≤ 11 := by have := KK.out; omega
    by_cases dd : kk ≤ (R : Int)
    · have hd' : d < 2 * R + 1 := by have := KK.out; omega
      go_wp2_with fail
      refine (cloS_any pi pn pw i ws wa wc kk _ CC.out hi hl (by omega) (by omega)).mono ?_
      rw [show (i : Int) + kk = (i : Int) + d - R by have := KK.out; omega]
      rintro e w2 ⟨rfl, rfl⟩
      obtain ⟨x, hx⟩ : ∃ x : Nat, rat ws ((i : Int) + d - R) = (x : Int) := ⟨(rat ws ((i : Int) + d - R)).toNat, by have := rat_ok HO.out (by omega) ((i : Int) + d - R); omega⟩
      rw [hx]
      obtain ⟨p, hp⟩ : ∃ p : Nat, (v : Int) * (S : Int) = (p : Int) := ⟨v * S, by simp⟩
      have HN := hide' (show ((p + x : Nat) : Int) = wn S (fun d => rat ws ((i : Int) + d - R)) 0 (d + 1) by rw [wn, ← HV.out, hp, Nat.zero_add, hx]; simp)
      have hle : p + x ≤ 4096 := by have := BND.out (d + 1) (by omega); rw [← HN.out] at this; omega
      clear hx
      go_wp2
      exact ⟨⟨d + 1, p + x, kk + 1, rfl, by go_num, by omega, hide' (by have := KK.out; omega), HN, trivial⟩, by simp [intOf]; omega⟩
    · have hde : d = 2 * R + 1 := by have := KK.out; omega
      subst hde
      have hvl : v < tn := by have := WIN.out; rw [← HV.out] at this; have := TL.out; omega
      obtain ⟨tg, toff, rfl, hc⟩ := AT.out.at (k := v) hvl
      have E : T.getD v 0 = res := by rw [← RES.out, ← HV.out]; rfl
      rw [E] at hc
      clear E
      go_wp2
      go_ret
      exact ⟨rfl, BB.out⟩

set_option maxRecDepth 100000 in
set_option maxHeartbeats 1600000 in
theorem cellA_any (S R : Nat) (T : List Int) (ta : Option Addr) (tn tc : Nat) (pw pi i : Nat) (ws : List Int) (wa : Option Addr) (wc : Nat) (w : World)
    (hL : LineOk S R T) (hT : ArgP w T ta tn tc) (hC : CloA w pw pi i ws wa wc) (hok : cellsOk S ws) (hi : R ≤ i) (hi2 : i + R < ws.length) (hl : ws.length ≤ 5000) :
    Calls Tryd.prog 116 #[.agg #[.int .i64 2, .int .i64 0, .int .i64 0, .int .i64 (S : Int), .int .i64 (R : Int), .slice ta tn tc, .string ⟨#[]⟩], .func (.func 118) #[] #[.pointer (some ⟨pw, 0, none⟩), .pointer (some ⟨pi, 0, none⟩)]] w fun e w' => e = .returned (.int .i64 (T.getD (wn S (fun t => ws.getD t 0) (i - R) (2 * R + 1)).toNat 0)) ∧ Below w.heap.size w w' := by
  obtain ⟨w1, hw1⟩ : ∃ w1, w.alloc (.cells #[.int .i64 2, .int .i64 0, .int .i64 0, .int .i64 (S : Int), .int .i64 (R : Int), .slice ta tn tc, .string ⟨#[]⟩] 24) = w1 := ⟨_, rfl⟩
  have BB := hide' (show Below w.heap.size w w1 by rw [← hw1]; exact (Below.refl _ _).alloc (Nat.le_refl _) _)
  have RX := hide' (show RB w.heap.size S R (.slice ta tn tc) w1 by rw [← hw1]; exact RB.new w S R _ _)
  have AT := hide' (hT.below BB.out)
  have CC := hide' (show CloA w1 pw pi i ws wa wc from hC.below BB.out)
  have HL := hide' hL
  have HO := hide' hok
  have TL := hide' hT.len
  have r10 := hL.r10
  have s4 := hL.s4
  have s2 := hL.s2
  have htn : tn ≤ 4096 := by have := hT.len; have := hL.max; omega
  have WIN := hide' (win_in (S := (S : Int)) (R := R) (T := T) (f := (fun t => ws.getD t 0)) (i := (i - R)) (by omega) hL.lenI (fun e he => cellsOk_at hok (by omega)))
  have BND := hide' (fun (d : Nat) (hd : d ≤ 2 * R + 1) => show wn S (fun t => ws.getD t 0) (i - R) d ≤ 4096 from by
    have h1 := wn_lt (S := (S : Int)) (f := (fun t => ws.getD t 0)) (i := (i - R)) (m := d) (by omega) (fun e he => cellsOk_at hok (by omega))
    have h2 := pow_le_tab hL (m := d) hd
    omega)
  have NNG := hide' (fun (d : Nat) (hd : d ≤ 2 * R + 1) => wn_nonneg (S := (S : Int)) (f := (fun t => ws.getD t 0)) (i := (i - R)) (m := d) (by omega) (fun e he => (cellsOk_at hok (by omega)).1))
  obtain ⟨res, hres⟩ : ∃ res, T.getD (wn S (fun t => ws.getD t 0) (i - R) (2 * R + 1)).toNat 0 = res := ⟨_, rfl⟩
  have RES := hide' hres
  rw [hres]
  clear hT hL hok hC hres
  obtain ⟨x0, x1, x2, x3, x4, x5, x6⟩ := RX.out
  go_enter Tryd.func116, Tryd.ntmps116
  go_wp2
  clear hw1
  go_loopw [5, 6] (fun nv kv wr => ∃ (d v : Nat) (kk : Int), kv = .int .i64 kk ∧ nv = .int .i64 (v : Int) ∧ d ≤ 2 * R + 1 ∧ Hid (kk = (d : Int) - R) ∧ Hid ((v : Int) = wn S (fun t => ws.getD t 0) (i - R) d) ∧ wr = w1) (fun _ kv _ => ((R : Int) + 1 - intOf kv).toNat)
  case atStart => exact ⟨0, 0, -(R : Int), rfl, rfl, by omega, hide' (by omega), hide' rfl, rfl⟩
  case round =>
    obtain ⟨d, v, kk, rfl, rfl, hd, KK, HV, rfl⟩ := hrel
    have kb1 : -10 ≤ kk := by have := KK.out; omega
    have kb2 : kk ≤ 11 := by have := KK.out; omega
    by_cases dd : kk ≤ (R : Int)
    · have hd' : d < 2 * R + 1 := by have := KK.out; omega
      go_wp2_with fail
      refine (cloA_any pw pi i d R ws wa wc kk _ CC.out KK.out (by omega) (by omega) hl (by omega) (by omega)).mono ?_
      rw [show i + d - R = i - R + d by omega]
      rintro e w2 ⟨rfl, rfl⟩
      obtain ⟨x, hx⟩ : ∃ x : Nat, ws.getD (i - R + d) 0 = (x : Int) := ⟨(ws.getD (i - R + d) 0).toNat, by have := cellsOk_at HO.out (k := i - R + d) (by omega); omega⟩
      rw [hx]
      obtain ⟨p, hp⟩ : ∃ p : Nat, (v : Int) * (S : Int) = (p : Int) := ⟨v * S, by simp⟩
      have HN := hide' (show ((p + x : Nat) : Int) = wn S (fun t => ws.getD t 0) (i - R) (d + 1) by rw [wn, ← HV.out, hp, hx]; simp)
      have hle : p + x ≤ 4096 := by have := BND.out (d + 1) (by omega); rw [← HN.out] at this; omega
      clear hx
      go_wp2
      exact ⟨⟨d + 1, p + x, kk + 1, rfl, by go_num, by omega, hide' (by have := KK.out; omega), HN, trivial⟩, by simp [intOf]; omega⟩
    · have hde : d = 2 * R + 1 := by have := KK.out; omega
      subst hde
      have hvl : v < tn := by have := WIN.out; rw [← HV.out] at this; have := TL.out; omega
      obtain ⟨tg, toff, rfl, hc⟩ := AT.out.at (k := v) hvl
      have E : T.getD v 0 = res := by rw [← RES.out, ← HV.out]; rfl
      rw [E] at hc
      clear E
      go_wp2
      go_ret
      exact ⟨rfl, BB.out⟩
end Go.Proofs.YtljdidimoagnhaaDoor

