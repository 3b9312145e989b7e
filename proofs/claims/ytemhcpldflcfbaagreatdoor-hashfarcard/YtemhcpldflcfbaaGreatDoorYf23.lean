/-
  What the last text of this claim leans on, part 23: Hj15, Hj5, Hj6.
-/
import Derived.Test.YtemhcpldflcfbaaGreatDoorYf18
import Derived.Test.YtemhcpldflcfbaaGreatDoorYf17
import Derived.BigQuiet
import Derived.Deep.DeepCutAuto
namespace Go.Proofs.YtemhcpldflcfbaaGreatDoor
set_option linter.unusedVariables false
def ovW (L R a b : Int) : Int := max 0 (min b R - max a L)
theorem ov_add {L R a b c : Int} (h1 : a ≤ b) (h2 : b ≤ c) : ovW L R a b + ovW L R b c ≤ ovW L R a c := by unfold ovW; omega
theorem ov_le {L R a b : Int} (h : L ≤ R) : ovW L R a b ≤ R - L := by unfold ovW; omega
theorem cnW_ov (l r : Int) (j : Nat) : ∀ (n : Nat) (X : Int), j ≤ n → ((cnW l r n j X : Nat) : Int) * sideI j ≤ ovW (l - 2 * sideI j) (r + 2 * sideI j) (X + sideI n) (X + 2 * sideI n)
 | 0, X, h => by
  obtain rfl : j = 0 := by omega
  have p := sideI_pos 0
  show ((if 0 = 0 then biD l r 0 X else 0 : Nat) : Int) * sideI 0 ≤ _
  rw [if_pos rfl]
  unfold biD ovW
  split
  ·rw [show ((1 : Nat) : Int) * sideI 0 = sideI 0 by simp]; omega
  ·rw [show ((0 : Nat) : Int) * sideI 0 = 0 by simp]; omega
 | n + 1, X, h => by
  by_cases e : j = n + 1
  ·subst e
   have p := sideI_pos (n + 1)
   show ((if n + 1 = n + 1 then biD l r (n + 1) X else _ : Nat) : Int) * sideI (n + 1) ≤ _
   rw [if_pos rfl]
   unfold biD ovW
   split
   ·rw [show ((1 : Nat) : Int) * sideI (n + 1) = sideI (n + 1) by simp]; omega
   ·rw [show ((0 : Nat) : Int) * sideI (n + 1) = 0 by simp]; omega
  ·have p := sideI_pos n
   have a := cnW_ov l r j n (X + sideI n) (by omega)
   have b := cnW_ov l r j n (X + 2 * sideI n) (by omega)
   show ((if j = n + 1 then biD l r (n + 1) X else cnW l r n j (X + sideI n) + cnW l r n j (X + 2 * sideI n) : Nat) : Int) * sideI j ≤ _
   rw [if_neg e, Int.natCast_add, Int.add_mul, sideI_next]
   have c := ov_add (L := l - 2 * sideI j) (R := r + 2 * sideI j) (a := X + 2 * sideI n) (b := X + 3 * sideI n) (c := X + 4 * sideI n) (by omega) (by omega)
   rw [show X + sideI n + sideI n = X + 2 * sideI n by omega, show X + sideI n + 2 * sideI n = X + 3 * sideI n by omega] at a
   rw [show X + 2 * sideI n + sideI n = X + 3 * sideI n by omega, show X + 2 * sideI n + 2 * sideI n = X + 4 * sideI n by omega] at b
   rw [show X + 2 * (2 * sideI n) = X + 4 * sideI n by omega]
   omega
theorem cnW_le {l r : Int} (h : l ≤ r) {j n : Nat} (hj : j ≤ n) (X : Int) : cnW l r n j X ≤ ((r - l) / sideI j).toNat + 4 := by
 have p := sideI_pos j
 have a := cnW_ov l r j n X hj
 have b := ov_le (L := l - 2 * sideI j) (R := r + 2 * sideI j) (a := X + sideI n) (b := X + 2 * sideI n) (by omega)
 have q : ((cnW l r n j X : Nat) : Int) ≤ (r - l + 4 * sideI j) / sideI j := (Int.le_ediv_iff_mul_le (by omega)).2 (by omega)
 rw [Int.add_mul_ediv_right _ _ (by omega)] at q
 have z : 0 ≤ (r - l) / sideI j := Int.ediv_nonneg (by omega) (by omega)
 omega
theorem cnW_some {l r : Int} (h : l ≤ r) {W : Nat} (hW : r - l ≤ W) {j n : Nat} (hj : j ≤ n) (X : Int) : cnW l r n j X ≤ W / 8 / 2 ^ j + 4 := by
 refine Nat.le_trans (cnW_le h hj X) ?_
 have e : (r - l) / sideI j ≤ ((W / 8 / 2 ^ j : Nat) : Int) := by
  unfold sideI
  rw [Nat.div_div_eq_div_mul]
  have : ((8 * 2 ^ j : Nat) : Int) = 8 * (2 : Int) ^ j := by push_cast; rfl
  rw [Int.natCast_ediv, this]
  exact Int.ediv_le_ediv (by have := sideI_pos j; unfold sideI at this; omega) hW
 generalize W / 8 / 2 ^ j = q at e ⊢
 generalize (r - l) / sideI j = z at e ⊢
 omega
theorem sumW_le {l r u d : Int} (h1 : l ≤ r) (h2 : u ≤ d) {W H : Nat} (hW : r - l ≤ W) (hH : d - u ≤ H) {n : Nat} (X Y : Int) : ∀ m, m ≤ n + 1 → sumW l r u d n X Y m ≤ ((List.range m).map fun j => (W / 8 / 2 ^ j + 4) * (H / 8 / 2 ^ j + 4)).sum
 | 0, _ => by simp [sumW]
 | m + 1, h => by
  have a := sumW_le h1 h2 hW hH (n := n) X Y m (by omega)
  have b := Nat.mul_le_mul (cnW_some h1 hW (j := m) (n := n) (by omega) X) (cnW_some h2 hH (j := m) (n := n) (by omega) Y)
  rw [List.range_succ, List.map_append, List.sum_append]
  simp only [sumW, List.map_cons, List.map_nil, List.sum_cons, List.sum_nil]
  omega
open Go.RowKit
set_option linter.unusedSimpArgs false
structure TtA (w : World) (tb : Nat) (T : Nat → Nat) : Prop where
 cell : ∀ c, c < 65536 → w.cell? ⟨tb, c, none⟩ = some (.int .u16 ((T c : Nat) : Int))
 low : ∀ c, T c < 1024
theorem TtA.drewN {w : World} {tb : Nat} {T : Nat → Nat} (h : TtA w tb T) (q : Nat) : TtA (w.drewN q) tb T := ⟨fun c hc => h.cell c hc, h.low⟩
def coE (f K n : Nat) : Nat := 8 * (f + 2 * (n / K)) + (f + 2 * (n % K))
def stP (T : Nat → Nat) (c f K n : Nat) : Nat := stE T c ((List.range n).map (coE f K))
theorem stP_next (T : Nat → Nat) (c f K n : Nat) : stP T c f K (n + 1) = stP T c f K n ||| (T (frE (c >>> coE f K n)) <<< (coE f K n + 9)) := by
 unfold stP
 rw [List.range_succ, List.map_append, List.map_singleton, stE_app]
theorem st04 (T : Nat → Nat) (c : Nat) : stP T c 0 3 9 = stE T c [0, 2, 4, 16, 18, 20, 32, 34, 36] := rfl
theorem st13 (T : Nat → Nat) (c : Nat) : stP T c 1 2 4 = stE T c [9, 11, 25, 27] := rfl
theorem sh_lt {t p : Nat} (h : t < 1024) (hp : p ≤ 45) : t <<< p < 18446744073709551616 := by
 rw [Nat.shiftLeft_eq]
 have : t * 2 ^ p < 2 ^ 10 * 2 ^ p := Nat.mul_lt_mul_of_pos_right h (Nat.pow_pos (by decide))
 rw [← Nat.pow_add] at this
 exact Nat.lt_of_lt_of_le this (Nat.pow_le_pow_right (by decide) (show 10 + p ≤ 64 by omega))
theorem stP_lt {T : Nat → Nat} (hT : ∀ c, T c < 1024) (c f K : Nat) (hf : f ≤ 1) (hK : 1 ≤ K) : ∀ n, n ≤ K * K → (f + 2 * (K - 1) ≤ 4) → stP T c f K n < 18446744073709551616
 | 0, _, _ => show (0 : Nat) < 18446744073709551616 by decide
 | n + 1, h, h2 => by
  have a : n / K < K := Nat.div_lt_of_lt_mul (by omega)
  have b : n % K < K := Nat.mod_lt _ hK
  rw [stP_next]
  exact Nat.or_lt_two_pow (n := 64) (stP_lt hT c f K hf hK n (by omega) h2) (sh_lt (hT _) (by unfold coE; omega))
set_option maxRecDepth 100000 in
set_option maxHeartbeats 3200000 in
theorem step_anyT (tb c f K : Nat) (T : Nat → Nat) (w : World) (hc : c < 18446744073709551616) (hT : TtA w tb T) (hf : f ≤ 1) (hK : 1 ≤ K) (hm : f + 2 * (K - 1) ≤ 4) : Calls Tryz.prog 137 #[.pointer (some ⟨tb, 0, none⟩), .int .u64 (c : Int), .int .i64 (f : Int), .int .i64 ((f + 2 * (K - 1) : Nat) : Int)] w fun e w' => e = .returned (.int .u64 (stP T c f K (K * K) : Int)) ∧ ∃ q, w' = w.drewN q := by
 have HT := hide' hT
 have SL := hide' (fun n (h : n ≤ K * K) => stP_lt hT.low c f K hf hK n h hm)
 have SN := hide' (fun n => stP_next T c f K n)
 obtain ⟨m, hm'⟩ : ∃ m, f + 2 * (K - 1) = m := ⟨_, rfl⟩
 rw [hm'] at hm ⊢
 have K3 : K ≤ 3 := by omega
 clear hT
 go_enter Tryz.func137, Tryz.ntmps137
 go_wp2
 go_loopw [9, 10, 11, 12] (fun ov yv _ _ wr => ∃ (i q : Nat), ov = .int .u64 ((stP T c f K (i * K) : Nat) : Int) ∧ yv = .int .i64 ((f + 2 * i : Nat) : Int) ∧ i ≤ K ∧ wr = w.drewN q) (fun _ yv _ _ _ => 2 * K + 2 - (intOf yv).toNat)
 case atStart => exact ⟨0, 0, by rw [Nat.zero_mul]; rfl, by simp, by omega, rfl⟩
 case round =>
  obtain ⟨i, q, rfl, rfl, hi, rfl⟩ := hrel
  have NX := hide' (show i * K + K = (i + 1) * K by rw [Nat.succ_mul])
  have IK := hide' (fun (h : i < K) => show i * K + K ≤ K * K by rw [← Nat.succ_mul]; exact Nat.mul_le_mul_right K h)
  obtain ⟨b0, hb0⟩ : ∃ b, i * K = b := ⟨_, rfl⟩
  obtain ⟨y, hy⟩ : ∃ y, f + 2 * i = y := ⟨_, rfl⟩
  rw [hb0] at NX IK
  rw [hb0, hy]
  have HB := hide' hb0
  clear hb0
  by_cases dy : (y : Int) ≤ (m : Int)
  ·have iK : i < K := by omega
   have bK := IK.out iK
   have y4 : y ≤ 4 := by omega
   obtain ⟨V0, hV0⟩ : ∃ V, w.drewN q = V := ⟨_, rfl⟩
   have DR := hide' (show ∃ q, V0 = w.drewN q from ⟨q, hV0.symm⟩)
   rw [hV0]
   clear hV0
   go_wp2
   go_loopw [9, 11, 12] (fun ov xv _ wr => ∃ (j q : Nat), ov = .int .u64 ((stP T c f K (b0 + j) : Nat) : Int) ∧ xv = .int .i64 ((f + 2 * j : Nat) : Int) ∧ j ≤ K ∧ Hid (wr = w.drewN q)) (fun _ xv _ _ => 2 * K + 2 - (intOf xv).toNat)
   case atStart =>
    obtain ⟨q', hq'⟩ := DR.out
    exact ⟨0, q', rfl, by simp, by omega, hide' hq'⟩
   case round =>
    obtain ⟨j, q, rfl, rfl, hj, HQ⟩ := hrel
    obtain ⟨x, hx⟩ : ∃ x, f + 2 * j = x := ⟨_, rfl⟩
    rw [hx]
    by_cases dx : (x : Int) ≤ (m : Int)
    ·have jK : j < K := by omega
     have x4 : x ≤ 4 := by omega
     have sl := SL.out (b0 + j) (by omega)
     have sl2 := SL.out (b0 + j + 1) (by omega)
     have sn := SN.out (b0 + j)
     have co : coE f K (b0 + j) = 8 * y + x := by
      unfold coE
      have e1 : (b0 + j) / K = i := by rw [← HB.out, Nat.mul_comm, Nat.mul_add_div (by omega), Nat.div_eq_of_lt jK, Nat.add_zero]
      have e2 : (b0 + j) % K = j := by rw [← HB.out, Nat.mul_comm, Nat.mul_add_mod, Nat.mod_eq_of_lt jK]
      rw [e1, e2, hy, hx]
     obtain ⟨p, hp⟩ : ∃ p, 8 * y + x = p := ⟨_, rfl⟩
     have ep : 8 * (y : Int) + (x : Int) = (p : Int) := by omega
     rw [co, hp] at sn
     have p36 : p ≤ 36 := by omega
     have cl := Nat.lt_of_le_of_lt (shr_leH c p) hc
     have FA := hide' (fun V => fourAt_any (c >>> p) V cl)
     have qs : (c : Int) / (2 : Int) ^ p = ((c >>> p : Nat) : Int) := by
      rw [Nat.shiftRight_eq_div_pow, Int.natCast_ediv]
      push_cast
      rfl
     have fl := frE_lt (c >>> p)
     obtain ⟨cp, hcp⟩ : ∃ v, c >>> p = v := ⟨_, rfl⟩
     rw [hcp] at sn FA qs fl
     obtain ⟨fr, hfr⟩ : ∃ v, frE cp = v := ⟨_, rfl⟩
     rw [hfr] at sn FA fl
     have ct := fun V (h : ∃ q, V = w.drewN q) => show V.cell? ⟨tb, fr, none⟩ = some (.int .u16 ((T fr : Nat) : Int)) from by obtain ⟨q, rfl⟩ := h; exact HT.out.cell fr fl
     have cw := ct wr ⟨q, HQ.out⟩
     have tl := HT.out.low fr
     have ss := sh_lt tl (show p + 9 ≤ 45 by omega)
     have ws : IntKind.u64.wrap (((T fr : Nat) : Int) * (2 : Int) ^ (p + 9)) = ((T fr <<< (p + 9) : Nat) : Int) := by
      have := shl_u64 (T fr) (p + 9) ((2 : Int) ^ (p + 9)) (by push_cast; rfl)
      rw [Nat.mod_eq_of_lt ss] at this
      exact this
     obtain ⟨tv, htv⟩ : ∃ v, T fr = v := ⟨_, rfl⟩
     rw [htv] at sn cw tl ws ss
     obtain ⟨sv, hsv⟩ : ∃ v, tv <<< (p + 9) = v := ⟨_, rfl⟩
     rw [hsv] at sn ws ss
     obtain ⟨o1, ho1⟩ : ∃ v, stP T c f K (b0 + j) = v := ⟨_, rfl⟩
     rw [ho1] at sn sl ⊢
     have os : bits .or .u64 (o1 : Int) (sv : Int) = ((o1 ||| sv : Nat) : Int) := u64_or_nat o1 sv sl ss
     rw [← sn] at os
     have f0 : (0 : Int) ≤ (fr : Int) := by omega
     have fI : (fr : Int) < 65536 := by omega
     have wp9 : IntKind.i64.wrap ((p : Int) + 9) = (p : Int) + 9 := by simp [IntKind.wrap, IntKind.signed, IntKind.bits]; omega
     have cI : (cp : Int) < 18446744073709551616 := by omega
     clear co hp hcp hfr htv hsv ho1 sn ct
     go_upto_region 9 with fail
     go_quiet (first | (go_at_call 145; exact Calls.quiet_of_same (FA.out _)))
     have HQ2 := hide' (show wr.drewN nq = w.drewN (q + nq) by rw [HQ.out, World.drewN_drewN])
     obtain ⟨V, hV⟩ : ∃ V, wr.drewN nq = V := ⟨_, rfl⟩
     rw [hV] at HQ2 ⊢
     clear hV cw
     go_wp2
     exact ⟨⟨j + 1, q + nq, rfl, by rw [← hx]; go_num, by omega, HQ2⟩, by simp [intOf]; omega⟩
    ·obtain rfl : j = K := by omega
     have e1 := NX.out
     have hq := HQ.out
     obtain ⟨o1, ho1⟩ : ∃ v, stP T c f j (b0 + j) = v := ⟨_, rfl⟩
     rw [ho1]
     have HO := hide' ho1
     clear ho1 hq
     go_wp2
     exact ⟨⟨i + 1, q, by rw [← e1, HO.out], by rw [← hy]; go_num, by omega, HQ.out⟩, by simp [intOf]; omega⟩
  ·obtain rfl : i = K := by omega
   have HO := hide' (show stP T c f i b0 = stP T c f i (i * i) by rw [HB.out])
   obtain ⟨o1, ho1⟩ : ∃ v, stP T c f i b0 = v := ⟨_, rfl⟩
   rw [ho1] at HO ⊢
   clear ho1
   go_wp2
   go_ret
   exact ⟨by rw [← HO.out]; rfl, q, rfl⟩
theorem stE_nil {T : Nat → Nat} (h0 : T 0 = 0) : ∀ l : List Nat, stE T 0 l = 0 := by
 intro l
 unfold stE
 have key : ∀ (l : List Nat), l.foldl (fun o p => o ||| (T (frE (0 >>> p)) <<< (p + 9))) 0 = 0 := by
  intro l
  induction l with
  | nil => rfl
  | cons p l ih =>
   rw [List.foldl_cons, Nat.zero_shiftRight, show frE 0 = 0 from rfl, h0, Nat.zero_shiftLeft]
   exact ih
 exact key l
theorem inE_nil {T : Nat → Nat} (h0 : T 0 = 0) (s : Nat) : inT T 0 s = 0 := by
 unfold inT
 simp only [stE_nil h0, ite_self]
 decide
theorem stE_lt04 {T : Nat → Nat} (hT : ∀ c, T c < 1024) (c : Nat) : stE T c [0, 2, 4, 16, 18, 20, 32, 34, 36] < 18446744073709551616 := by rw [← st04]; exact stP_lt hT c 0 3 (by decide) (by decide) 9 (by decide) (by decide)
theorem stE_lt13 {T : Nat → Nat} (hT : ∀ c, T c < 1024) (c : Nat) : stE T c [9, 11, 25, 27] < 18446744073709551616 := by rw [← st13]; exact stP_lt hT c 1 2 (by decide) (by decide) 4 (by decide) (by decide)
theorem step04 (tb c : Nat) (T : Nat → Nat) (w : World) (hc : c < 18446744073709551616) (hT : TtA w tb T) : Calls Tryz.prog 137 #[.pointer (some ⟨tb, 0, none⟩), .int .u64 (c : Int), .int .i64 0, .int .i64 4] w fun e w' => e = .returned (.int .u64 (stE T c [0, 2, 4, 16, 18, 20, 32, 34, 36] : Int)) ∧ ∃ q, w' = w.drewN q := by
 have h := step_anyT tb c 0 3 T w hc hT (by decide) (by decide) (by decide)
 rw [show (3 * 3 : Nat) = 9 from rfl, st04, show ((0 : Nat) : Int) = 0 from rfl, show ((0 + 2 * (3 - 1) : Nat) : Int) = 4 from rfl] at h
 exact h
theorem step13 (tb c : Nat) (T : Nat → Nat) (w : World) (hc : c < 18446744073709551616) (hT : TtA w tb T) : Calls Tryz.prog 137 #[.pointer (some ⟨tb, 0, none⟩), .int .u64 (c : Int), .int .i64 1, .int .i64 3] w fun e w' => e = .returned (.int .u64 (stE T c [9, 11, 25, 27] : Int)) ∧ ∃ q, w' = w.drewN q := by
 have h := step_anyT tb c 1 2 T w hc hT (by decide) (by decide) (by decide)
 rw [show (2 * 2 : Nat) = 4 from rfl, st13, show ((1 : Nat) : Int) = 1 from rfl, show ((1 + 2 * (2 - 1) : Nat) : Int) = 3 from rfl] at h
 exact h
set_option maxRecDepth 100000 in
set_option maxHeartbeats 3200000 in
theorem inner_any (tb c s : Nat) (T : Nat → Nat) (w : World) (hc : c < 18446744073709551616) (hT : TtA w tb T) (h0 : T 0 = 0) (hs : s ≤ 2) : Calls Tryz.prog 123 #[.pointer (some ⟨tb, 0, none⟩), .int .u64 (c : Int), .int .i64 (s : Int)] w fun e w' => e = .returned (.int .u64 (inT T c s : Int)) ∧ ∃ q, w' = w.drewN q := by
 have fin : ∀ b : Nat, b < 18446744073709551616 → bits .and .u64 ((b : Int) / 262144) 252645135 = (((b >>> 18) &&& 252645135 : Nat) : Int) := fun b hb => by
  rw [shr18]
  exact u64_and_nat (b >>> 18) 252645135 (Nat.lt_of_le_of_lt (shr_leH b 18) hb) (by decide)
 by_cases z : c = 0
 ·subst z
  have E := hide' (inE_nil h0 s)
  clear hT h0 fin
  go_enter Tryz.func123, Tryz.ntmps123
  go_wp2
  go_ret
  exact ⟨by rw [E.out]; rfl, 0, rfl⟩
 ·have zb : ((c : Int) == 0) = false := by simp; omega
  have cases' : s = 0 ∨ s = 1 ∨ s = 2 := by omega
  rcases cases' with rfl | rfl | rfl
  ·have E := hide' (show inT T c 0 = (c >>> 18) &&& 252645135 from rfl)
   have f1 := fin c hc
   rw [← E.out] at f1
   obtain ⟨r, hr⟩ : ∃ r, inT T c 0 = r := ⟨_, rfl⟩
   rw [hr] at f1 ⊢
   clear hT h0 fin E hr z
   go_enter Tryz.func123, Tryz.ntmps123
   go_wp2
   go_ret
   exact ⟨rfl, 0, rfl⟩
  ·have E := hide' (show inT T c 1 = ((stE T c [9, 11, 25, 27]) >>> 18) &&& 252645135 from rfl)
   have f1 := fin (stE T c [9, 11, 25, 27]) (stE_lt13 hT.low c)
   rw [← E.out] at f1
   have S1 := hide' (step13 tb c T w hc hT)
   obtain ⟨b, hb⟩ : ∃ b, stE T c [9, 11, 25, 27] = b := ⟨_, rfl⟩
   rw [hb] at f1 S1
   obtain ⟨r, hr⟩ : ∃ r, inT T c 1 = r := ⟨_, rfl⟩
   rw [hr] at f1 ⊢
   clear hT h0 fin E hr hb z
   go_enter Tryz.func123, Tryz.ntmps123
   go_wp2_with fail
   refine S1.out.mono ?_
   rintro o w1 ⟨rfl, q1, rfl⟩
   go_wp2
   go_ret
   exact ⟨rfl, q1, rfl⟩
  ·have E := hide' (show inT T c 2 = ((stE T (stE T c [0, 2, 4, 16, 18, 20, 32, 34, 36]) [9, 11, 25, 27]) >>> 18) &&& 252645135 from rfl)
   have f1 := fin (stE T (stE T c [0, 2, 4, 16, 18, 20, 32, 34, 36]) [9, 11, 25, 27]) (stE_lt13 hT.low _)
   rw [← E.out] at f1
   have S1 := hide' (step04 tb c T w hc hT)
   have S2 := hide' (fun q => step13 tb (stE T c [0, 2, 4, 16, 18, 20, 32, 34, 36]) T (w.drewN q) (stE_lt04 hT.low c) (hT.drewN q))
   obtain ⟨a, ha⟩ : ∃ b, stE T c [0, 2, 4, 16, 18, 20, 32, 34, 36] = b := ⟨_, rfl⟩
   rw [ha] at f1 S1 S2
   obtain ⟨b, hb⟩ : ∃ b, stE T a [9, 11, 25, 27] = b := ⟨_, rfl⟩
   rw [hb] at f1 S2
   obtain ⟨r, hr⟩ : ∃ r, inT T c 2 = r := ⟨_, rfl⟩
   rw [hr] at f1 ⊢
   clear hT h0 fin E hr hb ha z
   go_enter Tryz.func123, Tryz.ntmps123
   go_wp2_with fail
   refine S1.out.mono ?_
   rintro o w1 ⟨rfl, q1, rfl⟩
   go_wp2_with fail
   refine (S2.out q1).mono ?_
   rintro o w2 ⟨rfl, q2, rfl⟩
   go_wp2
   go_ret
   exact ⟨rfl, q1 + q2, rfl⟩
end Go.Proofs.YtemhcpldflcfbaaGreatDoor
