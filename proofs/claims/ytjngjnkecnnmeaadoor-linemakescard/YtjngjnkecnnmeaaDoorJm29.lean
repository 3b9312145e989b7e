/-
  What the last text of this claim leans on, part 29: Ll3, Ll4.
-/
import Derived.Test.YtjngjnkecnnmeaaDoorJm28
import Derived.Test.YtjngjnkecnnmeaaDoorJm5
namespace Go.Proofs.YtjngjnkecnnmeaaDoor
open Go.RowKit
set_option linter.unusedVariables false

set_option maxRecDepth 100000 in
set_option maxHeartbeats 3200000 in
theorem compose_clo (S Ra Rb : Nat) (Ta Tb : List Int) (ta : Option Addr) (na ca : Nat) (tb : Option Addr) (nb cb pa pb g L : Nat) (ds : List Int) (wr : World)
    (hLa : LineOk S Ra Ta) (hLb : LineOk S Rb Tb) (hA : RB pa S Ra (.slice ta na ca) wr) (hB : RB pb S Rb (.slice tb nb cb) wr) (hTa : ArgP wr Ta ta na ca) (hTb : ArgP wr Tb tb nb cb) (hC : Cel wr g ds) (hl : ds.length = L) (hL : L = 2 * (Ra + Rb) + 1) (hok : cellsOk S ds) :
    Calls Tryd.prog 104 #[.slice (some ⟨g, 0, none⟩) L L, .pointer (some ⟨pb, 0, none⟩), .pointer (some ⟨pa, 0, none⟩)] wr fun e w' => e = .returned (.int .i64 ((applyL S Rb Tb (applyL S Ra Ta ds)).getD 0 0)) ∧ Below wr.heap.size wr w' := by
  have ra10 := hLa.r10
  have rb10 := hLb.r10
  have HLa := hide' hLa
  have HLb := hide' hLb
  have HA := hide' hA
  have HB := hide' hB
  have HTa := hide' hTa
  have HTb := hide' hTb
  have HL := hide' hL
  have HO := hide' hok
  have AW := hide' (show ArgP wr ds (some ⟨g, 0, none⟩) L L from hC.argP hl (by unfold maxLen; omega))
  have D0 := hide' (show Below wr.heap.size wr wr.drew from (Below.refl _ _).drew)
  have OA := hide' (applyL_ok (S := (S : Int)) (R := Ra) (T := Ta) (by omega) hLa.lenI hLa.ok hok)
  obtain ⟨xs, hxs⟩ : ∃ xs, applyL S Ra Ta ds = xs := ⟨_, rfl⟩
  have XS := hide' hxs
  have XL := hide' (show xs.length = 2 * Rb + 1 by rw [← hxs, applyL_length, hl, hL]; omega)
  rw [hxs] at OA ⊢
  obtain ⟨res, hres⟩ : ∃ res, (applyL S Rb Tb xs).getD 0 0 = res := ⟨_, rfl⟩
  have RES := hide' hres
  rw [hres]
  obtain ⟨m, hm⟩ : ∃ m, 2 * Rb + 1 = m := ⟨_, rfl⟩
  have HM := hide' hm
  have m0 : 0 < m := by omega
  have m1 : m ≤ 100 := by omega
  clear hLa hLb hA hB hTa hTb hC hl hL hok hxs hres hm
  go_enter Tryd.func104, Tryd.ntmps104
  go_upto_region 1 with fail
  obtain ⟨a0, a1, a2, a3, a4, a5, a6⟩ := HA.out
  obtain ⟨b0, b1, b2, b3, b4, b5, b6⟩ := HB.out
  go_region_with
    (first
      | (go_at_call_of 96 (Value.agg #[.int .i64 2, .int .i64 0, .int .i64 0, .int .i64 (S : Int), .int .i64 (Ra : Int), .slice ta na ca, .string ⟨#[]⟩]); refine (applied_pos S Ra Ta ta na ca ds (some ⟨g, 0, none⟩) L L m _ HLa.out (HTa.out.below D0.out) (AW.out.below D0.out) (Nat.le_refl _) (by unfold maxLen; have := HL.out; omega) HO.out (by rw [HL.out, ← HM.out]; omega) m0 (by omega)).mono ?_; rintro e w1 ⟨g1, rfl, hg1, c1, bw1⟩; have D1 := hide' (D0.out.trans (bw1.mono (by have := D0.out.size; omega))); have C1 := hide' (show Cel w1 g1 xs by rw [← XS.out]; exact c1); have G1 := hide' hg1; obtain ⟨d0, d1, d2, d3, d4, d5, d6⟩ := HB.out.next D1.out; clear bw1 c1 hg1)
      | (go_at_call_of 96 (Value.agg #[.int .i64 2, .int .i64 0, .int .i64 0, .int .i64 (S : Int), .int .i64 (Rb : Int), .slice tb nb cb, .string ⟨#[]⟩]); refine (applied_pos S Rb Tb tb nb cb xs (some ⟨g1, 0, none⟩) m m 1 _ HLb.out (HTb.out.below D1.out) (C1.out.argP (by rw [XL.out, HM.out]) (by unfold maxLen; omega)) (Nat.le_refl _) (by unfold maxLen; omega) OA.out (by rw [← HM.out]; omega) (by omega) (by omega)).mono ?_; rintro e w2 ⟨g2, rfl, hg2, c2, bw2⟩; have D2 := hide' (D1.out.trans (bw2.mono (by have := D1.out.size; omega))); have k2 : w2.cell? ⟨g2, 0, none⟩ = some (.int .i64 res) := (by rw [← RES.out]; exact c2.cells 0 (by rw [applyL_length, XL.out]; omega)); clear bw2 c2 hg2))
  all_goals
    go_wp2
    go_ret
    exact ⟨rfl, D2.out⟩
end Go.Proofs.YtjngjnkecnnmeaaDoor

namespace Go.Proofs.YtjngjnkecnnmeaaDoor
open Go.RowKit
set_option linter.unusedVariables false

theorem Cel.mid {w : World} {g M n c : Nat} {ds : List Int} (h : Cel w g ds) (hl : M + n ≤ ds.length) (hm : n ≤ maxLen) : ArgP w ((ds.drop M).take n) (some ⟨g, M, none⟩) n c := by
  refine ⟨by simp; omega, hm, fun k hk => ⟨g, M, rfl, h.lt, ?_⟩⟩
  have hk' : k < n := by simp at hk; omega
  rw [h.cells (M + k) (by omega)]
  simp [List.getD, show M + k < ds.length by omega]
theorem mid_ok {S : Int} {ds : List Int} (h : cellsOk S ds) (M n : Nat) : cellsOk S ((ds.drop M).take n) := fun x hx => h x (List.mem_of_mem_drop (List.mem_of_mem_take hx))

theorem wrap_natL (n : Nat) (h : n ≤ 1000000) : IntKind.i64.wrap (n : Int) = (n : Int) := by simp [IntKind.wrap, IntKind.bits, IntKind.signed]; omega

set_option maxRecDepth 100000 in
set_option maxHeartbeats 3200000 in
theorem widen_clo (S R M : Nat) (T : List Int) (ta : Option Addr) (tn tc pr pm g L : Nat) (ds : List Int) (wr : World)
    (hLk : LineOk S R T) (hA : RB pr S R (.slice ta tn tc) wr) (hM : wr.cell? ⟨pm, 0, none⟩ = some (.int .i64 (M : Int))) (hT : ArgP wr T ta tn tc) (hC : Cel wr g ds) (hl : ds.length = L) (hL : L = 2 * (R + M) + 1) (hM1 : M ≤ 10) (hok : cellsOk S ds) :
    Calls Tryd.prog 105 #[.slice (some ⟨g, 0, none⟩) L L, .pointer (some ⟨pr, 0, none⟩), .pointer (some ⟨pm, 0, none⟩)] wr fun e w' => e = .returned (.int .i64 ((applyL S R T ((ds.drop M).take (2 * R + 1))).getD 0 0)) ∧ Below wr.heap.size wr w' := by
  have r10 := hLk.r10
  have HLk := hide' hLk
  have HA := hide' hA
  have HT := hide' hT
  have HL := hide' hL
  obtain ⟨H, hH⟩ : ∃ H, L - M = H := ⟨_, rfl⟩
  have q1 : (L : Int) - (M : Int) = (H : Int) := by omega
  have HMe := hide' (show H - M = 1 + 2 * R by omega)
  obtain ⟨xs, hxs⟩ : ∃ xs, (ds.drop M).take (2 * R + 1) = xs := ⟨_, rfl⟩
  have AW := hide' (show ArgP wr xs (some ⟨g, M, none⟩) (H - M) (L - M) by rw [← hxs, show H - M = 2 * R + 1 by omega]; exact hC.mid (by omega) (by unfold maxLen; omega))
  have OX := hide' (show cellsOk S xs by rw [← hxs]; exact mid_ok hok M _)
  have XL := hide' (show xs.length = 2 * R + 1 by rw [← hxs]; simp; omega)
  rw [hxs]
  obtain ⟨res, hres⟩ : ∃ res, (applyL S R T xs).getD 0 0 = res := ⟨_, rfl⟩
  have RES := hide' hres
  rw [hres]
  have D0 := hide' (show Below wr.heap.size wr wr.drew from (Below.refl _ _).drew)
  have v1 : ¬ L = M := by omega
  have v2 : H ≤ L := by omega
  have v3 : M ≤ H := by omega
  have v4 : L ≤ 41 := by omega
  have u1 : IntKind.i64.wrap (M : Int) = (M : Int) := wrap_natL M (by omega)
  have u2 : IntKind.i64.wrap (H : Int) = (H : Int) := wrap_natL H (by omega)
  have u3 : IntKind.i64.wrap (L : Int) = (L : Int) := wrap_natL L (by omega)
  clear hLk hA hT hC hl hL hok hxs hres hH
  obtain ⟨a0, a1, a2, a3, a4, a5, a6⟩ := HA.out
  go_enter Tryd.func105, Tryd.ntmps105
  go_upto_region 1 with fail
  go_region_with
    (go_at_call 96; refine (applied_pos S R T ta tn tc xs (some ⟨g, M, none⟩) (H - M) (L - M) 1 _ HLk.out (HT.out.below D0.out) (AW.out.below D0.out) (by omega) (by unfold maxLen; omega) OX.out HMe.out (by omega) (by omega)).mono ?_; rintro e w2 ⟨g2, rfl, hg2, c2, bw2⟩; have D2 := hide' (D0.out.trans (bw2.mono (by have := D0.out.size; omega))); have k2 : w2.cell? ⟨g2, 0, none⟩ = some (.int .i64 res) := (by rw [← RES.out]; exact c2.cells 0 (by rw [applyL_length, XL.out]; omega)); clear bw2 c2 hg2)
  all_goals
    go_wp2
    go_ret
    exact ⟨rfl, D2.out⟩
end Go.Proofs.YtjngjnkecnnmeaaDoor

