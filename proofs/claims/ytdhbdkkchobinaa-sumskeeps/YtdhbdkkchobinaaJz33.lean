/-
  What the last text of this claim leans on, part 33: Ll3, Ll4, Of1, Of2.
-/
import Derived.Test.YtdhbdkkchobinaaJz32
import Derived.Test.YtdhbdkkchobinaaJz3
import Derived.Test.YtdhbdkkchobinaaJz30
import Derived.Deep.RegionWith
namespace Go.Proofs.Ytdhbdkkchobinaa
open Go.RowKit
set_option linter.unusedVariables false

set_option maxRecDepth 100000 in
set_option maxHeartbeats 3200000 in
theorem compose_clo (S Ra Rb : Nat) (Ta Tb : List Int) (ta : Option Addr) (na ca : Nat) (tb : Option Addr) (nb cb pa pb g L : Nat) (ds : List Int) (wr : World)
    (hLa : LineOk S Ra Ta) (hLb : LineOk S Rb Tb) (hA : RB pa S Ra (.slice ta na ca) wr) (hB : RB pb S Rb (.slice tb nb cb) wr) (hTa : ArgP wr Ta ta na ca) (hTb : ArgP wr Tb tb nb cb) (hC : Cel wr g ds) (hl : ds.length = L) (hL : L = 2 * (Ra + Rb) + 1) (hok : cellsOk S ds) :
    Calls Try.prog 21 #[.slice (some ⟨g, 0, none⟩) L L, .pointer (some ⟨pb, 0, none⟩), .pointer (some ⟨pa, 0, none⟩)] wr fun e w' => e = .returned (.int .i64 ((applyL S Rb Tb (applyL S Ra Ta ds)).getD 0 0)) ∧ Below wr.heap.size wr w' := by
  have ra10 := hLa.r10
  have rb10 := hLb.r10
  have HLa := hide' hLa
  have HLb := hide' hLb
  have HA := hide' hA
  have HB := hide' hB
  have HTa := hide' hTa
  have HTb := hide' hTb
  have HL := hide' hL
  have HO := hide' hok
  have AW := hide' (show ArgP wr ds (some ⟨g, 0, none⟩) L L from hC.argP hl (by unfold maxLen; omega))
  have D0 := hide' (show Below wr.heap.size wr wr.drew from (Below.refl _ _).drew)
  have OA := hide' (applyL_ok (S := (S : Int)) (R := Ra) (T := Ta) (by omega) hLa.lenI hLa.ok hok)
  obtain ⟨xs, hxs⟩ : ∃ xs, applyL S Ra Ta ds = xs := ⟨_, rfl⟩
  have XS := hide' hxs
  have XL := hide' (show xs.length = 2 * Rb + 1 by rw [← hxs, applyL_length, hl, hL]; omega)
  rw [hxs] at OA ⊢
  obtain ⟨res, hres⟩ : ∃ res, (applyL S Rb Tb xs).getD 0 0 = res := ⟨_, rfl⟩
  have RES := hide' hres
  rw [hres]
  obtain ⟨m, hm⟩ : ∃ m, 2 * Rb + 1 = m := ⟨_, rfl⟩
  have HM := hide' hm
  have m0 : 0 < m := by omega
  have m1 : m ≤ 100 := by omega
  clear hLa hLb hA hB hTa hTb hC hl hL hok hxs hres hm
  go_enter Try.func21, Try.ntmps21
  go_upto_region 1 with fail
  obtain ⟨a0, a1, a2, a3, a4, a5, a6⟩ := HA.out
  obtain ⟨b0, b1, b2, b3, b4, b5, b6⟩ := HB.out
  go_region_with
    (first
      | (go_at_call_of 22 (Value.agg #[.int .i64 2, .int .i64 0, .int .i64 0, .int .i64 (S : Int), .int .i64 (Ra : Int), .slice ta na ca, .string ⟨#[]⟩]); refine (applied_pos S Ra Ta ta na ca ds (some ⟨g, 0, none⟩) L L m _ HLa.out (HTa.out.below D0.out) (AW.out.below D0.out) (Nat.le_refl _) (by unfold maxLen; have := HL.out; omega) HO.out (by rw [HL.out, ← HM.out]; omega) m0 (by omega)).mono ?_; rintro e w1 ⟨g1, rfl, hg1, c1, bw1⟩; have D1 := hide' (D0.out.trans (bw1.mono (by have := D0.out.size; omega))); have C1 := hide' (show Cel w1 g1 xs by rw [← XS.out]; exact c1); have G1 := hide' hg1; obtain ⟨d0, d1, d2, d3, d4, d5, d6⟩ := HB.out.next D1.out; clear bw1 c1 hg1)
      | (go_at_call_of 22 (Value.agg #[.int .i64 2, .int .i64 0, .int .i64 0, .int .i64 (S : Int), .int .i64 (Rb : Int), .slice tb nb cb, .string ⟨#[]⟩]); refine (applied_pos S Rb Tb tb nb cb xs (some ⟨g1, 0, none⟩) m m 1 _ HLb.out (HTb.out.below D1.out) (C1.out.argP (by rw [XL.out, HM.out]) (by unfold maxLen; omega)) (Nat.le_refl _) (by unfold maxLen; omega) OA.out (by rw [← HM.out]; omega) (by omega) (by omega)).mono ?_; rintro e w2 ⟨g2, rfl, hg2, c2, bw2⟩; have D2 := hide' (D1.out.trans (bw2.mono (by have := D1.out.size; omega))); have k2 : w2.cell? ⟨g2, 0, none⟩ = some (.int .i64 res) := (by rw [← RES.out]; exact c2.cells 0 (by rw [applyL_length, XL.out]; omega)); clear bw2 c2 hg2))
  all_goals
    go_wp2
    go_ret
    exact ⟨rfl, D2.out⟩
end Go.Proofs.Ytdhbdkkchobinaa

namespace Go.Proofs.Ytdhbdkkchobinaa
open Go.RowKit
set_option linter.unusedVariables false

theorem Cel.mid {w : World} {g M n c : Nat} {ds : List Int} (h : Cel w g ds) (hl : M + n ≤ ds.length) (hm : n ≤ maxLen) : ArgP w ((ds.drop M).take n) (some ⟨g, M, none⟩) n c := by
  refine ⟨by simp; omega, hm, fun k hk => ⟨g, M, rfl, h.lt, ?_⟩⟩
  have hk' : k < n := by simp at hk; omega
  rw [h.cells (M + k) (by omega)]
  simp [List.getD, show M + k < ds.length by omega]
theorem mid_ok {S : Int} {ds : List Int} (h : cellsOk S ds) (M n : Nat) : cellsOk S ((ds.drop M).take n) := fun x hx => h x (List.mem_of_mem_drop (List.mem_of_mem_take hx))

theorem wrap_natL (n : Nat) (h : n ≤ 1000000) : IntKind.i64.wrap (n : Int) = (n : Int) := by simp [IntKind.wrap, IntKind.bits, IntKind.signed]; omega

set_option maxRecDepth 100000 in
set_option maxHeartbeats 3200000 in
theorem widen_clo (S R M : Nat) (T : List Int) (ta : Option Addr) (tn tc pr pm g L : Nat) (ds : List Int) (wr : World)
    (hLk : LineOk S R T) (hA : RB pr S R (.slice ta tn tc) wr) (hM : wr.cell? ⟨pm, 0, none⟩ = some (.int .i64 (M : Int))) (hT : ArgP wr T ta tn tc) (hC : Cel wr g ds) (hl : ds.length = L) (hL : L = 2 * (R + M) + 1) (hM1 : M ≤ 10) (hok : cellsOk S ds) :
    Calls Try.prog 23 #[.slice (some ⟨g, 0, none⟩) L L, .pointer (some ⟨pr, 0, none⟩), .pointer (some ⟨pm, 0, none⟩)] wr fun e w' => e = .returned (.int .i64 ((applyL S R T ((ds.drop M).take (2 * R + 1))).getD 0 0)) ∧ Below wr.heap.size wr w' := by
  have r10 := hLk.r10
  have HLk := hide' hLk
  have HA := hide' hA
  have HT := hide' hT
  have HL := hide' hL
  obtain ⟨H, hH⟩ : ∃ H, L - M = H := ⟨_, rfl⟩
  have q1 : (L : Int) - (M : Int) = (H : Int) := by omega
  have HMe := hide' (show H - M = 1 + 2 * R by omega)
  obtain ⟨xs, hxs⟩ : ∃ xs, (ds.drop M).take (2 * R + 1) = xs := ⟨_, rfl⟩
  have AW := hide' (show ArgP wr xs (some ⟨g, M, none⟩) (H - M) (L - M) by rw [← hxs, show H - M = 2 * R + 1 by omega]; exact hC.mid (by omega) (by unfold maxLen; omega))
  have OX := hide' (show cellsOk S xs by rw [← hxs]; exact mid_ok hok M _)
  have XL := hide' (show xs.length = 2 * R + 1 by rw [← hxs]; simp; omega)
  rw [hxs]
  obtain ⟨res, hres⟩ : ∃ res, (applyL S R T xs).getD 0 0 = res := ⟨_, rfl⟩
  have RES := hide' hres
  rw [hres]
  have D0 := hide' (show Below wr.heap.size wr wr.drew from (Below.refl _ _).drew)
  have v1 : ¬ L = M := by omega
  have v2 : H ≤ L := by omega
  have v3 : M ≤ H := by omega
  have v4 : L ≤ 41 := by omega
  have u1 : IntKind.i64.wrap (M : Int) = (M : Int) := wrap_natL M (by omega)
  have u2 : IntKind.i64.wrap (H : Int) = (H : Int) := wrap_natL H (by omega)
  have u3 : IntKind.i64.wrap (L : Int) = (L : Int) := wrap_natL L (by omega)
  clear hLk hA hT hC hl hL hok hxs hres hH
  obtain ⟨a0, a1, a2, a3, a4, a5, a6⟩ := HA.out
  go_enter Try.func23, Try.ntmps23
  go_upto_region 1 with fail
  go_region_with
    (go_at_call 22; refine (applied_pos S R T ta tn tc xs (some ⟨g, M, none⟩) (H - M) (L - M) 1 _ HLk.out (HT.out.below D0.out) (AW.out.below D0.out) (by omega) (by unfold maxLen; omega) OX.out HMe.out (by omega) (by omega)).mono ?_; rintro e w2 ⟨g2, rfl, hg2, c2, bw2⟩; have D2 := hide' (D0.out.trans (bw2.mono (by have := D0.out.size; omega))); have k2 : w2.cell? ⟨g2, 0, none⟩ = some (.int .i64 res) := (by rw [← RES.out]; exact c2.cells 0 (by rw [applyL_length, XL.out]; omega)); clear bw2 c2 hg2)
  all_goals
    go_wp2
    go_ret
    exact ⟨rfl, D2.out⟩
end Go.Proofs.Ytdhbdkkchobinaa

namespace Go.Proofs.Ytdhbdkkchobinaa
open Go.RowKit
set_option linter.unusedVariables false

/-- What may turn: two blocks, rows of numbers; all below B0 lies as it lay. -/
structure RK (gs pt B0 : Nat) (W W' : World) : Prop where
  bl : Below B0 W W'
  same : ∀ k o, W.heap[k]? = some o → k ≠ gs → k ≠ pt → (∀ c f, o ≠ .cells c 3 f) → W'.heap[k]? = some o
theorem RK.refl (gs pt B0 : Nat) (W : World) : RK gs pt B0 W W := ⟨Below.refl _ _, fun _ _ h _ _ _ => h⟩
theorem RK.trans {gs pt B0 : Nat} {A B C : World} (h : RK gs pt B0 A B) (k : RK gs pt B0 B C) : RK gs pt B0 A C :=
  ⟨h.bl.trans k.bl, fun i o h0 h1 h2 h3 => k.same i o (h.same i o h0 h1 h2 h3) h1 h2 h3⟩
theorem RK.below {gs pt B0 : Nat} {A B : World} (h : Below A.heap.size A B) (hB : B0 ≤ A.heap.size) : RK gs pt B0 A B :=
  ⟨h.mono hB, fun k o h0 _ _ _ => (h.block k (Array.getElem?_eq_some_iff.1 h0).1).trans h0⟩
theorem RK.blk {gs pt B0 : Nat} {A B : World} (h : RK gs pt B0 A B) {p : Nat} {cs : Array Value} {t : TypeId} (hp : Blk A p cs t) (h1 : p ≠ gs) (h2 : p ≠ pt) (ht : t ≠ 3) : Blk B p cs t :=
  h.same p _ hp h1 h2 (fun c f e => by injection e with _ e _; exact ht e)
theorem RK.drew2 {gs pt B0 : Nat} {A B : World} (h : RK gs pt B0 A.drew.drew B) : RK gs pt B0 A B := ⟨⟨h.bl.os, h.bl.tape, h.bl.output, h.bl.size, h.bl.block⟩, h.same⟩
theorem ArgP.below' {w w' : World} {xs : List Int} {a : Option Addr} {n c B0 : Nat} (h : ArgP w xs a n c) (hb : Below B0 w w') (hg : ∀ g off, a = some ⟨g, off, none⟩ → g < B0) : ArgP w' xs a n c :=
  ⟨h.len, h.max, fun k hk => by
    obtain ⟨g, off, e, hlt, hc⟩ := h.cells k hk
    exact ⟨g, off, e, Nat.lt_of_lt_of_le hlt hb.size, (World.cell?_of_block (w := w) (a := ⟨g, off + k, none⟩) (hb.block g (hg g off e))).trans hc⟩⟩
/-- The number of the pair to which a way leads. -/
def codeP (S n k : Nat) (c : Nat × Nat) : Nat := (stepP S n (k / n, k % n) c).1 * n + (stepP S n (k / n, k % n) c).2

end Go.Proofs.Ytdhbdkkchobinaa

namespace Go.Proofs.Ytdhbdkkchobinaa
open Go.RowKit
set_option linter.unusedVariables false

/-- What One notes of the ways on from pair k: to which pairs unlike cells lead. -/
structure FJ (W : World) (S n k : Nat) (T : List Int) (pf gf pa B0 j : Nat) (fl : List Bool) (an : Bool) : Prop where
  fb : Blk W pf #[.slice (some ⟨gf, 0, none⟩) (n * n) (n * n)] 91
  fc : Blk W gf (fl.map Value.bool).toArray 4
  ac : Blk W pa #[.bool an] 4
  ne : gf ≠ pa
  fl_ : fl.length = n * n
  sp : ∀ t, t < n * n → (fl.getD t false = true ↔ ∃ c : Nat × Nat, c.1 * S + c.2 < j ∧ OkWay S T (k / n, k % n) c ∧ c.1 ≠ c.2 ∧ codeP S n k c = t)
  sa : an = true ↔ ∃ c : Nat × Nat, c.1 * S + c.2 < j ∧ OkWay S T (k / n, k % n) c ∧ c.1 ≠ c.2
  b1 : B0 ≤ gf
  b2 : B0 ≤ pa
theorem FJ.next {W W' : World} {S n k : Nat} {T : List Int} {pf gf pa B0 j : Nat} {fl : List Bool} {an : Bool} (h : FJ W S n k T pf gf pa B0 j fl an) (b : Below W.heap.size W W') : FJ W' S n k T pf gf pa B0 j fl an :=
  ⟨h.fb.of (b.block _ h.fb.lt), h.fc.of (b.block _ h.fc.lt), h.ac.of (b.block _ h.ac.lt), h.ne, h.fl_, h.sp, h.sa, h.b1, h.b2⟩
theorem cell_code {S : Nat} {c d : Nat × Nat} (h1 : c.2 < S) (h2 : d.2 < S) (e : c.1 * S + c.2 = d.1 * S + d.2) : c = d := by
  obtain ⟨a, b⟩ := code_inj h1 h2 e
  exact Prod.ext a b
theorem FJ.skip {W : World} {S n k : Nat} {T : List Int} {pf gf pa B0 j : Nat} {fl : List Bool} {an : Bool} (h : FJ W S n k T pf gf pa B0 j fl an) (c : Nat × Nat) (hc : c.2 < S) (hj : j = c.1 * S + c.2) (hno : ¬ (OkWay S T (k / n, k % n) c ∧ c.1 ≠ c.2)) : FJ W S n k T pf gf pa B0 (j + 1) fl an := by
  refine ⟨h.fb, h.fc, h.ac, h.ne, h.fl_, fun t ht => (h.sp t ht).trans ⟨fun ⟨d, q1, q2, q3, q4⟩ => ⟨d, by omega, q2, q3, q4⟩, fun ⟨d, q1, q2, q3, q4⟩ => ⟨d, ?_, q2, q3, q4⟩⟩, h.sa.trans ⟨fun ⟨d, q1, q2, q3⟩ => ⟨d, by omega, q2, q3⟩, fun ⟨d, q1, q2, q3⟩ => ⟨d, ?_, q2, q3⟩⟩, h.b1, h.b2⟩
  · rcases Nat.lt_or_ge (d.1 * S + d.2) j with c' | c'
    · exact c'
    · exact absurd (show OkWay S T (k / n, k % n) c ∧ c.1 ≠ c.2 by rw [cell_code hc q2.2.1 (by omega : c.1 * S + c.2 = d.1 * S + d.2)]; exact ⟨q2, q3⟩) hno
  · rcases Nat.lt_or_ge (d.1 * S + d.2) j with c' | c'
    · exact c'
    · exact absurd (show OkWay S T (k / n, k % n) c ∧ c.1 ≠ c.2 by rw [cell_code hc q2.2.1 (by omega : c.1 * S + c.2 = d.1 * S + d.2)]; exact ⟨q2, q3⟩) hno
theorem codeP_lt {S n k : Nat} (hn : 0 < n) (c : Nat × Nat) : codeP S n k c < n * n := code_lt (stepP_lt hn _ c).1 (stepP_lt hn _ c).2
theorem getD_setB (l : List Bool) (i t : Nat) (h : i < l.length) : (l.set i true).getD t false = (decide (t = i) || l.getD t false) := by
  rw [List.getD_eq_getElem?_getD, List.getD_eq_getElem?_getD, List.getElem?_set]
  by_cases e : i = t
  · subst e; simp [h]
  · have e' : ¬ t = i := fun q => e q.symm
    simp [e, e']
theorem FJ.note {W W' : World} {S n k : Nat} {T : List Int} {pf gf pa B0 j : Nat} {fl : List Bool} {an : Bool} (h : FJ W S n k T pf gf pa B0 j fl an) (hn : 0 < n) (c : Nat × Nat) (hc : c.2 < S) (hj : j = c.1 * S + c.2) (hok : OkWay S T (k / n, k % n) c) (hne : c.1 ≠ c.2)
    (e : W' = (W.setCell ⟨gf, codeP S n k c, none⟩ (.bool true)).setCell ⟨pa, 0, none⟩ (.bool true)) : FJ W' S n k T pf gf pa B0 (j + 1) (fl.set (codeP S n k c) true) true ∧ RK gf pa B0 W W' := by
  subst e
  have tl := codeP_lt (S := S) (k := k) hn c
  have n1 : pf ≠ gf := by intro q; have h1 := h.fc; rw [← q] at h1; have := (show W.heap[pf]? = _ from h.fb).symm.trans h1; injection this with this; injection this with _ this _; revert this; decide
  have n2 : pf ≠ pa := by intro q; have h1 := h.ac; rw [← q] at h1; have := (show W.heap[pf]? = _ from h.fb).symm.trans h1; injection this with this; injection this with _ this _; revert this; decide
  refine ⟨⟨(h.fb.setOther n1 _).setOther n2 _, ?_, (h.ac.setOther (Ne.symm h.ne) _).set 0 _, h.ne, by rw [List.length_set]; exact h.fl_, fun t ht => ?_, ?_, h.b1, h.b2⟩, ⟨((Below.refl B0 W).setCell (p := ⟨gf, codeP S n k c, none⟩) h.b1 _).setCell (p := ⟨pa, 0, none⟩) h.b2 _, fun i o h0 h1 h2 _ => by rw [heap_setCell_other _ _ _ _ _ h2, heap_setCell_other _ _ _ _ _ h1]; exact h0⟩⟩
  · have := (h.fc.set (codeP S n k c) (.bool true)).setOther (i := 0) h.ne (.bool true)
    rw [show (fl.map Value.bool).toArray.setIfInBounds (codeP S n k c) (.bool true) = ((fl.set (codeP S n k c) true).map Value.bool).toArray by simp [List.map_set]] at this
    exact this
  · rw [getD_setB _ _ _ (by rw [h.fl_]; exact tl)]
    simp only [Bool.or_eq_true, decide_eq_true_eq]
    constructor
    · rintro (rfl | q)
      · exact ⟨c, by omega, hok, hne, rfl⟩
      · obtain ⟨d, q1, q2, q3, q4⟩ := (h.sp t ht).1 q
        exact ⟨d, by omega, q2, q3, q4⟩
    · rintro ⟨d, q1, q2, q3, q4⟩
      rcases Nat.lt_or_ge (d.1 * S + d.2) j with c' | c'
      · exact Or.inr ((h.sp t ht).2 ⟨d, c', q2, q3, q4⟩)
      · left; rw [← q4, cell_code hc q2.2.1 (by omega : c.1 * S + c.2 = d.1 * S + d.2)]
  · exact ⟨fun _ => ⟨c, by omega, hok, hne⟩, fun _ => rfl⟩

end Go.Proofs.Ytdhbdkkchobinaa

