/-
  What the last text of this claim leans on, part 42: Ok1.
-/
import Derived.Test.YtdhbdkkchobinaaDoorJd33
import Derived.Deep.RegionWith
namespace Go.Proofs.YtdhbdkkchobinaaDoor
open Go.RowKit
set_option linter.unusedVariables false

set_option maxRecDepth 100000 in
set_option maxHeartbeats 6400000 in
theorem refPairsP (S R n k : Nat) (T : List Int) (ta : Option Addr) (tn tc b1 gs pt B0 : Nat) (J : Nat → World → Prop) (w : World) (hL : LineOk S R T) (hT : ArgP w T ta tn tc) (hta : ∀ g off, ta = some ⟨g, off, none⟩ → g < B0) (hB : B0 ≤ w.heap.size) (hg1 : gs < w.heap.size) (hg2 : pt < w.heap.size) (hn : 0 < n) (hn16 : n ≤ 16) (htn : tn = n * S) (hk : k < n * n)
    (hJ : ∀ j W W', J j W → Below W.heap.size W W' → J j W')
    (hY : ∀ j W (c : Nat × Nat), c.1 < S → c.2 < S → j = c.1 * S + c.2 → J j W → OkWay S T (k / n, k % n) c → Calls Tryd.prog 139 #[.int .i64 ((codeP S n k c : Nat) : Int), .bool (decide (c.1 ≠ c.2)), .pointer (some ⟨b1, 0, none⟩)] W fun e W' => e = .returned (.tuple #[]) ∧ J (j + 1) W' ∧ RK gs pt B0 W W')
    (hN : ∀ j W (c : Nat × Nat), c.1 < S → c.2 < S → j = c.1 * S + c.2 → J j W → ¬ OkWay S T (k / n, k % n) c → J (j + 1) W) (h0 : J 0 w) :
    Calls Tryd.prog 138 #[.agg #[.int .i64 2, .int .i64 0, .int .i64 0, .int .i64 (S : Int), .int .i64 (R : Int), .slice ta tn tc, .string ⟨#[]⟩], .int .i64 (n : Int), .int .i64 (k : Int), .func (.func 139) #[] #[.pointer (some ⟨b1, 0, none⟩)]] w fun e w' => e = .returned (.tuple #[]) ∧ J (S * S) w' ∧ RK gs pt B0 w w' := by
  obtain ⟨w1, hw1⟩ : ∃ w1, w.alloc (.cells #[.int .i64 2, .int .i64 0, .int .i64 0, .int .i64 (S : Int), .int .i64 (R : Int), .slice ta tn tc, .string ⟨#[]⟩] 24) = w1 := ⟨_, rfl⟩
  have BB := hide' (show Below w.heap.size w w1 by rw [← hw1]; exact (Below.refl _ _).alloc (Nat.le_refl _) _)
  have BX := hide' (show Blk w1 w.heap.size #[.int .i64 2, .int .i64 0, .int .i64 0, .int .i64 (S : Int), .int .i64 (R : Int), .slice ta tn tc, .string ⟨#[]⟩] 24 by rw [← hw1]; exact Blk.new _ _ _)
  have AT := hide' hT
  have TA := hide' hta
  have HJ := hide' hJ
  have HY := hide' hY
  have HNN := hide' hN
  have J0 := hide' (hJ 0 w w1 h0 BB.out)
  have s2 := hL.s2
  have s4 := hL.s4
  have HTN := hide' htn
  have t64 : tn ≤ 64 := by rw [htn]; exact Nat.mul_le_mul hn16 s4
  have K0 := hide' (show RK gs pt B0 w w1 from RK.below BB.out hB)
  obtain ⟨p, hp⟩ : ∃ p, k / n = p := ⟨_, rfl⟩
  obtain ⟨q, hq⟩ : ∃ q, k % n = q := ⟨_, rfl⟩
  have pn : p < n := by rw [← hp]; exact Nat.div_lt_of_lt_mul hk
  have qn : q < n := by rw [← hq]; exact Nat.mod_lt _ hn
  have k256 : k ≤ 256 := by have := Nat.mul_le_mul hn16 hn16; omega
  have e1 : (k : Int).tdiv (n : Int) = (p : Int) := by rw [Int.tdiv_eq_ediv_of_nonneg (by omega), ← hp]; simp
  have e2 : (k : Int).tmod (n : Int) = (q : Int) := by rw [Int.tmod_eq_emod_of_nonneg (by omega), ← hq]; simp
  have n0 : ¬ (n : Int) = 0 := by omega
  have n0b : ((n : Int) == 0) = false := by simp [show ¬ n = 0 by omega]
  have n0c : (n : Int) ≠ 0 := n0
  have HP := hide' hp
  have HQ := hide' hq
  rw [hp, hq] at HY HNN
  have IX := hide' (fun (u c : Nat) (hu : u < n) (hc : c < S) => show u * S + c < tn by
    rw [HTN.out]
    have : (u + 1) * S ≤ n * S := Nat.mul_le_mul_right _ (by omega)
    rw [Nat.add_mul] at this
    omega)
  clear hL hT hta hJ hY hN h0 htn hp hq hk
  go_enter Tryd.func138, Tryd.ntmps138
  go_wp2
  clear hw1
  go_loopw [10] (fun av wr => ∃ a : Nat, av = .int .i64 (a : Int) ∧ a ≤ S ∧ Hid (J (a * S) wr ∧ RK gs pt B0 w wr ∧ Blk wr w.heap.size #[.int .i64 2, .int .i64 0, .int .i64 0, .int .i64 (S : Int), .int .i64 (R : Int), .slice ta tn tc, .string ⟨#[]⟩] 24)) (fun av _ => S - (intOf av).toNat)
  case atStart => exact ⟨0, rfl, by omega, hide' ⟨by rw [Nat.zero_mul]; exact J0.out, K0.out, BX.out⟩⟩
  case round =>
    clear J0 K0
    obtain ⟨a, rfl, ha, H1⟩ := hrel
    have x3 : wr.cell? ⟨w.heap.size, 3, none⟩ = some (.int .i64 (S : Int)) := H1.out.2.2.cell 3
    by_cases d : (a : Int) < (S : Int)
    · go_wp2
      clear x3
      go_loopw [11] (fun bv wr => ∃ b : Nat, bv = .int .i64 (b : Int) ∧ b ≤ S ∧ Hid (J (a * S + b) wr ∧ RK gs pt B0 w wr ∧ Blk wr w.heap.size #[.int .i64 2, .int .i64 0, .int .i64 0, .int .i64 (S : Int), .int .i64 (R : Int), .slice ta tn tc, .string ⟨#[]⟩] 24)) (fun bv _ => S - (intOf bv).toNat)
      case atStart => exact ⟨0, rfl, by omega, H1⟩
      case round =>
        clear H1
        obtain ⟨b, rfl, hb, H2⟩ := hrel
        have x3 : wr.cell? ⟨w.heap.size, 3, none⟩ = some (.int .i64 (S : Int)) := H2.out.2.2.cell 3
        have x5 : wr.cell? ⟨w.heap.size, 5, none⟩ = some (.slice ta tn tc) := H2.out.2.2.cell 5
        by_cases d2 : (b : Int) < (S : Int)
        · have aS : a < S := by omega
          have bS : b < S := by omega
          obtain ⟨ps, hps⟩ : ∃ y, p * S = y := ⟨_, rfl⟩
          obtain ⟨qs, hqs⟩ : ∃ y, q * S = y := ⟨_, rfl⟩
          obtain ⟨v, hv⟩ : ∃ y, p * S + a = y := ⟨_, rfl⟩
          obtain ⟨u, hu⟩ : ∃ y, q * S + b = y := ⟨_, rfl⟩
          have vt : v < tn := by rw [← hv]; exact IX.out p a pn aS
          have ut : u < tn := by rw [← hu]; exact IX.out q b qn bS
          have m1 : (p : Int) * (S : Int) = (ps : Int) := by rw [← hps]; simp
          have m2 : (q : Int) * (S : Int) = (qs : Int) := by rw [← hqs]; simp
          have m3 : (ps : Int) + (a : Int) = (v : Int) := by omega
          have m4 : (qs : Int) + (b : Int) = (u : Int) := by omega
          have psl : ps ≤ 64 := by omega
          have qsl : qs ≤ 64 := by omega
          obtain ⟨gT, off, rfl, hc1⟩ := (AT.out.below' H2.out.2.1.bl TA.out).at (k := v) vt
          obtain ⟨gT', off', eT, hc2⟩ := (AT.out.below' H2.out.2.1.bl TA.out).at (k := u) ut
          injection eT with eT
          injection eT with eT1 eT2
          subst eT1 eT2
          obtain ⟨x, hx⟩ : ∃ x, T.getD v 0 = x := ⟨_, rfl⟩
          obtain ⟨y, hy⟩ : ∃ y, T.getD u 0 = y := ⟨_, rfl⟩
          rw [hx] at hc1
          rw [hy] at hc2
          have JX := hide' H2.out.1
          have KX := hide' H2.out.2
          by_cases dd : x = y
          · have OK := hide' (show OkWay S T (p, q) (a, b) from ⟨aS, bS, by show T.getD (p * S + a) 0 = T.getD (q * S + b) 0; rw [hv, hu, hx, hy]; exact dd⟩)
            obtain ⟨vn, hvn⟩ : ∃ z, v % n = z := ⟨_, rfl⟩
            obtain ⟨un, hun⟩ : ∃ z, u % n = z := ⟨_, rfl⟩
            have f1 : (v : Int).tmod (n : Int) = (vn : Int) := by rw [Int.tmod_eq_emod_of_nonneg (by omega), ← hvn]; simp
            have f2 : (u : Int).tmod (n : Int) = (un : Int) := by rw [Int.tmod_eq_emod_of_nonneg (by omega), ← hun]; simp
            have vnl : vn < n := by rw [← hvn]; exact Nat.mod_lt _ hn
            have unl : un < n := by rw [← hun]; exact Nat.mod_lt _ hn
            obtain ⟨vm, hvm⟩ : ∃ z, vn * n = z := ⟨_, rfl⟩
            have f3 : (vn : Int) * (n : Int) = (vm : Int) := by rw [← hvm]; simp
            have vml : vm ≤ 256 := by rw [← hvm]; exact Nat.mul_le_mul (show vn ≤ 16 by omega) hn16
            obtain ⟨tw, htw⟩ : ∃ z, vm + un = z := ⟨_, rfl⟩
            have f4 : (vm : Int) + (un : Int) = (tw : Int) := by omega
            have w1' : IntKind.i64.wrap (vm : Int) = (vm : Int) := wrap_natL vm (by omega)
            have w2' : IntKind.i64.wrap (tw : Int) = (tw : Int) := wrap_natL tw (by omega)
            have CO := hide' (show codeP S n k (a, b) = tw by unfold codeP stepP; simp only; rw [HP.out, HQ.out, hv, hu, hvn, hun, hvm, htw])
            have YC := hide' (fun (W : World) (h : J (a * S + b) W) => HY.out (a * S + b) W (a, b) aS bS rfl h OK.out)
            rw [CO.out] at YC
            obtain ⟨β, hβ⟩ : ∃ β, decide (a ≠ b) = β := ⟨_, rfl⟩
            have nb : ((a : Int) != (b : Int)) = β := by
              rw [← hβ]
              by_cases c : a = b
              · simp [c]
              · simp [c, show ¬ (a : Int) = (b : Int) by omega]
            have YD := hide' (fun (W : World) (h : J (a * S + b) W) => show Calls Tryd.prog 139 #[.int .i64 (tw : Int), .bool β, .pointer (some ⟨b1, 0, none⟩)] W fun e W' => e = .returned (.tuple #[]) ∧ J (a * S + b + 1) W' ∧ RK gs pt B0 W W' by rw [← hβ]; exact YC.out W h)
            have ee : (x == y) = true := by simp [dd]
            have JD := hide' (HJ.out _ _ wr.drew.drew JX.out ((Below.refl _ wr).drew.drew))
            clear hx hy dd hps hqs hv hu hvn hun hvm htw H2 YC hβ
            go_wp2
            go_region
            go_wp2
            go_region_with
              ((refine (YD.out _ JD.out).mono ?_; rintro e W4 ⟨rfl, j4, k4⟩; have J4 := hide' j4; have K4 := hide' (KX.out.1.trans (RK.drew2 k4)); have X4 := hide' ((RK.drew2 k4).blk KX.out.2 (by omega) (by omega) (by decide)); clear j4 k4))
            all_goals
              go_wp2
              exact ⟨⟨b + 1, by go_num, by omega, hide' ⟨J4.out, K4.out, X4.out⟩⟩, by simp [intOf]; omega⟩
          · have NO := hide' (show ¬ OkWay S T (p, q) (a, b) from fun h => dd (by have h3 : T.getD (p * S + a) 0 = T.getD (q * S + b) 0 := h.2.2; rw [hv, hu, hx, hy] at h3; exact h3))
            have ee : (x == y) = false := by simp [dd]
            have HN2 := hide' (And.intro (HJ.out _ _ wr.drew (HNN.out (a * S + b) wr (a, b) aS bS rfl JX.out NO.out) ((Below.refl _ wr).drew)) (And.intro (show RK gs pt B0 w wr.drew from ⟨KX.out.1.bl.drew, KX.out.1.same⟩) (Blk.of (w' := wr.drew) KX.out.2 rfl)))
            clear hx hy dd hps hqs hv hu H2
            go_wp2
            go_region
            go_wp2
            exact ⟨⟨b + 1, by go_num, by omega, HN2⟩, by simp [intOf]; omega⟩
        · have H3 := hide' (show J ((a + 1) * S) wr ∧ RK gs pt B0 w wr ∧ Blk wr w.heap.size #[.int .i64 2, .int .i64 0, .int .i64 0, .int .i64 (S : Int), .int .i64 (R : Int), .slice ta tn tc, .string ⟨#[]⟩] 24 by have := H2.out; rw [show a * S + b = (a + 1) * S by rw [Nat.add_mul]; omega] at this; exact this)
          clear H2
          go_wp2
          exact ⟨⟨a + 1, by go_num, by omega, H3⟩, by simp [intOf]; omega⟩
    · have H2 := hide' (show J (S * S) wr ∧ RK gs pt B0 w wr by have := H1.out; rw [show a = S by omega] at this; exact ⟨this.1, this.2.1⟩)
      clear H1
      go_wp2
      go_end0
      exact ⟨rfl, H2.out.1, H2.out.2⟩

theorem diag_div {n p : Nat} (hp : p < n) : (p * n + p) / n = p := by rw [Nat.mul_comm, Nat.mul_add_div (by omega), Nat.div_eq_of_lt hp]; rfl
theorem diag_mod {n p : Nat} (hp : p < n) : (p * n + p) % n = p := by rw [Nat.mul_comm, Nat.mul_add_mod, Nat.mod_eq_of_lt hp]
/-- To which pairs unlike cells lead from alike places, so far. -/
def GotTo (S n : Nat) (T : List Int) (p j t : Nat) : Prop := ∃ (p' : Nat) (c : Nat × Nat), (p' < p ∨ (p' = p ∧ c.1 * S + c.2 < j)) ∧ OkWay S T (p', p') c ∧ c.1 ≠ c.2 ∧ codeP S n (p' * n + p') c = t
structure GJ (W : World) (S n p : Nat) (T : List Int) (pf gf B0 j : Nat) (fl : List Bool) : Prop where
  fb : Blk W pf #[.slice (some ⟨gf, 0, none⟩) (n * n) (n * n)] 155
  fc : Blk W gf (fl.map Value.bool).toArray 4
  fl_ : fl.length = n * n
  sp : ∀ t, t < n * n → (fl.getD t false = true ↔ GotTo S n T p j t)
  b1 : B0 ≤ gf
theorem GJ.next {W W' : World} {S n p : Nat} {T : List Int} {pf gf B0 j : Nat} {fl : List Bool} (h : GJ W S n p T pf gf B0 j fl) (b : Below W.heap.size W W') : GJ W' S n p T pf gf B0 j fl :=
  ⟨h.fb.of (b.block _ h.fb.lt), h.fc.of (b.block _ h.fc.lt), h.fl_, h.sp, h.b1⟩
theorem GJ.skip {W : World} {S n p : Nat} {T : List Int} {pf gf B0 j : Nat} {fl : List Bool} (h : GJ W S n p T pf gf B0 j fl) (c : Nat × Nat) (hc : c.2 < S) (hj : j = c.1 * S + c.2) (hno : ¬ (OkWay S T (p, p) c ∧ c.1 ≠ c.2)) : GJ W S n p T pf gf B0 (j + 1) fl := by
  refine ⟨h.fb, h.fc, h.fl_, fun t ht => (h.sp t ht).trans ⟨fun ⟨p', d, q1, q2, q3, q4⟩ => ⟨p', d, by omega, q2, q3, q4⟩, fun ⟨p', d, q1, q2, q3, q4⟩ => ⟨p', d, ?_, q2, q3, q4⟩⟩, h.b1⟩
  rcases q1 with q1 | ⟨rfl, q1⟩
  · exact Or.inl q1
  · rcases Nat.lt_or_ge (d.1 * S + d.2) j with c' | c'
    · exact Or.inr ⟨rfl, c'⟩
    · exact absurd (show OkWay S T (p', p') c ∧ c.1 ≠ c.2 by rw [cell_code hc q2.2.1 (by omega : c.1 * S + c.2 = d.1 * S + d.2)]; exact ⟨q2, q3⟩) hno
theorem GJ.note {W W' : World} {S n p : Nat} {T : List Int} {pf gf B0 j : Nat} {fl : List Bool} (h : GJ W S n p T pf gf B0 j fl) (hn : 0 < n) (c : Nat × Nat) (hc : c.2 < S) (hj : j = c.1 * S + c.2) (hok : OkWay S T (p, p) c) (hne : c.1 ≠ c.2)
    (e : W' = W.setCell ⟨gf, codeP S n (p * n + p) c, none⟩ (.bool true)) : GJ W' S n p T pf gf B0 (j + 1) (fl.set (codeP S n (p * n + p) c) true) ∧ RK gf gf B0 W W' := by
  subst e
  have tl := codeP_lt (S := S) (k := p * n + p) hn c
  have n1 : pf ≠ gf := by intro q; have h1 := h.fc; rw [← q] at h1; have := (show W.heap[pf]? = _ from h.fb).symm.trans h1; injection this with this; injection this with _ this _; revert this; decide
  refine ⟨⟨h.fb.setOther n1 _, ?_, by rw [List.length_set]; exact h.fl_, fun t ht => ?_, h.b1⟩, ⟨(Below.refl B0 W).setCell (p := ⟨gf, codeP S n (p * n + p) c, none⟩) h.b1 _, fun i o h0 h1 h2 _ => by rw [heap_setCell_other _ _ _ _ _ h2]; exact h0⟩⟩
  · have := h.fc.set (codeP S n (p * n + p) c) (.bool true)
    rw [show (fl.map Value.bool).toArray.setIfInBounds (codeP S n (p * n + p) c) (.bool true) = ((fl.set (codeP S n (p * n + p) c) true).map Value.bool).toArray by simp [List.map_set]] at this
    exact this
  · rw [getD_setB _ _ _ (by rw [h.fl_]; exact tl)]
    simp only [Bool.or_eq_true, decide_eq_true_eq]
    constructor
    · rintro (rfl | q)
      · exact ⟨p, c, Or.inr ⟨rfl, by omega⟩, hok, hne, rfl⟩
      · obtain ⟨p', d, q1, q2, q3, q4⟩ := (h.sp t ht).1 q
        exact ⟨p', d, by omega, q2, q3, q4⟩
    · rintro ⟨p', d, q1, q2, q3, q4⟩
      rcases q1 with q1 | ⟨rfl, q1⟩
      · exact Or.inr ((h.sp t ht).2 ⟨p', d, Or.inl q1, q2, q3, q4⟩)
      · rcases Nat.lt_or_ge (d.1 * S + d.2) j with c' | c'
        · exact Or.inr ((h.sp t ht).2 ⟨p', d, Or.inr ⟨rfl, c'⟩, q2, q3, q4⟩)
        · left; rw [← q4, cell_code hc q2.2.1 (by omega : c.1 * S + c.2 = d.1 * S + d.2)]

set_option maxRecDepth 100000 in
set_option maxHeartbeats 12800000 in
theorem pre1_any (S n p : Nat) (T : List Int) (pf gf B0 j : Nat) (fl : List Bool) (W : World) (h : GJ W S n p T pf gf B0 j fl) (hn : 0 < n) (hn16 : n ≤ 16) (c : Nat × Nat) (hc : c.2 < S) (hj : j = c.1 * S + c.2) (hok : OkWay S T (p, p) c) :
    Calls Tryd.prog 139 #[.int .i64 ((codeP S n (p * n + p) c : Nat) : Int), .bool (decide (c.1 ≠ c.2)), .pointer (some ⟨pf, 0, none⟩)] W fun e W' => e = .returned (.tuple #[]) ∧ (∃ fl', GJ W' S n p T pf gf B0 (j + 1) fl') ∧ RK gf gf B0 W W' := by
  by_cases d : c.1 ≠ c.2
  · have NT := hide' (h.note hn c hc hj hok d rfl)
    have tl := codeP_lt (S := S) (k := p * n + p) hn c
    have n256 : n * n ≤ 256 := Nat.mul_le_mul hn16 hn16
    obtain ⟨N, hN⟩ : ∃ N, n * n = N := ⟨_, rfl⟩
    have f0 : W.cell? ⟨pf, 0, none⟩ = some (.slice (some ⟨gf, 0, none⟩) N N) := by rw [← hN]; exact h.fb.cell 0
    have bk := bools_at fl (codeP S n (p * n + p) c) (by rw [h.fl_]; exact tl)
    have ck : W.cell? ⟨gf, codeP S n (p * n + p) c, none⟩ = some (.bool (fl.getD (codeP S n (p * n + p) c) false)) := by rw [h.fc.cell]; exact bk
    have fz := h.fc.frozen (codeP S n (p * n + p) c)
    have dd : decide (c.1 ≠ c.2) = true := by simp [d]
    rw [dd]
    generalize fl.getD (codeP S n (p * n + p) c) false = β0 at ck
    obtain ⟨t, ht⟩ : ∃ t, codeP S n (p * n + p) c = t := ⟨_, rfl⟩
    rw [ht] at NT tl ck fz ⊢
    rw [hN] at tl n256
    clear dd d h hok hj hc bk hN ht
    go_enter Tryd.func139, Tryd.ntmps139
    go_wp2
    go_end0
    exact ⟨rfl, ⟨_, NT.out.1⟩, NT.out.2⟩
  · have SK := hide' (h.skip c hc hj (fun q => d q.2))
    have dd : decide (c.1 ≠ c.2) = false := by simpa using d
    rw [dd]
    clear dd d h hok hj hc
    go_enter Tryd.func139, Tryd.ntmps139
    go_wp2
    go_end0
    exact ⟨rfl, ⟨fl, SK.out⟩, RK.refl _ _ _ _⟩
theorem pairs_pre {W : World} {S R n p : Nat} {T : List Int} {ta : Option Addr} {tn tc pf gf B0 : Nat} {fl : List Bool} (hL : LineOk S R T) (hT : ArgP W T ta tn tc) (hta : ∀ g off, ta = some ⟨g, off, none⟩ → g < B0) (hB : B0 ≤ W.heap.size) (hn : 0 < n) (hn16 : n ≤ 16) (htn : tn = n * S) (hp : p < n) (h0 : GJ W S n p T pf gf B0 0 fl) :
    Calls Tryd.prog 138 #[.agg #[.int .i64 2, .int .i64 0, .int .i64 0, .int .i64 (S : Int), .int .i64 (R : Int), .slice ta tn tc, .string ⟨#[]⟩], .int .i64 (n : Int), .int .i64 ((p * n + p : Nat) : Int), .func (.func 139) #[] #[.pointer (some ⟨pf, 0, none⟩)]] W fun e W' => e = .returned (.tuple #[]) ∧ (∃ fl, GJ W' S n p T pf gf B0 (S * S) fl) ∧ RK gf gf B0 W W' := by
  have dv := diag_div hp
  have md := diag_mod hp
  refine (refPairsP S R n (p * n + p) T ta tn tc pf gf gf B0 (fun j V => ∃ fl, GJ V S n p T pf gf B0 j fl) W hL hT hta hB h0.fc.lt h0.fc.lt hn hn16 htn (code_lt hp hp) ?_ ?_ ?_ ⟨_, h0⟩)
  · rintro j V V' ⟨fl, h⟩ hb
    exact ⟨_, h.next hb⟩
  · rintro j V c hc1 hc2 hj ⟨fl, h⟩ hok
    rw [dv, md] at hok
    exact pre1_any S n p T pf gf B0 j fl V h hn hn16 c hc2 hj hok
  · rintro j V c hc1 hc2 hj ⟨fl, h⟩ hno
    rw [dv, md] at hno
    exact ⟨_, h.skip c hc2 hj fun q => hno q.1⟩
/-- From alike places, by unlike cells, back to alike places. -/
def TwinAt (S n : Nat) (T : List Int) : Prop := ∃ (p q : Nat) (c : Nat × Nat) (cs : List (Nat × Nat)), p < n ∧ q < n ∧ OkWay S T (p, p) c ∧ c.1 ≠ c.2 ∧ okP S n T (stepP S n (p, p) c) cs ∧ endP S n (stepP S n (p, p) c) cs = (q, q)
def PreRefPost (S n : Nat) (T : List Int) (w : World) (e : Ending) (w' : World) : Prop :=
  ((e = .returned (.bool false) ∧ TwinAt S n T) ∨ (e = .returned (.bool true) ∧ ¬ TwinAt S n T)) ∧ Below w.heap.size w w'
theorem GJ.over {W : World} {S n p : Nat} {T : List Int} {pf gf B0 : Nat} {fl : List Bool} (h : GJ W S n p T pf gf B0 (S * S) fl) : GJ W S n (p + 1) T pf gf B0 0 fl := by
  refine ⟨h.fb, h.fc, h.fl_, fun t ht => (h.sp t ht).trans ⟨fun ⟨p', d, q1, q2, q3, q4⟩ => ⟨p', d, by omega, q2, q3, q4⟩, fun ⟨p', d, q1, q2, q3, q4⟩ => ⟨p', d, ?_, q2, q3, q4⟩⟩, h.b1⟩
  have : (d.1 + 1) * S ≤ S * S := Nat.mul_le_mul_right _ q2.1
  rw [Nat.add_mul] at this
  have := q2.2.1
  omega
/-- What is reached, told by the ways. -/
theorem reached_twin {S n : Nat} {T : List Int} {fl il : List Bool} (hn : 0 < n) (hs : ∀ t, t < n * n → (fl.getD t false = true ↔ GotTo S n T n 0 t)) (hf : FromIn fl il (n * n)) (hc : ∀ k, k < n * n → il.getD k false = true → ∀ c, OkWay S T (unP n k) c → il.getD (codeP S n k c) false = true)
    (ho : ∀ k, k < n * n → il.getD k false = true → ∃ j cs, j < n * n ∧ fl.getD j false = true ∧ okP S n T (unP n j) cs ∧ coP n (endP S n (unP n j) cs) = k) : TwinAt S n T ↔ ∃ q, q < n ∧ il.getD (q * n + q) false = true := by
  constructor
  · rintro ⟨p, q, c, cs, hp, hq, h1, h2, h3, h4⟩
    refine ⟨q, hq, ?_⟩
    have e1 : unP n (p * n + p) = (p, p) := by unfold unP; rw [diag_div hp, diag_mod hp]
    have f1 := (hs (codeP S n (p * n + p) c) (codeP_lt hn c)).2 ⟨p, c, Or.inl hp, h1, h2, rfl⟩
    have f2 := closed_path hn hc cs _ (codeP_lt hn c) (hf _ (codeP_lt hn c) f1) (by rw [codeP_un hn, e1]; exact h3)
    rw [codeP_un hn, e1, h4] at f2
    exact f2
  · rintro ⟨q, hq, h1⟩
    obtain ⟨j, cs, q1, q2, q3, q4⟩ := ho _ (code_lt hq hq) h1
    obtain ⟨p, c, r1, r2, r3, r4⟩ := (hs j q1).1 q2
    have hp : p < n := by omega
    have e1 : unP n (p * n + p) = (p, p) := by unfold unP; rw [diag_div hp, diag_mod hp]
    rw [← r4, codeP_un hn, e1] at q3 q4
    refine ⟨p, q, c, cs, hp, hq, r2, r3, q3, ?_⟩
    have e := congrArg (unP n) q4
    rw [un_co (endP_lt hn cs _ (stepP_lt hn _ c).1 (stepP_lt hn _ c).2).2] at e
    rw [e]
    unfold unP
    rw [diag_div hq, diag_mod hq]
end Go.Proofs.YtdhbdkkchobinaaDoor

