/-
  What the last text of this claim leans on, part 30: Of1.
-/
import Derived.Test.YtdhbdkkchobinaaDoorJd29
import Derived.Deep.RegionWith
namespace Go.Proofs.YtdhbdkkchobinaaDoor
open Go.RowKit
set_option linter.unusedVariables false

/-- What may turn: two blocks, rows of numbers; all below B0 lies as it lay. -/
structure RK (gs pt B0 : Nat) (W W' : World) : Prop where
  bl : Below B0 W W'
  same : ∀ k o, W.heap[k]? = some o → k ≠ gs → k ≠ pt → (∀ c f, o ≠ .cells c 3 f) → W'.heap[k]? = some o
theorem RK.refl (gs pt B0 : Nat) (W : World) : RK gs pt B0 W W := ⟨Below.refl _ _, fun _ _ h _ _ _ => h⟩
theorem RK.trans {gs pt B0 : Nat} {A B C : World} (h : RK gs pt B0 A B) (k : RK gs pt B0 B C) : RK gs pt B0 A C :=
  ⟨h.bl.trans k.bl, fun i o h0 h1 h2 h3 => k.same i o (h.same i o h0 h1 h2 h3) h1 h2 h3⟩
theorem RK.below {gs pt B0 : Nat} {A B : World} (h : Below A.heap.size A B) (hB : B0 ≤ A.heap.size) : RK gs pt B0 A B :=
  ⟨h.mono hB, fun k o h0 _ _ _ => (h.block k (Array.getElem?_eq_some_iff.1 h0).1).trans h0⟩
theorem RK.blk {gs pt B0 : Nat} {A B : World} (h : RK gs pt B0 A B) {p : Nat} {cs : Array Value} {t : TypeId} (hp : Blk A p cs t) (h1 : p ≠ gs) (h2 : p ≠ pt) (ht : t ≠ 3) : Blk B p cs t :=
  h.same p _ hp h1 h2 (fun c f e => by injection e with _ e _; exact ht e)
theorem RK.drew2 {gs pt B0 : Nat} {A B : World} (h : RK gs pt B0 A.drew.drew B) : RK gs pt B0 A B := ⟨⟨h.bl.os, h.bl.tape, h.bl.output, h.bl.size, h.bl.block⟩, h.same⟩
theorem ArgP.below' {w w' : World} {xs : List Int} {a : Option Addr} {n c B0 : Nat} (h : ArgP w xs a n c) (hb : Below B0 w w') (hg : ∀ g off, a = some ⟨g, off, none⟩ → g < B0) : ArgP w' xs a n c :=
  ⟨h.len, h.max, fun k hk => by
    obtain ⟨g, off, e, hlt, hc⟩ := h.cells k hk
    exact ⟨g, off, e, Nat.lt_of_lt_of_le hlt hb.size, (World.cell?_of_block (w := w) (a := ⟨g, off + k, none⟩) (hb.block g (hg g off e))).trans hc⟩⟩
/-- The number of the pair to which a way leads. -/
def codeP (S n k : Nat) (c : Nat × Nat) : Nat := (stepP S n (k / n, k % n) c).1 * n + (stepP S n (k / n, k % n) c).2

set_option maxRecDepth 100000 in
set_option maxHeartbeats 6400000 in
theorem refPairsO (S R n k : Nat) (T : List Int) (ta : Option Addr) (tn tc b1 b2 gs pt B0 : Nat) (J : Nat → World → Prop) (w : World) (hL : LineOk S R T) (hT : ArgP w T ta tn tc) (hta : ∀ g off, ta = some ⟨g, off, none⟩ → g < B0) (hB : B0 ≤ w.heap.size) (hg1 : gs < w.heap.size) (hg2 : pt < w.heap.size) (hn : 0 < n) (hn16 : n ≤ 16) (htn : tn = n * S) (hk : k < n * n)
    (hJ : ∀ j W W', J j W → Below W.heap.size W W' → J j W')
    (hY : ∀ j W (c : Nat × Nat), c.1 < S → c.2 < S → j = c.1 * S + c.2 → J j W → OkWay S T (k / n, k % n) c → Calls Tryd.prog 141 #[.int .i64 ((codeP S n k c : Nat) : Int), .bool (decide (c.1 ≠ c.2)), .pointer (some ⟨b1, 0, none⟩), .pointer (some ⟨b2, 0, none⟩)] W fun e W' => e = .returned (.tuple #[]) ∧ J (j + 1) W' ∧ RK gs pt B0 W W')
    (hN : ∀ j W (c : Nat × Nat), c.1 < S → c.2 < S → j = c.1 * S + c.2 → J j W → ¬ OkWay S T (k / n, k % n) c → J (j + 1) W) (h0 : J 0 w) :
    Calls Tryd.prog 138 #[.agg #[.int .i64 2, .int .i64 0, .int .i64 0, .int .i64 (S : Int), .int .i64 (R : Int), .slice ta tn tc, .string ⟨#[]⟩], .int .i64 (n : Int), .int .i64 (k : Int), .func (.func 141) #[] #[.pointer (some ⟨b1, 0, none⟩), .pointer (some ⟨b2, 0, none⟩)]] w fun e w' => e = .returned (.tuple #[]) ∧ J (S * S) w' ∧ RK gs pt B0 w w' := by
  obtain ⟨w1, hw1⟩ : ∃ w1, w.alloc (.cells #[.int .i64 2, .int .i64 0, .int .i64 0, .int .i64 (S : Int), .int .i64 (R : Int), .slice ta tn tc, .string ⟨#[]⟩] 24) = w1 := ⟨_, rfl⟩
  have BB := hide' (show Below w.heap.size w w1 by rw [← hw1]; exact (Below.refl _ _).alloc (Nat.le_refl _) _)
  have BX := hide' (show Blk w1 w.heap.size #[.int .i64 2, .int .i64 0, .int .i64 0, .int .i64 (S : Int), .int .i64 (R : Int), .slice ta tn tc, .string ⟨#[]⟩] 24 by rw [← hw1]; exact Blk.new _ _ _)
  have AT := hide' hT
  have TA := hide' hta
  have HJ := hide' hJ
  have HY := hide' hY
  have HNN := hide' hN
  have J0 := hide' (hJ 0 w w1 h0 BB.out)
  have s2 := hL.s2
  have s4 := hL.s4
  have HTN := hide' htn
  have t64 : tn ≤ 64 := by rw [htn]; exact Nat.mul_le_mul hn16 s4
  have K0 := hide' (show RK gs pt B0 w w1 from RK.below BB.out hB)
  obtain ⟨p, hp⟩ : ∃ p, k / n = p := ⟨_, rfl⟩
  obtain ⟨q, hq⟩ : ∃ q, k % n = q := ⟨_, rfl⟩
  have pn : p < n := by rw [← hp]; exact Nat.div_lt_of_lt_mul hk
  have qn : q < n := by rw [← hq]; exact Nat.mod_lt _ hn
  have k256 : k ≤ 256 := by have := Nat.mul_le_mul hn16 hn16; omega
  have e1 : (k : Int).tdiv (n : Int) = (p : Int) := by rw [Int.tdiv_eq_ediv_of_nonneg (by omega), ← hp]; simp
  have e2 : (k : Int).tmod (n : Int) = (q : Int) := by rw [Int.tmod_eq_emod_of_nonneg (by omega), ← hq]; simp
  have n0 : ¬ (n : Int) = 0 := by omega
  have n0b : ((n : Int) == 0) = false := by simp [show ¬ n = 0 by omega]
  have n0c : (n : Int) ≠ 0 := n0
  have HP := hide' hp
  have HQ := hide' hq
  rw [hp, hq] at HY HNN
  have IX := hide' (fun (u c : Nat) (hu : u < n) (hc : c < S) => show u * S + c < tn by
    rw [HTN.out]
    have : (u + 1) * S ≤ n * S := Nat.mul_le_mul_right _ (by omega)
    rw [Nat.add_mul] at this
    omega)
  clear hL hT hta hJ hY hN h0 htn hp hq hk
  go_enter Tryd.func138, Tryd.ntmps138
  go_wp2
  clear hw1
  go_loopw [10] (fun av wr => ∃ a : Nat, av = .int .i64 (a : Int) ∧ a ≤ S ∧ Hid (J (a * S) wr ∧ RK gs pt B0 w wr ∧ Blk wr w.heap.size #[.int .i64 2, .int .i64 0, .int .i64 0, .int .i64 (S : Int), .int .i64 (R : Int), .slice ta tn tc, .string ⟨#[]⟩] 24)) (fun av _ => S - (intOf av).toNat)
  case atStart => exact ⟨0, rfl, by omega, hide' ⟨by rw [Nat.zero_mul]; exact J0.out, K0.out, BX.out⟩⟩
  case round =>
    clear J0 K0
    obtain ⟨a, rfl, ha, H1⟩ := hrel
    have x3 : wr.cell? ⟨w.heap.size, 3, none⟩ = some (.int .i64 (S : Int)) := H1.out.2.2.cell 3
    by_cases d : (a : Int) < (S : Int)
    · go_wp2
      clear x3
      go_loopw [11] (fun bv wr => ∃ b : Nat, bv = .int .i64 (b : Int) ∧ b ≤ S ∧ Hid (J (a * S + b) wr ∧ RK gs pt B0 w wr ∧ Blk wr w.heap.size #[.int .i64 2, .int .i64 0, .int .i64 0, .int .i64 (S : Int), .int .i64 (R : Int), .slice ta tn tc, .string ⟨#[]⟩] 24)) (fun bv _ => S - (intOf bv).toNat)
      case atStart => exact ⟨0, rfl, by omega, H1⟩
      case round =>
        clear H1
        obtain ⟨b, rfl, hb, H2⟩ := hrel
        have x3 : wr.cell? ⟨w.heap.size, 3, none⟩ = some (.int .i64 (S : Int)) := H2.out.2.2.cell 3
        have x5 : wr.cell? ⟨w.heap.size, 5, none⟩ = some (.slice ta tn tc) := H2.out.2.2.cell 5
        by_cases d2 : (b : Int) < (S : Int)
        · have aS : a < S := by omega
          have bS : b < S := by omega
          obtain ⟨ps, hps⟩ : ∃ y, p * S = y := ⟨_, rfl⟩
          obtain ⟨qs, hqs⟩ : ∃ y, q * S = y := ⟨_, rfl⟩
          obtain ⟨v, hv⟩ : ∃ y, p * S + a = y := ⟨_, rfl⟩
          obtain ⟨u, hu⟩ : ∃ y, q * S + b = y := ⟨_, rfl⟩
          have vt : v < tn := by rw [← hv]; exact IX.out p a pn aS
          have ut : u < tn := by rw [← hu]; exact IX.out q b qn bS
          have m1 : (p : Int) * (S : Int) = (ps : Int) := by rw [← hps]; simp
          have m2 : (q : Int) * (S : Int) = (qs : Int) := by rw [← hqs]; simp
          have m3 : (ps : Int) + (a : Int) = (v : Int) := by omega
          have m4 : (qs : Int) + (b : Int) = (u : Int) := by omega
          have psl : ps ≤ 64 := by omega
          have qsl : qs ≤ 64 := by omega
          obtain ⟨gT, off, rfl, hc1⟩ := (AT.out.below' H2.out.2.1.bl TA.out).at (k := v) vt
          obtain ⟨gT', off', eT, hc2⟩ := (AT.out.below' H2.out.2.1.bl TA.out).at (k := u) ut
          injection eT with eT
          injection eT with eT1 eT2
          subst eT1 eT2
          obtain ⟨x, hx⟩ : ∃ x, T.getD v 0 = x := ⟨_, rfl⟩
          obtain ⟨y, hy⟩ : ∃ y, T.getD u 0 = y := ⟨_, rfl⟩
          rw [hx] at hc1
          rw [hy] at hc2
          have JX := hide' H2.out.1
          have KX := hide' H2.out.2
          by_cases dd : x = y
          · have OK := hide' (show OkWay S T (p, q) (a, b) from ⟨aS, bS, by show T.getD (p * S + a) 0 = T.getD (q * S + b) 0; rw [hv, hu, hx, hy]; exact dd⟩)
            obtain ⟨vn, hvn⟩ : ∃ z, v % n = z := ⟨_, rfl⟩
            obtain ⟨un, hun⟩ : ∃ z, u % n = z := ⟨_, rfl⟩
            have f1 : (v : Int).tmod (n : Int) = (vn : Int) := by rw [Int.tmod_eq_emod_of_nonneg (by omega), ← hvn]; simp
            have f2 : (u : Int).tmod (n : Int) = (un : Int) := by rw [Int.tmod_eq_emod_of_nonneg (by omega), ← hun]; simp
            have vnl : vn < n := by rw [← hvn]; exact Nat.mod_lt _ hn
            have unl : un < n := by rw [← hun]; exact Nat.mod_lt _ hn
            obtain ⟨vm, hvm⟩ : ∃ z, vn * n = z := ⟨_, rfl⟩
            have f3 : (vn : Int) * (n : Int) = (vm : Int) := by rw [← hvm]; simp
            have vml : vm ≤ 256 := by rw [← hvm]; exact Nat.mul_le_mul (show vn ≤ 16 by omega) hn16
            obtain ⟨tw, htw⟩ : ∃ z, vm + un = z := ⟨_, rfl⟩
            have f4 : (vm : Int) + (un : Int) = (tw : Int) := by omega
            have w1' : IntKind.i64.wrap (vm : Int) = (vm : Int) := wrap_natL vm (by omega)
            have w2' : IntKind.i64.wrap (tw : Int) = (tw : Int) := wrap_natL tw (by omega)
            have CO := hide' (show codeP S n k (a, b) = tw by unfold codeP stepP; simp only; rw [HP.out, HQ.out, hv, hu, hvn, hun, hvm, htw])
            have YC := hide' (fun (W : World) (h : J (a * S + b) W) => HY.out (a * S + b) W (a, b) aS bS rfl h OK.out)
            rw [CO.out] at YC
            obtain ⟨β, hβ⟩ : ∃ β, decide (a ≠ b) = β := ⟨_, rfl⟩
            have nb : ((a : Int) != (b : Int)) = β := by
              rw [← hβ]
              by_cases c : a = b
              · simp [c]
              · simp [c, show ¬ (a : Int) = (b : Int) by omega]
            have YD := hide' (fun (W : World) (h : J (a * S + b) W) => show Calls Tryd.prog 141 #[.int .i64 (tw : Int), .bool β, .pointer (some ⟨b1, 0, none⟩), .pointer (some ⟨b2, 0, none⟩)] W fun e W' => e = .returned (.tuple #[]) ∧ J (a * S + b + 1) W' ∧ RK gs pt B0 W W' by rw [← hβ]; exact YC.out W h)
            have ee : (x == y) = true := by simp [dd]
            have JD := hide' (HJ.out _ _ wr.drew.drew JX.out ((Below.refl _ wr).drew.drew))
            clear hx hy dd hps hqs hv hu hvn hun hvm htw H2 YC hβ
            go_wp2
            go_region
            go_wp2
            go_region_with
              ((refine (YD.out _ JD.out).mono ?_; rintro e W4 ⟨rfl, j4, k4⟩; have J4 := hide' j4; have K4 := hide' (KX.out.1.trans (RK.drew2 k4)); have X4 := hide' ((RK.drew2 k4).blk KX.out.2 (by omega) (by omega) (by decide)); clear j4 k4))
            all_goals
              go_wp2
              exact ⟨⟨b + 1, by go_num, by omega, hide' ⟨J4.out, K4.out, X4.out⟩⟩, by simp [intOf]; omega⟩
          · have NO := hide' (show ¬ OkWay S T (p, q) (a, b) from fun h => dd (by have h3 : T.getD (p * S + a) 0 = T.getD (q * S + b) 0 := h.2.2; rw [hv, hu, hx, hy] at h3; exact h3))
            have ee : (x == y) = false := by simp [dd]
            have HN2 := hide' (And.intro (HJ.out _ _ wr.drew (HNN.out (a * S + b) wr (a, b) aS bS rfl JX.out NO.out) ((Below.refl _ wr).drew)) (And.intro (show RK gs pt B0 w wr.drew from ⟨KX.out.1.bl.drew, KX.out.1.same⟩) (Blk.of (w' := wr.drew) KX.out.2 rfl)))
            clear hx hy dd hps hqs hv hu H2
            go_wp2
            go_region
            go_wp2
            exact ⟨⟨b + 1, by go_num, by omega, HN2⟩, by simp [intOf]; omega⟩
        · have H3 := hide' (show J ((a + 1) * S) wr ∧ RK gs pt B0 w wr ∧ Blk wr w.heap.size #[.int .i64 2, .int .i64 0, .int .i64 0, .int .i64 (S : Int), .int .i64 (R : Int), .slice ta tn tc, .string ⟨#[]⟩] 24 by have := H2.out; rw [show a * S + b = (a + 1) * S by rw [Nat.add_mul]; omega] at this; exact this)
          clear H2
          go_wp2
          exact ⟨⟨a + 1, by go_num, by omega, H3⟩, by simp [intOf]; omega⟩
    · have H2 := hide' (show J (S * S) wr ∧ RK gs pt B0 w wr by have := H1.out; rw [show a = S by omega] at this; exact ⟨this.1, this.2.1⟩)
      clear H1
      go_wp2
      go_end0
      exact ⟨rfl, H2.out.1, H2.out.2⟩

set_option maxRecDepth 100000 in
set_option maxHeartbeats 6400000 in
theorem refPairsR (S R n k : Nat) (T : List Int) (ta : Option Addr) (tn tc b1 b2 gs pt B0 : Nat) (J : Nat → World → Prop) (w : World) (hL : LineOk S R T) (hT : ArgP w T ta tn tc) (hta : ∀ g off, ta = some ⟨g, off, none⟩ → g < B0) (hB : B0 ≤ w.heap.size) (hg1 : gs < w.heap.size) (hg2 : pt < w.heap.size) (hn : 0 < n) (hn16 : n ≤ 16) (htn : tn = n * S) (hk : k < n * n)
    (hJ : ∀ j W W', J j W → Below W.heap.size W W' → J j W')
    (hY : ∀ j W (c : Nat × Nat), c.1 < S → c.2 < S → j = c.1 * S + c.2 → J j W → OkWay S T (k / n, k % n) c → Calls Tryd.prog 193 #[.int .i64 ((codeP S n k c : Nat) : Int), .bool (decide (c.1 ≠ c.2)), .pointer (some ⟨b1, 0, none⟩), .pointer (some ⟨b2, 0, none⟩)] W fun e W' => e = .returned (.tuple #[]) ∧ J (j + 1) W' ∧ RK gs pt B0 W W')
    (hN : ∀ j W (c : Nat × Nat), c.1 < S → c.2 < S → j = c.1 * S + c.2 → J j W → ¬ OkWay S T (k / n, k % n) c → J (j + 1) W) (h0 : J 0 w) :
    Calls Tryd.prog 138 #[.agg #[.int .i64 2, .int .i64 0, .int .i64 0, .int .i64 (S : Int), .int .i64 (R : Int), .slice ta tn tc, .string ⟨#[]⟩], .int .i64 (n : Int), .int .i64 (k : Int), .func (.func 193) #[] #[.pointer (some ⟨b1, 0, none⟩), .pointer (some ⟨b2, 0, none⟩)]] w fun e w' => e = .returned (.tuple #[]) ∧ J (S * S) w' ∧ RK gs pt B0 w w' := by
  obtain ⟨w1, hw1⟩ : ∃ w1, w.alloc (.cells #[.int .i64 2, .int .i64 0, .int .i64 0, .int .i64 (S : Int), .int .i64 (R : Int), .slice ta tn tc, .string ⟨#[]⟩] 24) = w1 := ⟨_, rfl⟩
  have BB := hide' (show Below w.heap.size w w1 by rw [← hw1]; exact (Below.refl _ _).alloc (Nat.le_refl _) _)
  have BX := hide' (show Blk w1 w.heap.size #[.int .i64 2, .int .i64 0, .int .i64 0, .int .i64 (S : Int), .int .i64 (R : Int), .slice ta tn tc, .string ⟨#[]⟩] 24 by rw [← hw1]; exact Blk.new _ _ _)
  have AT := hide' hT
  have TA := hide' hta
  have HJ := hide' hJ
  have HY := hide' hY
  have HNN := hide' hN
  have J0 := hide' (hJ 0 w w1 h0 BB.out)
  have s2 := hL.s2
  have s4 := hL.s4
  have HTN := hide' htn
  have t64 : tn ≤ 64 := by rw [htn]; exact Nat.mul_le_mul hn16 s4
  have K0 := hide' (show RK gs pt B0 w w1 from RK.below BB.out hB)
  obtain ⟨p, hp⟩ : ∃ p, k / n = p := ⟨_, rfl⟩
  obtain ⟨q, hq⟩ : ∃ q, k % n = q := ⟨_, rfl⟩
  have pn : p < n := by rw [← hp]; exact Nat.div_lt_of_lt_mul hk
  have qn : q < n := by rw [← hq]; exact Nat.mod_lt _ hn
  have k256 : k ≤ 256 := by have := Nat.mul_le_mul hn16 hn16; omega
  have e1 : (k : Int).tdiv (n : Int) = (p : Int) := by rw [Int.tdiv_eq_ediv_of_nonneg (by omega), ← hp]; simp
  have e2 : (k : Int).tmod (n : Int) = (q : Int) := by rw [Int.tmod_eq_emod_of_nonneg (by omega), ← hq]; simp
  have n0 : ¬ (n : Int) = 0 := by omega
  have n0b : ((n : Int) == 0) = false := by simp [show ¬ n = 0 by omega]
  have n0c : (n : Int) ≠ 0 := n0
  have HP := hide' hp
  have HQ := hide' hq
  rw [hp, hq] at HY HNN
  have IX := hide' (fun (u c : Nat) (hu : u < n) (hc : c < S) => show u * S + c < tn by
    rw [HTN.out]
    have : (u + 1) * S ≤ n * S := Nat.mul_le_mul_right _ (by omega)
    rw [Nat.add_mul] at this
    omega)
  clear hL hT hta hJ hY hN h0 htn hp hq hk
  go_enter Tryd.func138, Tryd.ntmps138
  go_wp2
  clear hw1
  go_loopw [10] (fun av wr => ∃ a : Nat, av = .int .i64 (a : Int) ∧ a ≤ S ∧ Hid (J (a * S) wr ∧ RK gs pt B0 w wr ∧ Blk wr w.heap.size #[.int .i64 2, .int .i64 0, .int .i64 0, .int .i64 (S : Int), .int .i64 (R : Int), .slice ta tn tc, .string ⟨#[]⟩] 24)) (fun av _ => S - (intOf av).toNat)
  case atStart => exact ⟨0, rfl, by omega, hide' ⟨by rw [Nat.zero_mul]; exact J0.out, K0.out, BX.out⟩⟩
  case round =>
    clear J0 K0
    obtain ⟨a, rfl, ha, H1⟩ := hrel
    have x3 : wr.cell? ⟨w.heap.size, 3, none⟩ = some (.int .i64 (S : Int)) := H1.out.2.2.cell 3
    by_cases d : (a : Int) < (S : Int)
    · go_wp2
      clear x3
      go_loopw [11] (fun bv wr => ∃ b : Nat, bv = .int .i64 (b : Int) ∧ b ≤ S ∧ Hid (J (a * S + b) wr ∧ RK gs pt B0 w wr ∧ Blk wr w.heap.size #[.int .i64 2, .int .i64 0, .int .i64 0, .int .i64 (S : Int), .int .i64 (R : Int), .slice ta tn tc, .string ⟨#[]⟩] 24)) (fun bv _ => S - (intOf bv).toNat)
      case atStart => exact ⟨0, rfl, by omega, H1⟩
      case round =>
        clear H1
        obtain ⟨b, rfl, hb, H2⟩ := hrel
        have x3 : wr.cell? ⟨w.heap.size, 3, none⟩ = some (.int .i64 (S : Int)) := H2.out.2.2.cell 3
        have x5 : wr.cell? ⟨w.heap.size, 5, none⟩ = some (.slice ta tn tc) := H2.out.2.2.cell 5
        by_cases d2 : (b : Int) < (S : Int)
        · have aS : a < S := by omega
          have bS : b < S := by omega
          obtain ⟨ps, hps⟩ : ∃ y, p * S = y := ⟨_, rfl⟩
          obtain ⟨qs, hqs⟩ : ∃ y, q * S = y := ⟨_, rfl⟩
          obtain ⟨v, hv⟩ : ∃ y, p * S + a = y := ⟨_, rfl⟩
          obtain ⟨u, hu⟩ : ∃ y, q * S + b = y := ⟨_, rfl⟩
          have vt : v < tn := by rw [← hv]; exact IX.out p a pn aS
          have ut : u < tn := by rw [← hu]; exact IX.out q b qn bS
          have m1 : (p : Int) * (S : Int) = (ps : Int) := by rw [← hps]; simp
          have m2 : (q : Int) * (S : Int) = (qs : Int) := by rw [← hqs]; simp
          have m3 : (ps : Int) + (a : Int) = (v : Int) := by omega
          have m4 : (qs : Int) + (b : Int) = (u : Int) := by omega
          have psl : ps ≤ 64 := by omega
          have qsl : qs ≤ 64 := by omega
          obtain ⟨gT, off, rfl, hc1⟩ := (AT.out.below' H2.out.2.1.bl TA.out).at (k := v) vt
          obtain ⟨gT', off', eT, hc2⟩ := (AT.out.below' H2.out.2.1.bl TA.out).at (k := u) ut
          injection eT with eT
          injection eT with eT1 eT2
          subst eT1 eT2
          obtain ⟨x, hx⟩ : ∃ x, T.getD v 0 = x := ⟨_, rfl⟩
          obtain ⟨y, hy⟩ : ∃ y, T.getD u 0 = y := ⟨_, rfl⟩
          rw [hx] at hc1
          rw [hy] at hc2
          have JX := hide' H2.out.1
          have KX := hide' H2.out.2
          by_cases dd : x = y
          · have OK := hide' (show OkWay S T (p, q) (a, b) from ⟨aS, bS, by show T.getD (p * S + a) 0 = T.getD (q * S + b) 0; rw [hv, hu, hx, hy]; exact dd⟩)
            obtain ⟨vn, hvn⟩ : ∃ z, v % n = z := ⟨_, rfl⟩
            obtain ⟨un, hun⟩ : ∃ z, u % n = z := ⟨_, rfl⟩
            have f1 : (v : Int).tmod (n : Int) = (vn : Int) := by rw [Int.tmod_eq_emod_of_nonneg (by omega), ← hvn]; simp
            have f2 : (u : Int).tmod (n : Int) = (un : Int) := by rw [Int.tmod_eq_emod_of_nonneg (by omega), ← hun]; simp
            have vnl : vn < n := by rw [← hvn]; exact Nat.mod_lt _ hn
            have unl : un < n := by rw [← hun]; exact Nat.mod_lt _ hn
            obtain ⟨vm, hvm⟩ : ∃ z, vn * n = z := ⟨_, rfl⟩
            have f3 : (vn : Int) * (n : Int) = (vm : Int) := by rw [← hvm]; simp
            have vml : vm ≤ 256 := by rw [← hvm]; exact Nat.mul_le_mul (show vn ≤ 16 by omega) hn16
            obtain ⟨tw, htw⟩ : ∃ z, vm + un = z := ⟨_, rfl⟩
            have f4 : (vm : Int) + (un : Int) = (tw : Int) := by omega
            have w1' : IntKind.i64.wrap (vm : Int) = (vm : Int) := wrap_natL vm (by omega)
            have w2' : IntKind.i64.wrap (tw : Int) = (tw : Int) := wrap_natL tw (by omega)
            have CO := hide' (show codeP S n k (a, b) = tw by unfold codeP stepP; simp only; rw [HP.out, HQ.out, hv, hu, hvn, hun, hvm, htw])
            have YC := hide' (fun (W : World) (h : J (a * S + b) W) => HY.out (a * S + b) W (a, b) aS bS rfl h OK.out)
            rw [CO.out] at YC
            obtain ⟨β, hβ⟩ : ∃ β, decide (a ≠ b) = β := ⟨_, rfl⟩
            have nb : ((a : Int) != (b : Int)) = β := by
              rw [← hβ]
              by_cases c : a = b
              · simp [c]
              · simp [c, show ¬ (a : Int) = (b : Int) by omega]
            have YD := hide' (fun (W : World) (h : J (a * S + b) W) => show Calls Tryd.prog 193 #[.int .i64 (tw : Int), .bool β, .pointer (some ⟨b1, 0, none⟩), .pointer (some ⟨b2, 0, none⟩)] W fun e W' => e = .returned (.tuple #[]) ∧ J (a * S + b + 1) W' ∧ RK gs pt B0 W W' by rw [← hβ]; exact YC.out W h)
            have ee : (x == y) = true := by simp [dd]
            have JD := hide' (HJ.out _ _ wr.drew.drew JX.out ((Below.refl _ wr).drew.drew))
            clear hx hy dd hps hqs hv hu hvn hun hvm htw H2 YC hβ
            go_wp2
            go_region
            go_wp2
            go_region_with
              ((refine (YD.out _ JD.out).mono ?_; rintro e W4 ⟨rfl, j4, k4⟩; have J4 := hide' j4; have K4 := hide' (KX.out.1.trans (RK.drew2 k4)); have X4 := hide' ((RK.drew2 k4).blk KX.out.2 (by omega) (by omega) (by decide)); clear j4 k4))
            all_goals
              go_wp2
              exact ⟨⟨b + 1, by go_num, by omega, hide' ⟨J4.out, K4.out, X4.out⟩⟩, by simp [intOf]; omega⟩
          · have NO := hide' (show ¬ OkWay S T (p, q) (a, b) from fun h => dd (by have h3 : T.getD (p * S + a) 0 = T.getD (q * S + b) 0 := h.2.2; rw [hv, hu, hx, hy] at h3; exact h3))
            have ee : (x == y) = false := by simp [dd]
            have HN2 := hide' (And.intro (HJ.out _ _ wr.drew (HNN.out (a * S + b) wr (a, b) aS bS rfl JX.out NO.out) ((Below.refl _ wr).drew)) (And.intro (show RK gs pt B0 w wr.drew from ⟨KX.out.1.bl.drew, KX.out.1.same⟩) (Blk.of (w' := wr.drew) KX.out.2 rfl)))
            clear hx hy dd hps hqs hv hu H2
            go_wp2
            go_region
            go_wp2
            exact ⟨⟨b + 1, by go_num, by omega, HN2⟩, by simp [intOf]; omega⟩
        · have H3 := hide' (show J ((a + 1) * S) wr ∧ RK gs pt B0 w wr ∧ Blk wr w.heap.size #[.int .i64 2, .int .i64 0, .int .i64 0, .int .i64 (S : Int), .int .i64 (R : Int), .slice ta tn tc, .string ⟨#[]⟩] 24 by have := H2.out; rw [show a * S + b = (a + 1) * S by rw [Nat.add_mul]; omega] at this; exact this)
          clear H2
          go_wp2
          exact ⟨⟨a + 1, by go_num, by omega, H3⟩, by simp [intOf]; omega⟩
    · have H2 := hide' (show J (S * S) wr ∧ RK gs pt B0 w wr by have := H1.out; rw [show a = S by omega] at this; exact ⟨this.1, this.2.1⟩)
      clear H1
      go_wp2
      go_end0
      exact ⟨rfl, H2.out.1, H2.out.2⟩
end Go.Proofs.YtdhbdkkchobinaaDoor

