/-
  What the last text of this claim leans on, part 24: Sf5, Sd2, Sf6.
-/
import Derived.Test.YtjjdjdodhedihaaDoorJl23
import Derived.Test.YtjjdjdodhedihaaDoorJl10
import Derived.Test.YtjjdjdodhedihaaDoorJl18
namespace Go.Proofs.YtjjdjdodhedihaaDoor
open Go.RowKit
set_option linter.unusedVariables false

theorem K2.trans {gs gr : Nat} {A B C : World} (h : K2 gs gr A B) (k : K2 gs gr B C) : K2 gs gr A C :=
  ⟨k.os.trans h.os, k.tape.trans h.tape, k.output.trans h.output, Nat.le_trans h.size k.size, fun i hi h1 h2 => (k.block i (Nat.lt_of_lt_of_le hi h.size) h1 h2).trans (h.block i hi h1 h2)⟩
theorem K2.below {gs gr B : Nat} {w w' : World} (h : K2 gs gr w w') (ha : B ≤ gs) (hb : B ≤ gr) (hs : B ≤ w.heap.size) : Below B w w' :=
  Rd2.below ⟨h.os, h.tape, h.output, h.size, h.block⟩ ha hb hs

theorem manyA_succ (S R a : Nat) (cs : List Int) : ∀ (k : Nat) (xs : List Int), manyA S R a cs (k + 1) xs = stepA S R a cs (manyA S R a cs k xs)
  | 0, xs => rfl
  | k + 1, xs => by rw [manyA, manyA_succ S R a cs k]; rfl

set_option maxRecDepth 100000 in
set_option maxHeartbeats 12800000 in
theorem jumped_full (S R p : Nat) (cs ws : List Int) (na : Option Addr) (m cc : Nat) (wa : Addr) (wc n0 : Nat) (w : World)
    (hp : Prm S p) (hN : ArgP w cs na m cc) (hW : ArgP w ws (some wa) ws.length wc) (h0 : 0 < ws.length) (hl : ws.length ≤ 1000) (hx : cellsOk S ws) (hc : cellsOk S cs) (hm : m = 2 * R + 1) (r10 : R ≤ 10) (hn : n0 ≤ 1000000000000000000) :
    Calls Tryd.prog 52 #[.slice na m cc, .int .i64 (S : Int), .slice (some wa) ws.length wc, .int .i64 (n0 : Int)] w fun e w' => ∃ g c, e = .returned (.slice (some ⟨g, 0, none⟩) ws.length c) ∧ w.heap.size ≤ g ∧ ws.length ≤ c ∧ c ≤ maxLen ∧ Cel w' g (manyA S R 1 cs n0 ws) ∧ Below w.heap.size w w' := by
  obtain ⟨i0, hi, hz0, hz1, hz2⟩ := info_parts info_int
  have s2 : 2 ≤ S := by rcases hp with ⟨rfl, rfl⟩ | ⟨rfl, rfl⟩ | ⟨rfl, rfl⟩ <;> omega
  have s4 : S ≤ 4 := by rcases hp with ⟨rfl, rfl⟩ | ⟨rfl, rfl⟩ | ⟨rfl, rfl⟩ <;> omega
  have p2 : 2 ≤ p := by rcases hp with ⟨rfl, rfl⟩ | ⟨rfl, rfl⟩ | ⟨rfl, rfl⟩ <;> omega
  have p3 : p ≤ 3 := by rcases hp with ⟨rfl, rfl⟩ | ⟨rfl, rfl⟩ | ⟨rfl, rfl⟩ <;> omega
  have NW := hide' (news_ints hW)
  have HN := hide' hN
  have NBK := hide' (hN.blk (by omega))
  have H0 := hide' h0
  have HX := hide' hx
  have HC := hide' hc
  have HP := hide' hp
  have HM := hide' hm
  obtain ⟨L, hL⟩ : ∃ L, ws.length = L := ⟨_, rfl⟩
  have HL := hide' hL
  have l0 : 0 < L := by omega
  have l1 : L ≤ 1000 := by omega
  clear hN hW hx hc hp hm
  go_enter Tryd.func52, Tryd.ntmps52
  go_wp2_with (at_builtin; refine wpList_append_own _ rfl _ _ 22 rfl w.heap.size 3 i0 (.int .i64 0) 1 8 Tryd.underlying22 hi hz0 hz1 hz2 rfl (by decide) (.slice none 0 0) 0 [] rfl ⟨by simp, Or.inl ⟨rfl, by simp⟩⟩ wa ws.length wc (ws.map fun x => .int .i64 x) rfl (by simp) NW.out (fun x hx => by obtain ⟨y, -, rfl⟩ := List.mem_map.1 hx; rfl) (by unfold maxLen; omega) (by omega) (by simp) ?_; intro v' w3 hown' hgrow3 hnil3; obtain ⟨gr, cr, rfl, hgr, hc1, hc2, ce⟩ := ownsRow_cel hown' H0.out; have CE := hide' ce; have B3 := hide' (grown_below hgrow3); have C1 := hide' hc1; have C2 := hide' hc2; clear hgrow3 hown' hnil3 ce hc1 hc2)
  have s3 := B3.out.size
  have lgr := CE.out.lt
  refine (primeOf_any S p HP.out _).mono ?_
  rintro e w4 ⟨rfl, h4⟩
  rw [h4]
  clear h4 w4
  go_wp2_with fail
  refine (stepperS_any S L m cc na _ l1).mono ?_
  rintro e w5 ⟨rfl, f1, f2, f3, f4, f5, f6⟩
  have F1 := hide' f1
  have F2 := hide' f2
  have F3 := hide' f3
  have CE5 := hide' (CE.out.below f5)
  have AN5 := hide' ((HN.out.below B3.out).below f5)
  have B5 := hide' (B3.out.trans (f5.mono s3))
  have F6 := hide' f6
  have S5 := hide' (show ∃ us : List Int, us.length = L ∧ Cel w5 (w3.heap.size + 2) us from ⟨_, by simp, f4⟩)
  clear f1 f2 f3 f4 f5 f6
  have STEP := hide' (fun (a : Nat) (ha : a ≤ 1000) (ring : List Int) (hr : ring.length = L) (hk : cellsOk S ring) (W : World) (h1 : Cel W gr ring) (h2 : ∃ us : List Int, us.length = L ∧ Cel W (w3.heap.size + 2) us) (h3 : K2 (w3.heap.size + 2) gr w5 W) => show Calls Tryd.prog 114 #[.slice (some ⟨gr, 0, none⟩) L cr, .int .i64 (a : Int), .pointer (some ⟨w3.heap.size + 3, 0, none⟩), .pointer (some ⟨w3.heap.size, 0, none⟩), .pointer (some ⟨w3.heap.size + 1, 0, none⟩)] W fun e w' => e = .returned (.tuple #[]) ∧ Cel w' gr (stepA S R a cs ring) ∧ (∃ us' : List Int, us'.length = L ∧ Cel w' (w3.heap.size + 2) us') ∧ K2 (w3.heap.size + 2) gr w5 w' from by
    obtain ⟨us, hu, hcu⟩ := h2
    exact (stepper1_any S R a L cs ring us (w3.heap.size + 3) w3.heap.size (w3.heap.size + 1) (w3.heap.size + 2) gr na m cc cr W (h3.blk F1.out (by omega) (by omega)) (h3.blk F2.out (by omega) (by omega)) (h3.blk F3.out (by omega) (by omega)) hcu h1 (h3.arg AN5.out (fun g off e => by have := NBK.out g off e; omega)) (fun g off e => by have := NBK.out g off e; omega) (by omega) (by omega) (by omega) (by omega) hu hr l0 l1 s2 s4 hk HC.out HM.out r10 ha).mono fun e w' ⟨k1, k2, k3, k4⟩ => ⟨k1, k2, k3, h3.trans k4⟩)
  have FIN := hide' (fun (ring : List Int) (a : Nat) (h : JumpInv S R cs ws n0 0 a ring) => h.fin (by omega) HX.out H0.out)
  have NXT := hide' (fun (n a : Nat) (ring : List Int) (h : JumpInv S R cs ws n0 n a ring) => h.next HP.out H0.out)
  have MOK := hide' (fun (a k : Nat) (ring : List Int) (h : cellsOk S ring) => manyA_ok (S := S) (R := R) (a := a) (cs := cs) (by omega) k ring h)
  go_wp2
  go_loopw [3, 12] (fun nv av wr => ∃ (n a : Nat) (ring : List Int), nv = .int .i64 (n : Int) ∧ av = .int .i64 (a : Int) ∧ n ≤ 1000000000000000000 ∧ a ≤ 1000 ∧ Hid (JumpInv S R cs ws n0 n a ring ∧ Cel wr gr ring ∧ (∃ us : List Int, us.length = L ∧ Cel wr (w3.heap.size + 2) us) ∧ K2 (w3.heap.size + 2) gr w5 wr)) (fun nv _ _ => (intOf nv).toNat)
  case atStart => exact ⟨n0, 1, ws, rfl, rfl, hn, by omega, hide' ⟨JumpInv.start HX.out n0, CE5.out, S5.out, K2.refl _ _ _⟩⟩
  case round =>
    obtain ⟨n, a, ring, rfl, rfl, hn', ha, H⟩ := hrel
    by_cases d : n = 0
    · subst d
      have FC := hide' (show Cel wr gr (manyA S R 1 cs n0 ws) by rw [← FIN.out ring a H.out.1]; exact H.out.2.1)
      have FB := hide' (show Below w.heap.size w wr from B5.out.trans (H.out.2.2.2.below (by omega) (by omega) (by have := F6.out; omega)))
      go_wp2
      go_ret
      rw [HL.out] at C1
      exact ⟨gr, cr, by rw [HL.out]; rfl, hgr, by rw [HL.out]; exact C1.out, C2.out, FC.out, FB.out⟩
    · have d1 : (0 : Int) < (n : Int) := by omega
      have d2 : (0 : Int) < (L : Int) := by omega
      obtain ⟨t, ht⟩ : ∃ t, n % S = t := ⟨_, rfl⟩
      have tS : t < S := by rw [← ht]; exact Nat.mod_lt _ (by omega)
      have tn : t ≤ n := by rw [← ht]; exact Nat.mod_le _ _
      have TM : (n : Int).tmod (S : Int) = (t : Int) := by rw [Int.tmod_eq_emod_of_nonneg (by omega), ← Int.natCast_emod, ht]
      obtain ⟨n', hn2⟩ : ∃ n', (n - t) / p = n' := ⟨_, rfl⟩
      have TD : ((n : Int) - (t : Int)).tdiv (p : Int) = (n' : Int) := by rw [Int.tdiv_eq_ediv_of_nonneg (by omega), show (n : Int) - (t : Int) = ((n - t : Nat) : Int) by omega, ← Int.natCast_ediv, hn2]
      have nn : n' < n := by rw [← hn2]; exact Nat.lt_of_le_of_lt (Nat.div_le_div_left p2 (by omega) : (n - t) / p ≤ (n - t) / 2) (by omega)
      obtain ⟨q, hq⟩ : ∃ q, a * p = q := ⟨_, rfl⟩
      have q3 : q ≤ 3000 := by rw [← hq]; exact Nat.le_trans (Nat.mul_le_mul ha p3) (by omega)
      have WM : (a : Int) * (p : Int) = (q : Int) := by rw [← Int.natCast_mul, hq]
      obtain ⟨a', ha'⟩ : ∃ a', q % L = a' := ⟨_, rfl⟩
      have TA : (q : Int).tmod (L : Int) = (a' : Int) := by rw [Int.tmod_eq_emod_of_nonneg (by omega), ← Int.natCast_emod, ha']
      have aL : a' ≤ 1000 := by rw [← ha']; have := Nat.mod_lt q l0; omega
      have NX := hide' (NXT.out n a ring H.out.1)
      rw [ht, hn2, hq, HL.out, ha'] at NX
      have RL := hide' (show ring.length = L by rw [H.out.1.2.1, HL.out])
      have RO := hide' H.out.1.1
      clear ht hn2 hq ha'
      go_wp2
      go_loopw [40] (fun kv wr => ∃ k : Nat, kv = .int .i64 (k : Int) ∧ k ≤ t ∧ Hid (Cel wr gr (manyA S R a cs k ring) ∧ (∃ us : List Int, us.length = L ∧ Cel wr (w3.heap.size + 2) us) ∧ K2 (w3.heap.size + 2) gr w5 wr)) (fun kv _ => t - (intOf kv).toNat)
      case atStart => exact ⟨0, rfl, by omega, hide' H.out.2⟩
      case round =>
        clear H
        obtain ⟨k, rfl, hk, H⟩ := hrel
        by_cases e : (k : Int) < (t : Int)
        · go_wp2_with fail
          refine (STEP.out a ha (manyA S R a cs k ring) (by rw [manyA_length, RL.out]) (MOK.out a k ring RO.out) _ H.out.1 H.out.2.1 H.out.2.2).mono ?_
          rintro e' w6 ⟨rfl, e1, e2, e3⟩
          rw [← manyA_succ] at e1
          have H6 := hide' (⟨e1, e2, e3⟩ : _ ∧ _ ∧ _)
          clear e1 e2 e3 H
          go_wp2
          exact ⟨⟨k + 1, by go_num, by omega, H6⟩, by simp [intOf]; omega⟩
        · have HF := hide' (show Cel wr gr (manyA S R a cs t ring) ∧ (∃ us : List Int, us.length = L ∧ Cel wr (w3.heap.size + 2) us) ∧ K2 (w3.heap.size + 2) gr w5 wr by rw [show t = k by omega]; exact H.out)
          go_wp2
          exact ⟨⟨n', a', manyA S R a cs t ring, rfl, rfl, by omega, aL, hide' ⟨NX.out, HF.out⟩⟩, by simp [intOf]; omega⟩
end Go.Proofs.YtjjdjdodhedihaaDoor

namespace Go.Proofs.YtjjdjdodhedihaaDoor
open Go.RowKit
set_option linter.unusedVariables false

theorem argP_nil' (w : World) : ArgP w [] none 0 0 := ⟨rfl, by simp, fun k hk => by simp at hk⟩

set_option maxRecDepth 100000 in
set_option maxHeartbeats 6400000 in
theorem linear_off (o : Out) (ta : Option Addr) (tn tc : Nat) (w : World) (hR : ArgR w o ta tn tc) (h : ¬ (Good o ∧ o.kind = 2)) :
    Calls Tryd.prog 17 #[.agg #[.int .i64 o.kind, .int .i64 o.born, .int .i64 o.stay, .int .i64 o.states, .int .i64 o.radius, .slice ta tn tc, .string o.turns]] w (ListErr 1 w) := by
  obtain ⟨w1, hw1⟩ : ∃ w1, w.alloc (.cells #[.int .i64 o.kind, .int .i64 o.born, .int .i64 o.stay, .int .i64 o.states, .int .i64 o.radius, .slice ta tn tc, .string o.turns] 24) = w1 := ⟨_, rfl⟩
  have BB := hide' (show Below w.heap.size w w1 by rw [← hw1]; exact (Below.refl _ _).alloc (Nat.le_refl _) _)
  have RX := hide' (show RBo w.heap.size o (.slice ta tn tc) w1 by rw [← hw1]; exact RBo.new w o _ _)
  have AT := hide' (show ArgR w1 o ta tn tc by rw [← hw1]; exact hR.alloc _)
  have HH := hide' h
  clear hR h
  obtain ⟨x0, x1, x2, x3, x4, x5, x6⟩ := RX.out
  go_enter Tryd.func17, Tryd.ntmps17
  go_wp2_with fail
  refine (lineCheck_off o ta tn tc (.slice none 0 0) _ AT.out HH.out).mono ?_
  rintro e w2 ⟨rfl, b⟩
  clear hw1 x0 x1 x2 x3 x4 x5 x6
  go_wp2
  go_ret2
  exact ⟨rfl, BB.out.trans (b.mono BB.out.size)⟩
/-- What Linear answers at a rule of a line. -/
def LinPost (S R : Nat) (T : List Int) (w : World) (e : Ending) (w' : World) : Prop :=
  ((LinP S R T ∧ ∃ g, e = .returned (.tuple #[.slice (some ⟨g, 0, none⟩) (2 * R + 1) (2 * R + 1), .nilIface]) ∧ Cel w' g (numL S R T) ∧ w.heap.size ≤ g) ∨ (¬ LinP S R T ∧ e = .returned (.tuple #[.slice none 0 0, .iface 85 (.int .i64 5)]))) ∧ Below w.heap.size w w'

set_option maxRecDepth 100000 in
set_option maxHeartbeats 6400000 in
theorem linear_line (S R : Nat) (T : List Int) (ta : Option Addr) (tn tc : Nat) (w : World) (hL : LineOk S R T) (hT : ArgP w T ta tn tc) :
    Calls Tryd.prog 17 #[.agg #[.int .i64 2, .int .i64 0, .int .i64 0, .int .i64 (S : Int), .int .i64 (R : Int), .slice ta tn tc, .string ⟨#[]⟩]] w (LinPost S R T w) := by
  obtain ⟨w1, hw1⟩ : ∃ w1, w.alloc (.cells #[.int .i64 2, .int .i64 0, .int .i64 0, .int .i64 (S : Int), .int .i64 (R : Int), .slice ta tn tc, .string ⟨#[]⟩] 24) = w1 := ⟨_, rfl⟩
  have BB := hide' (show Below w.heap.size w w1 by rw [← hw1]; exact (Below.refl _ _).alloc (Nat.le_refl _) _)
  have RX := hide' (show RB w.heap.size S R (.slice ta tn tc) w1 by rw [← hw1]; exact RB.new w S R _ _)
  have AT := hide' (hT.below BB.out)
  have HL := hide' hL
  have r10 := hL.r10
  obtain ⟨m, hm⟩ : ∃ m, 2 * R + 1 = m := ⟨_, rfl⟩
  have HM := hide' hm
  have W0 := hide' (show errOf (wordE S []) = .nilIface by rw [wordE_ok (by simp) (fun x hx => by simp at hx)]; rfl)
  have NUM := hide' (fun (W : World) (h : ArgP W T ta tn tc) => numbersOf_any S R T ta tn tc W hL h)
  have ISS := hide' (fun (W : World) (g : Nat) (h : ArgP W T ta tn tc) (h2 : ArgP W (numL S R T) (some ⟨g, 0, none⟩) m m) => isSum_any S R T (numL S R T) ta tn tc (some ⟨g, 0, none⟩) m m W hL h h2 hm.symm (numL_ok hL))
  have LEN := hide' (numL_length S R T)
  have LP := hide' (show (∀ x, x < T.length → sumF (addF S m (numL S R T) x) m % S = T.getD x 0) ↔ LinP S R T by rw [← hm]; exact Iff.rfl)
  obtain ⟨PP, hPP⟩ : ∃ PP, LinPost S R T w = PP := ⟨_, rfl⟩
  have HPP := hide' hPP
  rw [hPP]
  rw [hm] at NUM LEN
  clear hT hL hPP hm
  obtain ⟨x0, x1, x2, x3, x4, x5, x6⟩ := RX.out
  go_enter Tryd.func17, Tryd.ntmps17
  go_wp2_with fail
  refine (lineCheck_line S R T ta tn tc [] none 0 0 _ HL.out AT.out (argP_nil' _)).mono ?_
  rw [W0.out]
  rintro e w2 ⟨rfl, b⟩
  have C1 := hide' b
  clear hw1 x0 x1 x2 x3 x4 x5 x6 b
  obtain ⟨x0, x1, x2, x3, x4, x5, x6⟩ := RX.out.next C1.out
  go_wp2_with fail
  refine (NUM.out _ (AT.out.below C1.out)).mono ?_
  rintro e w3 ⟨g, rfl, cl, hg, b⟩
  have C2 := hide' (C1.out.trans (b.mono C1.out.size))
  have CL := hide' cl
  have GL := hide' (show w.heap.size ≤ g by have := BB.out.size; have := C1.out.size; omega)
  clear b x0 x1 x2 x3 x4 x5 x6 C1 cl hg
  obtain ⟨x0, x1, x2, x3, x4, x5, x6⟩ := RX.out.next C2.out
  go_wp2_with fail
  refine (ISS.out _ g (AT.out.below C2.out) (CL.out.argP LEN.out (by unfold maxLen; have := HM.out; omega))).mono ?_
  unfold SumPost
  rintro e w4 ⟨⟨β, rfl, hβ⟩, b⟩
  have C3 := hide' (C2.out.trans (b.mono C2.out.size))
  have CL4 := hide' (CL.out.below b)
  rw [LP.out] at hβ
  clear b x0 x1 x2 x3 x4 x5 x6 C2
  cases β
  · have NL := hide' (show ¬ LinP S R T from fun h => by have := hβ.2 h; cases this)
    clear hβ
    go_wp2
    rw [← HPP.out]
    exact ⟨Or.inr ⟨NL.out, rfl⟩, BB.out.trans (C3.out.mono BB.out.size)⟩
  · have YL := hide' (hβ.1 rfl)
    clear hβ
    go_wp2
    rw [← HPP.out]
    exact ⟨Or.inl ⟨YL.out, g, by rw [HM.out]; rfl, CL4.out, GL.out⟩, BB.out.trans (C3.out.mono BB.out.size)⟩
end Go.Proofs.YtjjdjdodhedihaaDoor

namespace Go.Proofs.YtjjdjdodhedihaaDoor
open Go.RowKit
set_option linter.unusedVariables false

/-- A list that is answered, and new. -/
def RingPost (xs : List Int) (w : World) (e : Ending) (w' : World) : Prop :=
  ∃ v, e = .returned v ∧ Tab w' v xs ∧ FreshL w v ∧ Below w.heap.size w w'
theorem manyA_nil (S R a : Nat) (cs : List Int) : ∀ n, manyA S R a cs n [] = []
  | 0 => rfl
  | n + 1 => by rw [manyA, show stepA S R a cs [] = [] by simp [stepA], manyA_nil S R a cs n]

set_option maxRecDepth 100000 in
set_option maxHeartbeats 6400000 in
theorem jumped_nil_some (S p : Nat) (na : Option Addr) (m cc : Nat) (wa : Addr) (wc n0 : Nat) (w : World) (hp : Prm S p) (hn : n0 ≤ 1000000000000000000) :
    Calls Tryd.prog 52 #[.slice na m cc, .int .i64 (S : Int), .slice (some wa) 0 wc, .int .i64 (n0 : Int)] w (RingPost [] w) := by
  obtain ⟨i0, hi, hz0, hz1, hz2⟩ := info_parts info_int
  have HP := hide' hp
  clear hp
  go_enter Tryd.func52, Tryd.ntmps52
  go_wp2_with (at_builtin; refine wpList_append_own _ rfl _ _ 22 rfl w.heap.size 3 i0 (.int .i64 0) 1 8 Tryd.underlying22 hi hz0 hz1 hz2 rfl (by decide) (.slice none 0 0) 0 [] rfl ⟨by simp, Or.inl ⟨rfl, by simp⟩⟩ wa 0 wc [] rfl (by simp) (fun j u hu => by simp at hu) (fun x hx => by simp at hx) (by unfold maxLen; omega) (by omega) (by simp) ?_; intro v' w3 hown' hgrow3 hnil3; obtain rfl := hnil3.2 ⟨rfl, rfl⟩; have B3 := hide' (grown_below hgrow3); clear hgrow3 hown' hnil3)
  have s3 := B3.out.size
  refine (primeOf_any S p HP.out _).mono ?_
  rintro e w4 ⟨rfl, h4⟩
  rw [h4]
  clear h4 w4
  go_wp2_with fail
  refine (stepperS_any S 0 m cc na _ (by omega)).mono ?_
  rintro e w5 ⟨rfl, f1, f2, f3, f4, f5, f6⟩
  have B5 := hide' (B3.out.trans (f5.mono s3))
  clear f1 f2 f3 f4 f5 f6
  go_wp2
  go_loopw [3] (fun nv wr => nv = .int .i64 (n0 : Int) ∧ Hid (wr = w5)) (fun _ _ => 0)
  case atStart => exact ⟨rfl, hide' rfl⟩
  case round =>
    obtain ⟨rfl, H⟩ := hrel
    have BF := hide' (show Below w.heap.size w wr by rw [H.out]; exact B5.out)
    clear H
    by_cases d : n0 = 0
    · subst d
      go_wp2
      go_ret
      exact ⟨.slice none 0 0, rfl, Or.inl ⟨rfl, rfl⟩, FreshL.nil _, BF.out⟩
    · have d1 : (0 : Int) < (n0 : Int) := by omega
      go_wp2
      go_ret
      exact ⟨.slice none 0 0, rfl, Or.inl ⟨rfl, rfl⟩, FreshL.nil _, BF.out⟩
set_option maxRecDepth 100000 in
set_option maxHeartbeats 6400000 in
theorem jumped_nil_none (S p : Nat) (na : Option Addr) (m cc : Nat) (wc n0 : Nat) (w : World) (hp : Prm S p) (hn : n0 ≤ 1000000000000000000) :
    Calls Tryd.prog 52 #[.slice na m cc, .int .i64 (S : Int), .slice none 0 wc, .int .i64 (n0 : Int)] w (RingPost [] w) := by
  obtain ⟨i0, hi, hz0, hz1, hz2⟩ := info_parts info_int
  have HP := hide' hp
  clear hp
  go_enter Tryd.func52, Tryd.ntmps52
  go_wp2_with fail
  obtain ⟨w3, hw3⟩ : ∃ w3, w3 = w := ⟨_, rfl⟩
  rw [← hw3]
  have B3 := hide' (show Below w.heap.size w w3 by rw [hw3]; exact Below.refl _ _)
  clear hw3
  have s3 := B3.out.size
  refine (primeOf_any S p HP.out _).mono ?_
  rintro e w4 ⟨rfl, h4⟩
  rw [h4]
  clear h4 w4
  go_wp2_with fail
  refine (stepperS_any S 0 m cc na _ (by omega)).mono ?_
  rintro e w5 ⟨rfl, f1, f2, f3, f4, f5, f6⟩
  have B5 := hide' (B3.out.trans (f5.mono s3))
  clear f1 f2 f3 f4 f5 f6
  go_wp2
  go_loopw [3] (fun nv wr => nv = .int .i64 (n0 : Int) ∧ Hid (wr = w5)) (fun _ _ => 0)
  case atStart => exact ⟨rfl, hide' rfl⟩
  case round =>
    obtain ⟨rfl, H⟩ := hrel
    have BF := hide' (show Below w.heap.size w wr by rw [H.out]; exact B5.out)
    clear H
    by_cases d : n0 = 0
    · subst d
      go_wp2
      go_ret
      exact ⟨.slice none 0 0, rfl, Or.inl ⟨rfl, rfl⟩, FreshL.nil _, BF.out⟩
    · have d1 : (0 : Int) < (n0 : Int) := by omega
      go_wp2
      go_ret
      exact ⟨.slice none 0 0, rfl, Or.inl ⟨rfl, rfl⟩, FreshL.nil _, BF.out⟩
theorem jumped_any (S R p : Nat) (cs ws : List Int) (na : Option Addr) (m cc : Nat) (wa : Option Addr) (wc n0 : Nat) (w : World)
    (hp : Prm S p) (hN : ArgP w cs na m cc) (hW : ArgP w ws wa ws.length wc) (hl : ws.length ≤ 1000) (hx : cellsOk S ws) (hc : cellsOk S cs) (hm : m = 2 * R + 1) (r10 : R ≤ 10) (hn : n0 ≤ 1000000000000000000) :
    Calls Tryd.prog 52 #[.slice na m cc, .int .i64 (S : Int), .slice wa ws.length wc, .int .i64 (n0 : Int)] w (RingPost (manyA S R 1 cs n0 ws) w) := by
  cases ws with
  | nil =>
    rw [manyA_nil]
    cases wa with
    | none => exact jumped_nil_none S p na m cc wc n0 w hp hn
    | some wa => exact jumped_nil_some S p na m cc wa wc n0 w hp hn
  | cons x xs =>
    obtain ⟨g, off, e, -⟩ := hW.cells 0 (by simp)
    subst e
    refine (jumped_full S R p cs (x :: xs) na m cc ⟨g, off, none⟩ wc n0 w hp hN hW (by simp) hl hx hc hm r10 hn).mono ?_
    rintro e w' ⟨g, c, rfl, h1, h2, h3, h4, h5⟩
    exact ⟨_, rfl, h4.tabC (by rw [manyA_length]), FreshL.mk h1 h2 h3, h5⟩
end Go.Proofs.YtjjdjdodhedihaaDoor

