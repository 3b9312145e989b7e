/-
  What the last text of this claim leans on, part 33: Of5, Of6, Og1.
-/
import Derived.Test.YtdhbdkkchobinaaDoorJd32
namespace Go.Proofs.YtdhbdkkchobinaaDoor
open Go.RowKit
set_option linter.unusedVariables false

/-- From pair k unlike cells lead to one from which k is reached. -/
def TurnAt (S n : Nat) (T : List Int) (k : Nat) : Prop := ∃ c cs, OkWay S T (unP n k) c ∧ c.1 ≠ c.2 ∧ okP S n T (stepP S n (unP n k) c) cs ∧ endP S n (stepP S n (unP n k) c) cs = unP n k
theorem codeP_un {S n k : Nat} (hn : 0 < n) (c : Nat × Nat) : unP n (codeP S n k c) = stepP S n (unP n k) c := un_co (u := stepP S n (unP n k) c) (stepP_lt hn _ c).2
theorem closed_path {S n : Nat} {T : List Int} {il : List Bool} (hn : 0 < n) (hc : ∀ k, k < n * n → il.getD k false = true → ∀ c, OkWay S T (unP n k) c → il.getD (codeP S n k c) false = true) :
    ∀ (cs : List (Nat × Nat)) (k : Nat), k < n * n → il.getD k false = true → okP S n T (unP n k) cs → il.getD (coP n (endP S n (unP n k) cs)) false = true
  | [], k, hk, h, _ => by show il.getD (coP n (unP n k)) false = true; rw [co_un]; exact h
  | c :: r, k, hk, h, ho => by
    have h1 := closed_path hn hc r (codeP S n k c) (codeP_lt hn c) (hc k hk h c ho.1) (by rw [codeP_un hn]; exact ho.2)
    rw [codeP_un hn] at h1
    exact h1
def OneRefPost (S n : Nat) (T : List Int) (w : World) (e : Ending) (w' : World) : Prop :=
  ((e = .returned (.bool false) ∧ ∃ k, k < n * n ∧ TurnAt S n T k) ∨ (e = .returned (.bool true) ∧ ∀ k, k < n * n → ¬ TurnAt S n T k)) ∧ Below w.heap.size w w'
theorem FJ.no {W : World} {S n k : Nat} {T : List Int} {pf gf pa B0 : Nat} {fl : List Bool} (h : FJ W S n k T pf gf pa B0 (S * S) fl false) : ¬ TurnAt S n T k := by
  rintro ⟨c, cs, h1, h2, _⟩
  have : (c.1 + 1) * S ≤ S * S := Nat.mul_le_mul_right _ h1.1
  rw [Nat.add_mul] at this
  have q := h1.2.1
  exact absurd (h.sa.2 ⟨c, by omega, h1, h2⟩) (by decide)
theorem FJ.yes {W : World} {S n k : Nat} {T : List Int} {pf gf pa B0 : Nat} {fl il : List Bool} {an : Bool} (h : FJ W S n k T pf gf pa B0 (S * S) fl an) (hn : 0 < n) (hk : k < n * n) (hf : FromIn fl il (n * n)) (hc : ∀ k, k < n * n → il.getD k false = true → ∀ c, OkWay S T (unP n k) c → il.getD (codeP S n k c) false = true)
    (ho : ∀ k, k < n * n → il.getD k false = true → ∃ j cs, j < n * n ∧ fl.getD j false = true ∧ okP S n T (unP n j) cs ∧ coP n (endP S n (unP n j) cs) = k) : il.getD k false = true ↔ TurnAt S n T k := by
  constructor
  · intro h1
    obtain ⟨j, cs, q1, q2, q3, q4⟩ := ho k hk h1
    obtain ⟨c, _, r2, r3, r4⟩ := (h.sp j q1).1 q2
    rw [← r4, codeP_un hn] at q3 q4
    refine ⟨c, cs, r2, r3, q3, ?_⟩
    have e := congrArg (unP n) q4
    rw [un_co (endP_lt hn cs _ (stepP_lt hn _ c).1 (stepP_lt hn _ c).2).2] at e
    exact e
  · rintro ⟨c, cs, h1, h2, h3, h4⟩
    have : (c.1 + 1) * S ≤ S * S := Nat.mul_le_mul_right _ h1.1
    rw [Nat.add_mul] at this
    have q := h1.2.1
    have f1 := (h.sp (codeP S n k c) (codeP_lt hn c)).2 ⟨c, by omega, h1, h2, rfl⟩
    have f2 := closed_path hn hc cs _ (codeP_lt hn c) (hf _ (codeP_lt hn c) f1) (by rw [codeP_un hn]; exact h3)
    rw [codeP_un hn, h4, co_un] at f2
    exact f2
theorem pairs_one {W : World} {S R n k : Nat} {T : List Int} {ta : Option Addr} {tn tc pf gf pa B0 : Nat} {fl : List Bool} {an : Bool} (hL : LineOk S R T) (hT : ArgP W T ta tn tc) (hta : ∀ g off, ta = some ⟨g, off, none⟩ → g < B0) (hB : B0 ≤ W.heap.size) (hn : 0 < n) (hn16 : n ≤ 16) (htn : tn = n * S) (hk : k < n * n) (h0 : FJ W S n k T pf gf pa B0 0 fl an) :
    Calls Tryd.prog 138 #[.agg #[.int .i64 2, .int .i64 0, .int .i64 0, .int .i64 (S : Int), .int .i64 (R : Int), .slice ta tn tc, .string ⟨#[]⟩], .int .i64 (n : Int), .int .i64 (k : Int), .func (.func 141) #[] #[.pointer (some ⟨pf, 0, none⟩), .pointer (some ⟨pa, 0, none⟩)]] W fun e W' => e = .returned (.tuple #[]) ∧ (∃ fl an, FJ W' S n k T pf gf pa B0 (S * S) fl an) ∧ Below B0 W W' := by
  refine (refPairsO S R n k T ta tn tc pf pa gf pa B0 (fun j V => ∃ fl an, FJ V S n k T pf gf pa B0 j fl an) W hL hT hta hB h0.fc.lt h0.ac.lt hn hn16 htn hk ?_ ?_ ?_ ⟨_, _, h0⟩).mono ?_
  · rintro j V V' ⟨fl, an, h⟩ hb
    exact ⟨_, _, h.next hb⟩
  · rintro j V c hc1 hc2 hj ⟨fl, an, h⟩ hok
    refine (one1_any S n k T pf gf pa B0 j fl an V h hn hn16 c hc2 hj hok).mono ?_
    rintro e V' ⟨rfl, g1, g2⟩
    exact ⟨rfl, g1, g2⟩
  · rintro j V c hc1 hc2 hj ⟨fl, an, h⟩ hno
    exact ⟨_, _, h.skip c hc2 hj fun q => hno q.1⟩
  · rintro e W' ⟨rfl, h1, h2⟩
    exact ⟨rfl, h1, h2.bl⟩
theorem FJ.start {W w1 : World} {S n N k : Nat} {T : List Int} (hN : n * n = N) (hw1 : ((W.alloc (.cells (madeCells #[.bool false] N) 4)).alloc (.cells #[.slice (some ⟨W.heap.size, 0, none⟩) N N] 155)).alloc (.cells #[.bool false] 4) = w1) : FJ w1 S n k T (W.heap.size + 1) W.heap.size (W.heap.size + 2) W.heap.size 0 (List.replicate N false) false ∧ Below W.heap.size W w1 := by
  rw [← hw1]
  refine ⟨⟨?_, ?_, ?_, by omega, by rw [hN]; simp, fun t ht => ?_, ?_, Nat.le_refl _, by omega⟩, ?_⟩
  · rw [hN]; exact (blk_new_at (by simp)).alloc _
  · have := ((Blk.new W (madeCells #[.bool false] N) 4).alloc (.cells #[.slice (some ⟨W.heap.size, 0, none⟩) N N] 155)).alloc (.cells #[.bool false] 4)
    rw [show ((List.replicate N false).map Value.bool).toArray = madeCells #[.bool false] N by
      apply Array.toList_inj.1
      rw [toList_madeCells_one]
      simp]
    exact this
  · exact blk_new_at (by simp)
  · constructor
    · intro h
      rw [List.getD_eq_getElem?_getD, List.getElem?_replicate] at h
      split at h <;> simp at h
    · rintro ⟨c, h, _⟩; omega
  · constructor
    · intro h; cases h
    · rintro ⟨c, h, _⟩; omega
  · exact (((Below.refl _ _).alloc (Nat.le_refl _) _).alloc (by simp) _).alloc (by simp; omega) _

theorem FJ.again {W : World} {S n k : Nat} {T : List Int} {pf gf pa B0 j : Nat} {fl : List Bool} (h : FJ W S n k T pf gf pa B0 j fl false) : FJ (W.setCell ⟨pa, 0, none⟩ (.bool false)) S n k T pf gf pa B0 j fl false := by
  have n2 : pf ≠ pa := by intro q; have h1 := h.ac; rw [← q] at h1; have := (show W.heap[pf]? = _ from h.fb).symm.trans h1; injection this with this; injection this with _ this _; revert this; decide
  exact ⟨h.fb.setOther n2 _, h.fc.setOther h.ne _, h.ac.set 0 (.bool false), h.ne, h.fl_, h.sp, h.sa, h.b1, h.b2⟩

set_option maxRecDepth 100000 in
set_option maxHeartbeats 12800000 in
theorem refOne_any (S R n : Nat) (T : List Int) (ta : Option Addr) (tn tc : Nat) (w : World) (hL : LineOk S R T) (hT : ArgP w T ta tn tc) (hn : S ^ (2 * R) = n) (hn16 : n ≤ 16) :
    Calls Tryd.prog 68 #[.agg #[.int .i64 2, .int .i64 0, .int .i64 0, .int .i64 (S : Int), .int .i64 (R : Int), .slice ta tn tc, .string ⟨#[]⟩]] w (OneRefPost S n T w) := by
  have hmf : ∀ (fn : Fn) (first cap : Array Value) (w : World), (Instr.makeFunc fn first cap).run Tryd.prog w = .ok (.func fn first cap) w := fun _ _ _ _ => rfl
  obtain ⟨g1, htn, hn0⟩ := hL.graph hT.len hn
  have hta := hT.blk (by have := hT.len; have := hL.pos; omega)
  have hpl : plc S R = n := by rw [plc_end (by omega), hn]
  obtain ⟨PP, hPP⟩ : ∃ PP, OneRefPost S n T w = PP := ⟨_, rfl⟩
  have HPP := hide' hPP
  rw [hPP]
  obtain ⟨N, hN⟩ : ∃ N, n * n = N := ⟨_, rfl⟩
  have HN := hide' hN
  have n256 : N ≤ 256 := by rw [← hN]; exact Nat.mul_le_mul hn16 hn16
  have q1 : (n : Int) * (n : Int) = (N : Int) := by rw [← hN]; simp
  have hmk := run_make_row' (P := Tryd.prog) 155 4 (.bool false) 1 Tryd.underlying155 info_bool rfl .i64 .i64 N (by omega) (by omega)
  obtain ⟨w1, hw1⟩ : ∃ w1, w.alloc (.cells #[.int .i64 2, .int .i64 0, .int .i64 0, .int .i64 (S : Int), .int .i64 (R : Int), .slice ta tn tc, .string ⟨#[]⟩] 24) = w1 := ⟨_, rfl⟩
  have BB := hide' (show Below w.heap.size w w1 by rw [← hw1]; exact (Below.refl _ _).alloc (Nat.le_refl _) _)
  have RX := hide' (show RB w.heap.size S R (.slice ta tn tc) w1 by rw [← hw1]; exact RB.new w S R _ _)
  have HL := hide' hL
  have HT := hide' hT
  have HTA := hide' hta
  have HTN := hide' htn
  have PL := hide' (fun (W : World) => refPlaces_any S R T ta tn tc W hL)
  rw [hpl] at PL
  clear hL hT hta htn hN hPP hn g1 hpl
  obtain ⟨x0, x1, x2, x3, x4, x5, x6⟩ := RX.out
  go_enter Tryd.func68, Tryd.ntmps68
  go_wp2_with fail
  refine (PL.out _).mono ?_
  rintro e w2 ⟨rfl, b⟩
  clear hw1
  have C0 := hide' (show RB w.heap.size S R (.slice ta tn tc) w2 ∧ Below w.heap.size w w2 from ⟨RX.out.next b, BB.out.trans (b.mono BB.out.size)⟩)
  clear b x0 x1 x2 x3 x4 x5 x6 RX BB PL
  go_wp2
  go_loopw [4] (fun av wr => ∃ k : Nat, av = .int .i64 (k : Int) ∧ k ≤ N ∧ Hid ((RB w.heap.size S R (.slice ta tn tc) wr ∧ Below w.heap.size w wr) ∧ ∀ j, j < k → ¬ TurnAt S n T j)) (fun av _ => N - (intOf av).toNat)
  case atStart => exact ⟨0, rfl, by omega, hide' ⟨C0.out, fun j hj => by omega⟩⟩
  case round =>
    clear C0
    obtain ⟨k, rfl, hk, H1⟩ := hrel
    by_cases d : (k : Int) < (N : Int)
    · have kN : k < N := by omega
      obtain ⟨w3, hw3⟩ : ∃ w3, ((wr.alloc (.cells (madeCells #[.bool false] N) 4)).alloc (.cells #[.slice (some ⟨wr.heap.size, 0, none⟩) N N] 155)).alloc (.cells #[.bool false] 4) = w3 := ⟨_, rfl⟩
      have FS := hide' (FJ.start (S := S) (k := k) (T := T) HN.out hw3)
      have a0 : w3.cell? ⟨wr.heap.size + 1 + 1, 0, none⟩ = some (.bool false) := FS.out.1.ac.cell 0
      have a1 := FS.out.1.ac.frozen 0
      rw [show wr.heap.size + 2 = wr.heap.size + 1 + 1 from rfl] at a1
      obtain ⟨w4, hw4⟩ : ∃ w4, w3.setCell ⟨wr.heap.size + 1 + 1, 0, none⟩ (.bool false) = w4 := ⟨_, rfl⟩
      have F0 := hide' (show FJ w4 S n k T (wr.heap.size + 1) wr.heap.size (wr.heap.size + 2) wr.heap.size 0 (List.replicate N false) false ∧ Below wr.heap.size wr w4 by
        rw [← hw4]
        exact ⟨FS.out.1.again, FS.out.2.setCell (p := ⟨wr.heap.size + 1 + 1, 0, none⟩) (by simp; omega) _⟩)
      have R3 := hide' (H1.out.1.1.next F0.out.2)
      clear FS
      have PO := hide' (pairs_one HL.out ((HT.out.below H1.out.1.2).below F0.out.2) (fun g off e => Nat.lt_of_lt_of_le (HTA.out g off e) H1.out.1.2.size) F0.out.2.size hn0 hn16 HTN.out (by rw [HN.out]; exact kN) F0.out.1)
      obtain ⟨x0, x1, x2, x3, x4, x5, x6⟩ := R3.out
      go_wp2_with fail
      refine (show Calls Tryd.prog _ _ _ _ from PO.out).mono ?_
      rintro e w5 ⟨rfl, ⟨fl, an, fj⟩, b5⟩
      have FJ5 := hide' fj
      have B5 := hide' (F0.out.2.trans b5)
      have R5 := hide' (H1.out.1.1.next B5.out)
      clear fj b5 x0 x1 x2 x3 x4 x5 x6 F0 R3 PO hw3 hw4 a0 a1
      have ca : w5.cell? ⟨wr.heap.size + 1 + 1, 0, none⟩ = some (.bool an) := FJ5.out.ac.cell 0
      cases an with
      | false =>
        have NT := hide' FJ5.out.no
        go_wp2
        exact ⟨⟨k + 1, by go_num, by omega, hide' ⟨⟨R5.out, H1.out.1.2.trans (B5.out.mono H1.out.1.2.size)⟩, fun j hj => by
          rcases Nat.lt_or_ge j k with q | q
          · exact H1.out.2 j q
          · rw [show j = k by omega]; exact NT.out⟩⟩, by simp [intOf]; omega⟩
      | true =>
        have cs5 : w5.cell? ⟨wr.heap.size + 1, 0, none⟩ = some (.slice (some ⟨wr.heap.size, 0, none⟩) N N) := by rw [← HN.out]; exact FJ5.out.fb.cell 0
        have RC := hide' (reach_any S R n T ta tn tc wr.heap.size fl w5 HL.out ((HT.out.below H1.out.1.2).below B5.out) (fun g off e => Nat.lt_of_lt_of_le (HTA.out g off e) (Nat.le_trans H1.out.1.2.size B5.out.size)) hn0 hn16 HTN.out FJ5.out.fc FJ5.out.fl_)
        rw [HN.out] at RC
        obtain ⟨x0, x1, x2, x3, x4, x5, x6⟩ := R5.out
        go_wp2_with fail
        refine (show Calls Tryd.prog _ _ _ _ from RC.out).mono ?_
        unfold ReachPost
        rintro e w6 ⟨g, il, rfl, ib, ill, hf, hc, ho, b6⟩
        have YS := hide' (FJ5.out.yes hn0 (by rw [HN.out]; exact kN) hf hc ho)
        have B6 := hide' (B5.out.trans (b6.mono B5.out.size))
        have R6 := hide' (H1.out.1.1.next B6.out)
        rw [HN.out] at ill ⊢
        obtain ⟨β, hβ⟩ : ∃ β, il.getD k false = β := ⟨_, rfl⟩
        have ck : w6.cell? ⟨g, k, none⟩ = some (.bool β) := by rw [ib.cell, bools_at il k (by rw [ill]; exact kN), hβ]
        rw [hβ] at YS
        clear ib hf hc ho b6 ill hβ x0 x1 x2 x3 x4 x5 x6 RC cs5 ca
        cases β with
        | false =>
          go_wp2
          exact ⟨⟨k + 1, by go_num, by omega, hide' ⟨⟨R6.out, H1.out.1.2.trans (B6.out.mono H1.out.1.2.size)⟩, fun j hj => by
            rcases Nat.lt_or_ge j k with q | q
            · exact H1.out.2 j q
            · rw [show j = k by omega]; exact fun t => absurd (YS.out.2 t) (by decide)⟩⟩, by simp [intOf]; omega⟩
        | true =>
          have RE := hide' (show PP (.returned (.bool false)) w6 by rw [← HPP.out]; exact ⟨Or.inl ⟨rfl, k, by rw [HN.out]; exact kN, YS.out.1 rfl⟩, H1.out.1.2.trans (B6.out.mono H1.out.1.2.size)⟩)
          go_wp2
          exact RE.out
    · have kN : k = N := by omega
      have RE := hide' (show PP (.returned (.bool true)) wr by rw [← HPP.out]; exact ⟨Or.inr ⟨rfl, fun j hj => H1.out.2 j (by rw [kN, ← HN.out]; exact hj)⟩, H1.out.1.2⟩)
      clear kN H1
      go_wp2
      exact RE.out
end Go.Proofs.YtdhbdkkchobinaaDoor

namespace Go.Proofs.YtdhbdkkchobinaaDoor
set_option linter.unusedVariables false

theorem wantRf_is {S n : Nat} {u v c : Nat × Nat} : wantRf S n u.1 u.2 v c = true ↔ stepP S n v c = u ∧ c.1 ≠ c.2 := by
  unfold wantRf wantR stepP
  simp [Prod.ext_iff]
theorem ring_turn {S n : Nat} {T : List Int} {u : Nat × Nat} {full : List (Nat × Nat)} (hn : 0 < n) (h : IsRing S n T u full) : ∃ k, k < n * n ∧ TurnAt S n T k := by
  obtain ⟨h1, h2, h3, ⟨cs, d, e, hw⟩, _⟩ := h
  obtain ⟨q1, q2⟩ := wantRf_is.1 hw
  rw [e, okP_append] at h3
  have hl := endP_lt (S := S) hn cs u (by omega) h2
  have hu := un_co (n := n) (u := endP S n u cs) hl.2
  refine ⟨coP n (endP S n u cs), co_lt hl.1 hl.2, d, cs, ?_, q2, ?_, ?_⟩
  · rw [hu]; exact h3.2.1
  · rw [hu, q1]; exact h3.1
  · rw [hu, q1]
/-- The two sides exchanged. -/
def swp (c : Nat × Nat) : Nat × Nat := (c.2, c.1)
theorem ok_swp {S : Nat} {T : List Int} {u c : Nat × Nat} (h : OkWay S T u c) : OkWay S T (swp u) (swp c) := ⟨h.2.1, h.1, h.2.2.symm⟩
theorem step_swp (S n : Nat) (u c : Nat × Nat) : stepP S n (swp u) (swp c) = swp (stepP S n u c) := rfl
theorem okP_swp {S n : Nat} {T : List Int} : ∀ (cs : List (Nat × Nat)) (u : Nat × Nat), okP S n T u cs → okP S n T (swp u) (cs.map swp)
  | [], _, _ => trivial
  | c :: r, u, h => ⟨ok_swp h.1, by rw [step_swp]; exact okP_swp r _ h.2⟩
theorem endP_swp (S n : Nat) : ∀ (cs : List (Nat × Nat)) (u : Nat × Nat), endP S n (swp u) (cs.map swp) = swp (endP S n u cs)
  | [], _ => rfl
  | c :: r, u => by
    show endP S n (stepP S n (swp u) (swp c)) (r.map swp) = _
    rw [step_swp, endP_swp S n r]
    rfl
theorem no_turn {S n : Nat} {T : List Int} (hn : 0 < n) (h : ∀ u : Nat × Nat, u.1 ≤ u.2 → u.2 < n → NoRing S n T u) (k : Nat) : ¬ TurnAt S n T k := by
  rintro ⟨c, cs, h1, h2, h3, h4⟩
  obtain ⟨v, hv⟩ : ∃ v, unP n k = v := ⟨_, rfl⟩
  rw [hv] at h1 h3 h4
  obtain ⟨u, hu⟩ : ∃ u, stepP S n v c = u := ⟨_, rfl⟩
  rw [hu] at h3 h4
  have hl := stepP_lt (S := S) hn v c
  rw [hu] at hl
  rcases Nat.le_total u.1 u.2 with q | q
  · have := h u q hl.2 cs c h3 (by rw [h4]; exact h1)
    rw [h4, wantRf_is.2 ⟨hu, h2⟩] at this
    cases this
  · have := h (swp u) q hl.1 (cs.map swp) (swp c) (okP_swp cs u h3) (by rw [endP_swp, h4]; exact ok_swp h1)
    rw [endP_swp, h4, wantRf_is.2 ⟨by rw [step_swp, hu], fun e => h2 e.symm⟩] at this
    cases this
end Go.Proofs.YtdhbdkkchobinaaDoor

namespace Go.Proofs.YtdhbdkkchobinaaDoor
set_option linter.unusedVariables false

/-- Cells i, .. read as a number, the first the highest. -/
def hn (S : Nat) (f : Nat → Nat) (i : Nat) : Nat → Nat
  | 0 => 0
  | m + 1 => hn S f i m * S + f (i + m)
theorem hn_front (S : Nat) (f : Nat → Nat) : ∀ (m i : Nat), hn S f i (m + 1) = f i * S ^ m + hn S f (i + 1) m
  | 0, i => by simp [hn]
  | m + 1, i => by
    rw [hn, hn_front S f m i, hn, Nat.add_mul, Nat.mul_assoc, ← Nat.pow_succ, Nat.add_assoc, show i + (m + 1) = i + 1 + m by omega]
theorem hn_lt {S : Nat} {f : Nat → Nat} (hf : ∀ t, f t < S) : ∀ (m i : Nat), hn S f i m < S ^ m
  | 0, i => by simp [hn]
  | m + 1, i => by
    have h1 := hn_lt hf m i
    have h2 := hf (i + m)
    have h3 : (hn S f i m + 1) * S ≤ S ^ m * S := Nat.mul_le_mul_right _ h1
    rw [Nat.add_mul] at h3
    rw [hn, Nat.pow_succ]
    omega
theorem hn_step {S : Nat} {f : Nat → Nat} (hf : ∀ t, f t < S) (m i : Nat) : (hn S f i m * S + f (i + m)) % S ^ m = hn S f (i + 1) m := by
  rw [show hn S f i m * S + f (i + m) = hn S f i (m + 1) from rfl, hn_front, Nat.mul_comm, Nat.mul_add_mod, Nat.mod_eq_of_lt (hn_lt hf m _)]
theorem per_mul {L : Nat} {f : Nat → Nat} (pf : ∀ t, f (t + L) = f t) (t : Nat) : ∀ k, f (t + k * L) = f t
  | 0 => by simp
  | k + 1 => by rw [Nat.add_mul, Nat.one_mul, ← Nat.add_assoc, pf, per_mul pf t k]
end Go.Proofs.YtdhbdkkchobinaaDoor

