/-
  What the last text of this claim leans on, part 21: Sw4, Sw5, PSpec, Pa1, Pa2, Pa3, Pa4, Pa5, Pa6, Al1, Wa1, Ci0.
-/
import Derived.Test.YtpajdmhgonmgoaaDoorYt20
import Derived.Test.YtpajdmhgonmgoaaDoorYt10
import Derived.Deep.CutRange
namespace Go.Proofs.YtpajdmhgonmgoaaDoor
open Go.RowKit
set_option linter.unusedVariables false
set_option linter.unusedSimpArgs false
def inB (P x : Int) : Bool := decide (0 ≤ x) && decide (x < P)
theorem inB_yes {P x : Int} (h : 0 ≤ x) (h2 : x < P) : inB P x = true := by unfold inB; simp [h, h2]
theorem inB_no {P x : Int} (h : ¬ (0 ≤ x ∧ x < P)) : inB P x = false := by unfold inB; simp; omega
set_option maxRecDepth 100000 in
theorem isPlaceS_any (P x : Int) (ea : Option Addr) (n c : Nat) (w : World) :
    Calls Tryd.prog 16 #[.agg #[.int .i64 P, .slice ea n c], .int .i64 x] w fun e w' => e = .returned (.bool (inB P x)) ∧ Below w.heap.size w w' := by
  obtain ⟨w1, hw1⟩ : ∃ w1, w.alloc (.cells #[.int .i64 P, .slice ea n c] 24) = w1 := ⟨_, rfl⟩
  have HW1 := hide' hw1
  have B1 := hide' (show Below w.heap.size w w1 by rw [← hw1]; exact (Below.refl _ _).alloc (Nat.le_refl _) _)
  have R1 : w1.heap[w.heap.size]? = some (.cells #[.int .i64 P, .slice ea n c] 24 (0, 0)) := by rw [← hw1]; exact heap_alloc_new _ _
  have y0 := cell_of_row w1 _ 0 _ _ _ R1
  simp at y0
  clear hw1 R1
  obtain ⟨z, hz⟩ : ∃ z, inB P x = z := ⟨_, rfl⟩
  have Y := hide' (fun (h : 0 ≤ x) (h2 : x < P) => show z = true by rw [← hz]; exact inB_yes h h2)
  have N := hide' (fun (h : ¬ (0 ≤ x ∧ x < P)) => show z = false by rw [← hz]; exact inB_no h)
  rw [hz]
  clear hz
  go_enter Tryd.func16, Tryd.ntmps16
  go_upto_region 1 with fail
  rw [HW1.out]
  by_cases q1 : 0 ≤ x
  · by_cases q2 : x < P
    · go_wp2
      go_ret
      rw [Y.out q1 q2]
      exact ⟨by simp [q1, q2], B1.out⟩
    · go_wp2
      go_ret
      rw [N.out (by omega)]
      exact ⟨by simp [q1, q2], B1.out⟩
  · go_wp2
    go_ret
    rw [N.out (by omega)]
    exact ⟨by simp [q1], B1.out⟩
set_option maxRecDepth 100000 in
set_option maxHeartbeats 3200000 in
theorem Index_bool (R : Nat → Bool) (mb P C : Nat) (w : World) (p2 : P ≤ 10) (hc : ∀ k, k < P → w.cell? ⟨mb, k, none⟩ = some (.bool (R k))) :
    Calls Tryd.prog 43 #[.slice (some ⟨mb, 0, none⟩) P C, .bool false] w fun e w' => (∃ i : Int, e = .returned (.int .i64 i) ∧ (i = -1 ∧ (∀ k, k < P → R k = true) ∨ 0 ≤ i ∧ ¬ ∀ k, k < P → R k = true)) ∧ w' = w := by
  have HC := hide' hc
  clear hc
  go_enter Tryd.func43, Tryd.ntmps43
  go_wp2
  go_loopw [8] (fun iv wr => ∃ i : Nat, iv = .int .i64 (i : Int) ∧ i ≤ P ∧ wr = w ∧ Hid (∀ k, k < i → R k = true)) (fun iv _ => P - (intOf iv).toNat)
  case atStart => exact ⟨0, rfl, by omega, rfl, hide' fun k h => by omega⟩
  case round =>
    obtain ⟨i, rfl, hi, rfl, HA⟩ := hrel
    by_cases d : (i : Int) < (P : Int)
    · have ck := HC.out i (by omega)
      cases hr : R i with
      | true =>
        have NX := hide' (show ∀ k, k < i + 1 → R k = true from fun k h => by
          by_cases q : k = i
          · rw [q]; exact hr
          · exact HA.out k (by omega))
        rw [hr] at ck
        clear hr
        go_wp2
        exact ⟨⟨i + 1, by go_num, by omega, by trivial, NX⟩, by simp [intOf]; omega⟩
      | false =>
        have X := hide' (show ¬ ∀ k, k < P → R k = true from fun h => by rw [h i (by omega)] at hr; cases hr)
        rw [hr] at ck
        clear hr
        go_wp2
        go_ret
        exact ⟨⟨_, rfl, Or.inr ⟨by omega, X.out⟩⟩, rfl⟩
    · obtain rfl : i = P := by omega
      go_wp2
      go_ret
      exact ⟨⟨_, rfl, Or.inl ⟨rfl, HA.out⟩⟩, rfl⟩
set_option maxRecDepth 100000 in
theorem Contains_bool (R : Nat → Bool) (mb P C : Nat) (w : World) (p2 : P ≤ 10) (hc : ∀ k, k < P → w.cell? ⟨mb, k, none⟩ = some (.bool (R k))) :
    Calls Tryd.prog 29 #[.slice (some ⟨mb, 0, none⟩) P C, .bool false] w fun e w' => (∃ z : Bool, e = .returned (.bool z) ∧ (z = false ∧ (∀ k, k < P → R k = true) ∨ z = true ∧ ¬ ∀ k, k < P → R k = true)) ∧ w' = w := by
  have IX := hide' (Index_bool R mb P C w p2 hc)
  clear hc
  go_enter Tryd.func29, Tryd.ntmps29
  go_wp2_with fail
  refine IX.out.mono ?_
  rintro e w2 ⟨⟨i, rfl, h⟩, rfl⟩
  have H := hide' h
  clear h
  by_cases q : 0 ≤ i
  · go_wp2
    go_ret
    refine ⟨⟨true, by simp [q], Or.inr ⟨rfl, ?_⟩⟩, rfl⟩
    rcases H.out with ⟨e, _⟩ | ⟨_, h⟩
    · omega
    · exact h
  · go_wp2
    go_ret
    refine ⟨⟨false, by simp [q], Or.inl ⟨rfl, ?_⟩⟩, rfl⟩
    rcases H.out with ⟨_, h⟩ | ⟨e, _⟩
    · exact h
    · omega
end Go.Proofs.YtpajdmhgonmgoaaDoor

namespace Go.Proofs.YtpajdmhgonmgoaaDoor
open Go.RowKit
set_option linter.unusedVariables false
set_option linter.unusedSimpArgs false
/-- Who is reached, as it lies in an array. -/
def BkT (V : World) (mb : Nat) (R : Nat → Bool) : Prop := V.heap[mb]? = some (.cells (arrS 10 fun k => .bool (R k)) 69 (0, 0))
theorem BkT.cell {V : World} {mb k : Nat} {R : Nat → Bool} (h : BkT V mb R) (hk : k < 10) : V.cell? ⟨mb, k, none⟩ = some (.bool (R k)) := by
  have := cell_of_row V mb k _ _ _ h
  rw [arrS_get _ hk] at this
  exact this
theorem BkT.set {V : World} {mb i : Nat} {z : Bool} {R : Nat → Bool} (h : BkT V mb R) : BkT (V.setCell ⟨mb, i, none⟩ (.bool z)) mb (fun k => if k = i then z else R k) := by
  have := heap_setCell_same V mb i _ _ (.bool z) h
  rw [arrS_set] at this
  unfold BkT
  rw [this]
  congr 2
  exact arrS_ext fun k _ => by by_cases q : k = i <;> simp [q]
theorem BkT.ext {V : World} {mb : Nat} {R R' : Nat → Bool} (h : BkT V mb R) (e : ∀ k, k < 10 → R k = R' k) : BkT V mb R' := by
  unfold BkT at *
  rw [h]
  congr 2
  exact arrS_ext fun k hk => by rw [e k hk]
theorem rc_both {R : Nat → Bool} {e : EgT} {a b : Nat} {z : Bool} (ha : e.a = a) (hb : e.b = b) (h : (R a || R b) = z) (k : Nat) : (if k = b then z else if k = a then z else R k) = rcE R (edS e) k := by
  unfold rcE edS
  rw [ha, hb]
  have e1 : (R ((a : Int).toNat) || R ((b : Int).toNat)) = z := by simpa using h
  by_cases q : k = b
  · rw [if_pos q, if_pos (Or.inr (by simpa using q)), e1]
  · by_cases r : k = a
    · rw [if_neg q, if_pos r, if_pos (Or.inl (by simpa using r)), e1]
    · rw [if_neg q, if_neg r, if_neg (by simp; omega)]
def allR (P : Nat) (xs : List EgT) : Prop := ∀ k, k < P → rcM xs P k = true
set_option maxRecDepth 100000 in
set_option maxHeartbeats 12800000 in
theorem connected_any (P : Nat) (xs : List EgT) (ea : Option Addr) (n c : Nat) (w : World) (hE : ArgE w xs ea n c) (p1 : 1 ≤ P) (p2 : P ≤ 10) (n4 : n ≤ 40) (ok : ∀ j, j < xs.length → ¬ badE P (xs.getD j egz)) :
    Calls Tryd.prog 17 #[.agg #[.int .i64 (P : Int), .slice ea n c]] w fun e w' => (∃ z : Bool, e = .returned (.bool z) ∧ (z = true ↔ allR P xs)) ∧ Below w.heap.size w w' := by
  obtain ⟨w1, hw1⟩ : ∃ w1, w.alloc (.cells #[.int .i64 (P : Int), .slice ea n c] 24) = w1 := ⟨_, rfl⟩
  have HW1 := hide' hw1
  have B1 := hide' (show Below w.heap.size w w1 by rw [← hw1]; exact (Below.refl _ _).alloc (Nat.le_refl _) _)
  have R1 := hide' (show w1.heap[w.heap.size]? = some (.cells #[.int .i64 (P : Int), .slice ea n c] 24 (0, 0)) by rw [← hw1]; exact heap_alloc_new _ _)
  have HE := hide' (fun (V : World) (h : Below w.heap.size w V) => hE.below h)
  have HL := hide' hE.len
  have OK := hide' ok
  clear hw1 hE ok
  go_enter Tryd.func17, Tryd.ntmps17
  go_upto_region 1 with fail
  rw [HW1.out]
  go_upto_region 2 with fail
  obtain ⟨mb, hmb⟩ : ∃ mb, w1.heap.size = mb := ⟨_, rfl⟩
  obtain ⟨w2, hw2⟩ : ∃ w2, w1.alloc (.cells #[.bool false, .bool false, .bool false, .bool false, .bool false, .bool false, .bool false, .bool false, .bool false, .bool false] 69) = w2 := ⟨_, rfl⟩
  have K2 : BkT w2 mb (fun _ => false) := by rw [← hw2, ← hmb]; exact heap_alloc_new _ _
  have B2 := hide' (show Below w1.heap.size w1 w2 by rw [← hw2]; exact (Below.refl _ _).alloc (Nat.le_refl _) _)
  have M3 := hide' (show w1.heap.size ≤ mb by omega)
  rw [hmb, hw2]
  have c0 := K2.cell (k := 0) (by omega)
  have f0 := frozen_of_row w2 mb 0 _ _ K2
  have K3 := hide' ((K2.set (i := 0) (z := true)).ext (R' := rcM xs 0) fun k _ => by unfold rcM; by_cases q : k = 0 <;> simp [q])
  have B3 := hide' (show Below w1.heap.size w1 (w2.setCell ⟨mb, 0, none⟩ (.bool true)) from B2.out.setCell M3.out _)
  clear hmb hw2 K2
  have RW := hide' (fun (V : World) (h : Below w1.heap.size w1 V) => (h.block _ (ltS_of_block R1.out)).trans R1.out)
  go_upto_region 3 with fail
  clear c0 f0
  obtain ⟨w3, hw3⟩ : ∃ w3, w2.setCell ⟨mb, 0, none⟩ (.bool true) = w3 := ⟨_, rfl⟩
  rw [hw3] at K3 B3 ⊢
  clear hw3
  have y0 := cell_of_row w3 _ 0 _ _ _ (RW.out w3 B3.out)
  simp at y0
  go_wp2
  go_loopw [10] (fun mv V => ∃ m : Nat, mv = .int .i64 (m : Int) ∧ m ≤ P ∧ Hid (BkT V mb (rcM xs m)) ∧ Hid (Below w1.heap.size w1 V)) (fun mv _ => P - (intOf mv).toNat)
  case atStart => exact ⟨0, rfl, by omega, K3, B3⟩
  case round =>
    obtain ⟨m, rfl, hm, KM, BM⟩ := hrel
    clear y0
    by_cases dm : (m : Int) < (P : Int)
    · have y1 := cell_of_row wr _ 1 _ _ _ (RW.out wr BM.out)
      simp at y1
      go_wp2
      go_loopw [15] (fun iv V => ∃ i : Nat, iv = .int .i64 (i : Int) ∧ i ≤ n ∧ Hid (BkT V mb (rcS xs (rcM xs m) i)) ∧ Hid (Below w1.heap.size w1 V)) (fun iv _ => n - (intOf iv).toNat)
      case atStart => exact ⟨0, rfl, by omega, KM, BM⟩
      case round =>
        obtain ⟨j, rfl, hj, KJ, BJ⟩ := hrel
        clear y1
        by_cases dj : (j : Int) < (n : Int)
        · have hl : j < xs.length := by have := HL.out; omega
          obtain ⟨g, off, rfl, hg, e0, e1, e2⟩ := (HE.out wr (B1.out.trans (BJ.out.mono B1.out.size))).cells j hl
          obtain ⟨⟨p, q, t⟩, hx⟩ : ∃ x, xs[j] = x := ⟨_, rfl⟩
          rw [hx] at e0 e1 e2
          simp only at e0 e1 e2
          have EQ := hide' (show xs.getD j egz = ⟨p, q, t⟩ by rw [eg_at hl, hx])
          have b1 := OK.out j hl
          rw [EQ.out] at b1
          unfold badE at b1
          simp only at b1
          obtain ⟨pa, rfl⟩ := Int.eq_ofNat_of_zero_le (show 0 ≤ p by omega)
          obtain ⟨qa, rfl⟩ := Int.eq_ofNat_of_zero_le (show 0 ≤ q by omega)
          have lp : (pa : Int) < 10 := by omega
          have lq : (qa : Int) < 10 := by omega
          have lp' : pa < 10 := by omega
          have lq' : qa < 10 := by omega
          obtain ⟨R, hR⟩ : ∃ R, rcS xs (rcM xs m) j = R := ⟨_, rfl⟩
          obtain ⟨eb, heb⟩ : ∃ eb, wr.heap.size = eb := ⟨_, rfl⟩
          obtain ⟨w4, hw4⟩ : ∃ w4, wr.alloc (.cells #[.int .i64 (pa : Int), .int .i64 (qa : Int), .int .i64 t] 46) = w4 := ⟨_, rfl⟩
          have E4 := hide' (show w4.heap[eb]? = some (.cells #[.int .i64 (pa : Int), .int .i64 (qa : Int), .int .i64 t] 46 (0, 0)) by rw [← hw4, ← heb]; exact heap_alloc_new _ _)
          have K4 := hide' (show BkT w4 mb R by rw [← hw4, ← hR]; exact (heap_alloc_old _ _ (ltS_of_block KJ.out)).trans KJ.out)
          have B4 := hide' (show Below w1.heap.size w1 w4 by rw [← hw4]; exact BJ.out.alloc BJ.out.size _)
          have HEB := hide' heb
          have HW4 := hide' hw4
          have KD := hide' (show BkT w4.drew mb R from K4.out)
          have BD := hide' B4.out.drew
          have NEB := hide' (show eb ≠ mb from fun e => by
            have h1 := E4.out
            rw [e, K4.out] at h1
            simp at h1)
          clear hx b1 heb hw4
          go_upto_region 8 with fail
          rw [HEB.out, HW4.out]
          clear e0 e1 e2
          have y0 := cell_of_row w4 eb 0 _ _ _ E4.out
          have y1 := cell_of_row w4 eb 1 _ _ _ E4.out
          simp at y0 y1
          have ca := K4.out.cell (k := pa) lp'
          have cb := K4.out.cell (k := qa) lq'
          have fa := frozen_of_row w4 mb pa _ _ K4.out
          have fb := frozen_of_row w4 mb qa _ _ K4.out
          have nq := NEB.out
          cases ha : R pa with
          | true =>
            cases hb : R qa with
            | true =>
              have KX := hide' (fun (V : World) (h : BkT V mb R) => ((h.set (i := pa) (z := true)).set (i := qa) (z := true)).ext (R' := rcS xs (rcM xs m) (j + 1)) (fun k _ => by
                show _ = rcE (rcS xs (rcM xs m) j) (edS (xs.getD j egz)) k
                rw [hR, EQ.out]; exact rc_both rfl rfl (by rw [ha, hb]; rfl) k))
              have cc := (K4.out.set (i := pa) (z := true)).cell (k := qa) lq'
              obtain ⟨cv, hcv⟩ : ∃ cv : Bool, (if qa = pa then true else R qa) = cv := ⟨_, rfl⟩
              rw [hcv] at cc
              rw [ha] at ca
              rw [hb] at cb
              clear ha hb hR hcv
              go_upto_region 9 with fail
              go_region
              go_wp2
              refine ⟨⟨j + 1, by go_num, by omega, hide' ?_, hide' ?_⟩, by simp [intOf]; omega⟩
              · exact KX.out _ KD.out
              · exact (BD.out.setCell M3.out _).setCell M3.out _
            | false =>
              have KX := hide' (fun (V : World) (h : BkT V mb R) => ((h.set (i := pa) (z := true)).set (i := qa) (z := true)).ext (R' := rcS xs (rcM xs m) (j + 1)) (fun k _ => by
                show _ = rcE (rcS xs (rcM xs m) j) (edS (xs.getD j egz)) k
                rw [hR, EQ.out]; exact rc_both rfl rfl (by rw [ha, hb]; rfl) k))
              have cc := (K4.out.set (i := pa) (z := true)).cell (k := qa) lq'
              obtain ⟨cv, hcv⟩ : ∃ cv : Bool, (if qa = pa then true else R qa) = cv := ⟨_, rfl⟩
              rw [hcv] at cc
              rw [ha] at ca
              rw [hb] at cb
              clear ha hb hR hcv
              go_upto_region 9 with fail
              go_region
              go_wp2
              refine ⟨⟨j + 1, by go_num, by omega, hide' ?_, hide' ?_⟩, by simp [intOf]; omega⟩
              · exact KX.out _ KD.out
              · exact (BD.out.setCell M3.out _).setCell M3.out _
          | false =>
            cases hb : R qa with
            | true =>
              have KX := hide' (fun (V : World) (h : BkT V mb R) => ((h.set (i := pa) (z := true)).set (i := qa) (z := true)).ext (R' := rcS xs (rcM xs m) (j + 1)) (fun k _ => by
                show _ = rcE (rcS xs (rcM xs m) j) (edS (xs.getD j egz)) k
                rw [hR, EQ.out]; exact rc_both rfl rfl (by rw [ha, hb]; rfl) k))
              have cc := (K4.out.set (i := pa) (z := true)).cell (k := qa) lq'
              obtain ⟨cv, hcv⟩ : ∃ cv : Bool, (if qa = pa then true else R qa) = cv := ⟨_, rfl⟩
              rw [hcv] at cc
              rw [ha] at ca
              rw [hb] at cb
              clear ha hb hR hcv
              go_upto_region 9 with fail
              go_region
              go_wp2
              refine ⟨⟨j + 1, by go_num, by omega, hide' ?_, hide' ?_⟩, by simp [intOf]; omega⟩
              · exact KX.out _ KD.out
              · exact (BD.out.setCell M3.out _).setCell M3.out _
            | false =>
              have KX := hide' (fun (V : World) (h : BkT V mb R) => ((h.set (i := pa) (z := false)).set (i := qa) (z := false)).ext (R' := rcS xs (rcM xs m) (j + 1)) (fun k _ => by
                show _ = rcE (rcS xs (rcM xs m) j) (edS (xs.getD j egz)) k
                rw [hR, EQ.out]; exact rc_both rfl rfl (by rw [ha, hb]; rfl) k))
              have cc := (K4.out.set (i := pa) (z := false)).cell (k := qa) lq'
              obtain ⟨cv, hcv⟩ : ∃ cv : Bool, (if qa = pa then false else R qa) = cv := ⟨_, rfl⟩
              rw [hcv] at cc
              rw [ha] at ca
              rw [hb] at cb
              clear ha hb hR hcv
              go_upto_region 9 with fail
              go_region
              go_wp2
              refine ⟨⟨j + 1, by go_num, by omega, hide' ?_, hide' ?_⟩, by simp [intOf]; omega⟩
              · exact KX.out _ KD.out
              · exact (BD.out.setCell M3.out _).setCell M3.out _
        · obtain rfl : j = n := by omega
          have KN := hide' (show BkT wr mb (rcM xs (m + 1)) by
            have e := HL.out
            show BkT wr mb (rcS xs (rcM xs m) xs.length)
            rw [← e]; exact KJ.out)
          go_wp2
          exact ⟨⟨m + 1, by go_num, by omega, KN, BJ⟩, by simp [intOf]; omega⟩
    · obtain rfl : m = P := by omega
      have y0 := cell_of_row wr _ 0 _ _ _ (RW.out wr BM.out)
      simp at y0
      have CO := hide' (Contains_bool (rcM xs m) mb m 10 wr p2 (fun k hk => KM.out.cell (by omega)))
      have FIN := hide' (B1.out.trans (BM.out.mono B1.out.size))
      have m10 : (m : Int) ≤ 10 := by omega
      go_wp2_with fail
      refine CO.out.mono ?_
      rintro e w5 ⟨⟨z, rfl, h⟩, rfl⟩
      have H := hide' h
      clear h
      go_wp2
      go_ret
      refine ⟨⟨!z, rfl, ?_⟩, FIN.out⟩
      unfold allR
      rcases H.out with ⟨e, h⟩ | ⟨e, h⟩
      · subst e; simp; exact h
      · subst e; simp; exact Classical.not_forall.1 h |>.elim fun k hk => ⟨k, by simpa using hk⟩
end Go.Proofs.YtpajdmhgonmgoaaDoor

namespace Go.Proofs.YtpajdmhgonmgoaaDoor

/-- One tag, at j: on, done, or wrong. -/
abbrev Go1 : Type := (Nat × Nat × Nat × List Int) ⊕ (List Int ⊕ (Nat × Nat))
abbrev Go1.on (i x y : Nat) (xs : List Int) : Go1 := Sum.inl (i, x, y, xs)
abbrev Go1.done (xs : List Int) : Go1 := Sum.inr (Sum.inl xs)
abbrev Go1.bad (a e : Nat) : Go1 := Sum.inr (Sum.inr (a, e))

end Go.Proofs.YtpajdmhgonmgoaaDoor

namespace Go.Proofs.YtpajdmhgonmgoaaDoor
open Go.RowKit
set_option linter.unusedVariables false

/-- What the reader holds, its text aside. -/
structure Rv where
  i : Nat
  fl : Int
  wd : Int
  hi : Int
  cs : Value
  rt : Int
  dn : Int
  bg : Int
  tm : Int

def Rv.val (r : Rv) (s : ByteArray) : Nat → Value
  | 0 => .string s
  | 1 => .int .i64 (r.i : Int)
  | 2 => .int .i64 r.fl
  | 3 => .int .i64 r.wd
  | 4 => .int .i64 r.hi
  | 5 => r.cs
  | 6 => .int .i64 r.rt
  | 7 => .int .i64 r.dn
  | 8 => .int .i64 r.bg
  | 9 => .int .i64 r.tm
  | _ => .bool false

structure RAt (b : Nat) (s : ByteArray) (r : Rv) (w : World) : Prop where
  cell : ∀ k, k < 10 → w.cell? ⟨b, k, none⟩ = some (r.val s k)
  fz : ∀ k, k < 10 → w.frozen? ⟨b, k, none⟩ = false

theorem RAt.lt {b : Nat} {s : ByteArray} {r : Rv} {w : World} (h : RAt b s r w) : b < w.heap.size := by
  rcases Nat.lt_or_ge b w.heap.size with k | k
  · exact k
  · have := h.cell 0 (by omega); simp [World.cell?, Array.getElem?_eq_none k] at this
theorem RAt.block {b : Nat} {s : ByteArray} {r : Rv} {w w' : World} (h : RAt b s r w) (e : w'.heap[b]? = w.heap[b]?) : RAt b s r w' :=
  ⟨fun k hk => (World.cell?_of_block (w := w) (a := ⟨b, k, none⟩) e).trans (h.cell k hk), fun k hk => (World.frozen?_of_block (w := w) (a := ⟨b, k, none⟩) e).trans (h.fz k hk)⟩
theorem RAt.drewN {b : Nat} {s : ByteArray} {r : Rv} {w : World} (h : RAt b s r w) (n : Nat) : RAt b s r (w.drewN n) := h.block rfl
theorem RAt.alloc {b : Nat} {s : ByteArray} {r : Rv} {w : World} (h : RAt b s r w) (o : Obj) : RAt b s r (w.alloc o) := h.block (Below.heap_alloc _ _ _ h.lt)
theorem RAt.below {b : Nat} {s : ByteArray} {r : Rv} {w w' : World} (h : RAt b s r w) (hb : Below w.heap.size w w') : RAt b s r w' := h.block (hb.block b h.lt)
theorem RAt.set {b : Nat} {s : ByteArray} {r r' : Rv} {w : World} (h : RAt b s r w) (k : Nat) (u : Value) (hk : k < 10) (h1 : r'.val s k = u) (h2 : ∀ j, j < 10 → j ≠ k → r'.val s j = r.val s j) : RAt b s r' (w.setCell ⟨b, k, none⟩ u) := by
  refine ⟨fun j hj => ?_, fun j hj => by rw [World.frozen?_setCell]; exact h.fz j hj⟩
  by_cases e : j = k
  · subst e; rw [h1]; exact World.cell?_setCell_same (w := w) (a := ⟨b, j, none⟩) (v := _) (h := h.cell j hj)
  · rw [h2 j hj e]; exact (World.cell?_setCell_other (w := w) (a := ⟨b, k, none⟩) (b := ⟨b, j, none⟩) (v := _) (h := fun q => e (congrArg Addr.off q).symm)).trans (h.cell j hj)

/-- The ten cells, and that they may be written. -/
structure Ten (b : Nat) (s : ByteArray) (r : Rv) (w : World) : Prop where
  c0 : w.cell? ⟨b, 0, none⟩ = some (.string s)
  c1 : w.cell? ⟨b, 1, none⟩ = some (.int .i64 (r.i : Int))
  c2 : w.cell? ⟨b, 2, none⟩ = some (.int .i64 r.fl)
  c3 : w.cell? ⟨b, 3, none⟩ = some (.int .i64 r.wd)
  c4 : w.cell? ⟨b, 4, none⟩ = some (.int .i64 r.hi)
  c5 : w.cell? ⟨b, 5, none⟩ = some (r.cs)
  c6 : w.cell? ⟨b, 6, none⟩ = some (.int .i64 r.rt)
  c7 : w.cell? ⟨b, 7, none⟩ = some (.int .i64 r.dn)
  c8 : w.cell? ⟨b, 8, none⟩ = some (.int .i64 r.bg)
  c9 : w.cell? ⟨b, 9, none⟩ = some (.int .i64 r.tm)
  f1 : w.frozen? ⟨b, 1, none⟩ = false
  f2 : w.frozen? ⟨b, 2, none⟩ = false
  f3 : w.frozen? ⟨b, 3, none⟩ = false
  f4 : w.frozen? ⟨b, 4, none⟩ = false
  f5 : w.frozen? ⟨b, 5, none⟩ = false
  f6 : w.frozen? ⟨b, 6, none⟩ = false
  f7 : w.frozen? ⟨b, 7, none⟩ = false
  f8 : w.frozen? ⟨b, 8, none⟩ = false
  f9 : w.frozen? ⟨b, 9, none⟩ = false
theorem RAt.ten {b : Nat} {s : ByteArray} {r : Rv} {w : World} (h : RAt b s r w) : Ten b s r w :=
  ⟨h.cell 0 (by omega), h.cell 1 (by omega), h.cell 2 (by omega), h.cell 3 (by omega), h.cell 4 (by omega), h.cell 5 (by omega), h.cell 6 (by omega), h.cell 7 (by omega), h.cell 8 (by omega), h.cell 9 (by omega), h.fz 1 (by omega), h.fz 2 (by omega), h.fz 3 (by omega), h.fz 4 (by omega), h.fz 5 (by omega), h.fz 6 (by omega), h.fz 7 (by omega), h.fz 8 (by omega), h.fz 9 (by omega)⟩

/-- What a method of the reader leaves: the reader so, and nothing else turned. -/
def Left (b : Nat) (s : ByteArray) (r : Rv) (w w' : World) : Prop := RAt b s r w' ∧ Rd b w w'
end Go.Proofs.YtpajdmhgonmgoaaDoor

namespace Go.Proofs.YtpajdmhgonmgoaaDoor
open Go.RowKit
set_option linter.unusedVariables false

end Go.Proofs.YtpajdmhgonmgoaaDoor

namespace Go.Proofs.YtpajdmhgonmgoaaDoor
open Go.RowKit
set_option linter.unusedVariables false

end Go.Proofs.YtpajdmhgonmgoaaDoor

namespace Go.Proofs.YtpajdmhgonmgoaaDoor
open Go.RowKit
set_option linter.unusedVariables false

end Go.Proofs.YtpajdmhgonmgoaaDoor

namespace Go.Proofs.YtpajdmhgonmgoaaDoor
open Go.RowKit
set_option linter.unusedVariables false

end Go.Proofs.YtpajdmhgonmgoaaDoor

namespace Go.Proofs.YtpajdmhgonmgoaaDoor
open Go.RowKit
set_option linter.unusedVariables false

/-- At block g these ints, writable. -/
structure Cel (w : World) (g : Nat) (xs : List Int) : Prop where
  lt : g < w.heap.size
  cells : ∀ k, k < xs.length → w.cell? ⟨g, k, none⟩ = some (.int .i64 (xs.getD k 0))
  fz : ∀ k, w.frozen? ⟨g, k, none⟩ = false
theorem Cel.block {w w' : World} {g : Nat} {xs : List Int} (h : Cel w g xs) (hs : w.heap.size ≤ w'.heap.size) (e : w'.heap[g]? = w.heap[g]?) : Cel w' g xs :=
  ⟨Nat.lt_of_lt_of_le h.lt hs, fun k hk => (World.cell?_of_block (w := w) (a := ⟨g, k, none⟩) e).trans (h.cells k hk), fun k => (World.frozen?_of_block (w := w) (a := ⟨g, k, none⟩) e).trans (h.fz k)⟩
theorem Cel.rd {w w' : World} {g b : Nat} {xs : List Int} (h : Cel w g xs) (hr : Rd b w w') (hb : g ≠ b) : Cel w' g xs := h.block hr.size (hr.block g h.lt hb)
theorem Cel.below {w w' : World} {g : Nat} {xs : List Int} (h : Cel w g xs) (hb : Below w.heap.size w w') : Cel w' g xs := h.block hb.size (hb.block g h.lt)
theorem Cel.set {w : World} {g : Nat} {xs : List Int} (h : Cel w g xs) (p : Nat) (x : Int) (hp : p < xs.length) : Cel (w.setCell ⟨g, p, none⟩ (.int .i64 x)) g (xs.set p x) := by
  refine ⟨by rw [World.size_setCell]; exact h.lt, fun k hk => ?_, fun k => by rw [World.frozen?_setCell]; exact h.fz k⟩
  rw [List.length_set] at hk
  by_cases e : k = p
  · subst e
    rw [show (xs.set k x).getD k 0 = x by simp [List.getD, hk]]
    exact World.cell?_setCell_same (w := w) (a := ⟨g, k, none⟩) (v := _) (h := h.cells k hk)
  · rw [show (xs.set p x).getD k 0 = xs.getD k 0 by simp [List.getD, Ne.symm e]]
    exact (World.cell?_setCell_other (w := w) (a := ⟨g, p, none⟩) (b := ⟨g, k, none⟩) (v := _) (h := fun q => e (congrArg Addr.off q).symm)).trans (h.cells k hk)

end Go.Proofs.YtpajdmhgonmgoaaDoor

namespace Go.Proofs.YtpajdmhgonmgoaaDoor
open Go.RowKit
set_option linter.unusedVariables false

end Go.Proofs.YtpajdmhgonmgoaaDoor

namespace Go.Proofs.YtpajdmhgonmgoaaDoor
open Go.RowKit
set_option linter.unusedVariables false

/-- A pattern that came in, as a value: its cells anywhere. -/
structure ArgP (w : World) (xs : List Int) (a : Option Addr) (n c : Nat) : Prop where
  len : n = xs.length
  max : n ≤ maxLen
  cells : ∀ k (h : k < xs.length), ∃ g off, a = some ⟨g, off, none⟩ ∧ g < w.heap.size ∧ w.cell? ⟨g, off + k, none⟩ = some (.int .i64 xs[k])
theorem ArgP.below {w w' : World} {xs : List Int} {a : Option Addr} {n c : Nat} (h : ArgP w xs a n c) (hb : Below w.heap.size w w') : ArgP w' xs a n c :=
  ⟨h.len, h.max, fun k hk => by
    obtain ⟨g, off, e, hg, hc⟩ := h.cells k hk
    exact ⟨g, off, e, Nat.lt_of_lt_of_le hg hb.size, (World.cell?_of_block (w := w) (a := ⟨g, off + k, none⟩) (hb.block g hg)).trans hc⟩⟩
theorem ArgP.alloc {w : World} {xs : List Int} {a : Option Addr} {n c : Nat} (h : ArgP w xs a n c) (x : Obj) : ArgP (w.alloc x) xs a n c :=
  h.below ((Below.refl _ _).alloc (Nat.le_refl _) _)

def errOf (f : Nat) : Value := if f = 0 then .nilIface else .iface 48 (.int .i64 (f : Int))

end Go.Proofs.YtpajdmhgonmgoaaDoor

namespace Go.Proofs.YtpajdmhgonmgoaaDoor
open Go.RowKit
set_option linter.unusedVariables false

theorem list_ne_len {xs ys : List Int} (h : xs.length ≠ ys.length) : decide (xs = ys) = false := by
  simp; intro e; exact h (by rw [e])
theorem list_ne_at {xs ys : List Int} {k : Nat} (hx : k < xs.length) (hy : k < ys.length) (h : xs[k] ≠ ys[k]) : decide (xs = ys) = false := by
  simp; intro e; subst e; exact h rfl

set_option maxHeartbeats 1600000 in
theorem Ints_any (xs ys : List Int) (a b : Option Addr) (n c m d : Nat) (w : World) (hA : ArgP w xs a n c) (hB : ArgP w ys b m d) :
    Calls Tryd.prog 12 #[.slice a n c, .slice b m d] w fun e w' => e = .returned (.bool (decide (xs = ys))) ∧ ∃ q, w' = w.drewN q := by
  have HA := hide' hA
  have HB := hide' hB
  have hlx := hA.len
  have hly := hB.len
  have hma := hA.max
  have hmb := hB.max
  have LX := hide' hlx
  have LY := hide' hly
  unfold maxLen at hma hmb
  by_cases hnm : n = m
  · subst hnm
    clear hA hB hlx hly
    have EQ := hide' (fun (h : ∀ j (h1 : j < xs.length) (h2 : j < ys.length), xs[j] = ys[j]) => show decide (xs = ys) = true by
      simp; exact List.ext_getElem (by rw [← LX.out, ← LY.out]) fun j h1 h2 => h j h1 h2)
    go_enter Tryd.func12, Tryd.ntmps12
    go_wp2
    go_loopw [5] (fun iv wr => ∃ k q : Nat, iv = .int .i64 (k : Int) ∧ k ≤ n ∧ wr = w.drewN q ∧ Hid (∀ j (h1 : j < xs.length) (h2 : j < ys.length), j < k → xs[j] = ys[j])) (fun iv _ => n - (intOf iv).toNat)
    case atStart => exact ⟨0, 0, rfl, by omega, rfl, fun j h1 h2 h => by omega⟩
    case round =>
      obtain ⟨k, q, rfl, hk, rfl, HK⟩ := hrel
      by_cases hkn : (k : Int) < (n : Int)
      · have l1 : k < xs.length := by have := LX.out; omega
        have l2 : k < ys.length := by have := LY.out; omega
        obtain ⟨ga, oa, rfl, -, c1⟩ := HA.out.cells k l1
        obtain ⟨gb, ob, rfl, -, c2⟩ := HB.out.cells k l2
        obtain ⟨x, hx⟩ : ∃ x, xs[k] = x := ⟨_, rfl⟩
        obtain ⟨y, hy⟩ : ∃ y, ys[k] = y := ⟨_, rfl⟩
        rw [hx] at c1
        rw [hy] at c2
        have HX := hide' hx
        have HY := hide' hy
        clear hx hy
        by_cases e : x = y
        · subst e
          have m1 : (x != x) = false := by simp
          go_wp2
          go_quiet (fail)
          go_wp2
          refine ⟨⟨k + 1, q + nq, by go_num, by omega, rfl, fun j h1 h2 h => ?_⟩, by simp [intOf]; omega⟩
          by_cases ej : j = k
          · subst ej; rw [HX.out, HY.out]
          · exact HK.out j h1 h2 (by omega)
        · have m1 : (x != y) = true := by simp [e]
          have F := hide' (list_ne_at l1 l2 (by rw [HX.out, HY.out]; exact e))
          clear e
          go_wp2
          go_quiet (fail)
          go_wp2
          go_ret
          exact ⟨by rw [F.out]; rfl, q + nq, by simp [World.drewN, Nat.add_assoc]⟩
      · have F := hide' (EQ.out fun j h1 h2 => HK.out j h1 h2 (by have := LX.out; omega))
        go_wp2
        go_ret
        exact ⟨by rw [F.out]; rfl, q, rfl⟩
  · have m1 : ((n : Int) != (m : Int)) = true := by simp; omega
    have F := hide' (list_ne_len (xs := xs) (ys := ys) (by rw [← hlx, ← hly]; exact hnm))
    clear hA hB hlx hly hnm
    go_enter Tryd.func12, Tryd.ntmps12
    go_wp2
    go_ret
    exact ⟨by rw [F.out]; rfl, 0, rfl⟩

end Go.Proofs.YtpajdmhgonmgoaaDoor

