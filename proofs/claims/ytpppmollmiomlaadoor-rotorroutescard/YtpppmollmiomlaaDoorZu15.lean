/-
  What the last text of this claim leans on, part 15: Sw5, Sw6.
-/
import Derived.Test.YtpppmollmiomlaaDoorZu14
import Derived.Test.YtpppmollmiomlaaDoorZu4
namespace Go.Proofs.YtpppmollmiomlaaDoor
open Go.RowKit
set_option linter.unusedVariables false
set_option linter.unusedSimpArgs false
/-- Who is reached, as it lies in an array. -/
def BkT (V : World) (mb : Nat) (R : Nat → Bool) : Prop := V.heap[mb]? = some (.cells (arrS 10 fun k => .bool (R k)) 97 (0, 0))
theorem BkT.cell {V : World} {mb k : Nat} {R : Nat → Bool} (h : BkT V mb R) (hk : k < 10) : V.cell? ⟨mb, k, none⟩ = some (.bool (R k)) := by
  have := cell_of_row V mb k _ _ _ h
  rw [arrS_get _ hk] at this
  exact this
theorem BkT.set {V : World} {mb i : Nat} {z : Bool} {R : Nat → Bool} (h : BkT V mb R) : BkT (V.setCell ⟨mb, i, none⟩ (.bool z)) mb (fun k => if k = i then z else R k) := by
  have := heap_setCell_same V mb i _ _ (.bool z) h
  rw [arrS_set] at this
  unfold BkT
  rw [this]
  congr 2
  exact arrS_ext fun k _ => by by_cases q : k = i <;> simp [q]
theorem BkT.ext {V : World} {mb : Nat} {R R' : Nat → Bool} (h : BkT V mb R) (e : ∀ k, k < 10 → R k = R' k) : BkT V mb R' := by
  unfold BkT at *
  rw [h]
  congr 2
  exact arrS_ext fun k hk => by rw [e k hk]
theorem rc_both {R : Nat → Bool} {e : EgT} {a b : Nat} {z : Bool} (ha : e.a = a) (hb : e.b = b) (h : (R a || R b) = z) (k : Nat) : (if k = b then z else if k = a then z else R k) = rcE R (edS e) k := by
  unfold rcE edS
  rw [ha, hb]
  have e1 : (R ((a : Int).toNat) || R ((b : Int).toNat)) = z := by simpa using h
  by_cases q : k = b
  · rw [if_pos q, if_pos (Or.inr (by simpa using q)), e1]
  · by_cases r : k = a
    · rw [if_neg q, if_pos r, if_pos (Or.inl (by simpa using r)), e1]
    · rw [if_neg q, if_neg r, if_neg (by simp; omega)]
def allR (P : Nat) (xs : List EgT) : Prop := ∀ k, k < P → rcM xs P k = true
set_option maxRecDepth 100000 in
set_option maxHeartbeats 12800000 in
theorem connected_any (P : Nat) (xs : List EgT) (ea : Option Addr) (n c : Nat) (w : World) (hE : ArgE w xs ea n c) (p1 : 1 ≤ P) (p2 : P ≤ 10) (n4 : n ≤ 40) (ok : ∀ j, j < xs.length → ¬ badE P (xs.getD j egz)) :
    Calls Tryd.prog 37 #[.agg #[.int .i64 (P : Int), .slice ea n c]] w fun e w' => (∃ z : Bool, e = .returned (.bool z) ∧ (z = true ↔ allR P xs)) ∧ Below w.heap.size w w' := by
  obtain ⟨w1, hw1⟩ : ∃ w1, w.alloc (.cells #[.int .i64 (P : Int), .slice ea n c] 24) = w1 := ⟨_, rfl⟩
  have HW1 := hide' hw1
  have B1 := hide' (show Below w.heap.size w w1 by rw [← hw1]; exact (Below.refl _ _).alloc (Nat.le_refl _) _)
  have R1 := hide' (show w1.heap[w.heap.size]? = some (.cells #[.int .i64 (P : Int), .slice ea n c] 24 (0, 0)) by rw [← hw1]; exact heap_alloc_new _ _)
  have HE := hide' (fun (V : World) (h : Below w.heap.size w V) => hE.below h)
  have HL := hide' hE.len
  have OK := hide' ok
  clear hw1 hE ok
  go_enter Tryd.func37, Tryd.ntmps37
  go_upto_region 1 with fail
  rw [HW1.out]
  go_upto_region 2 with fail
  obtain ⟨mb, hmb⟩ : ∃ mb, w1.heap.size = mb := ⟨_, rfl⟩
  obtain ⟨w2, hw2⟩ : ∃ w2, w1.alloc (.cells #[.bool false, .bool false, .bool false, .bool false, .bool false, .bool false, .bool false, .bool false, .bool false, .bool false] 97) = w2 := ⟨_, rfl⟩
  have K2 : BkT w2 mb (fun _ => false) := by rw [← hw2, ← hmb]; exact heap_alloc_new _ _
  have B2 := hide' (show Below w1.heap.size w1 w2 by rw [← hw2]; exact (Below.refl _ _).alloc (Nat.le_refl _) _)
  have M3 := hide' (show w1.heap.size ≤ mb by omega)
  rw [hmb, hw2]
  have c0 := K2.cell (k := 0) (by omega)
  have f0 := frozen_of_row w2 mb 0 _ _ K2
  have K3 := hide' ((K2.set (i := 0) (z := true)).ext (R' := rcM xs 0) fun k _ => by unfold rcM; by_cases q : k = 0 <;> simp [q])
  have B3 := hide' (show Below w1.heap.size w1 (w2.setCell ⟨mb, 0, none⟩ (.bool true)) from B2.out.setCell M3.out _)
  clear hmb hw2 K2
  have RW := hide' (fun (V : World) (h : Below w1.heap.size w1 V) => (h.block _ (ltS_of_block R1.out)).trans R1.out)
  go_upto_region 3 with fail
  clear c0 f0
  obtain ⟨w3, hw3⟩ : ∃ w3, w2.setCell ⟨mb, 0, none⟩ (.bool true) = w3 := ⟨_, rfl⟩
  rw [hw3] at K3 B3 ⊢
  clear hw3
  have y0 := cell_of_row w3 _ 0 _ _ _ (RW.out w3 B3.out)
  simp at y0
  go_wp2
  go_loopw [10] (fun mv V => ∃ m : Nat, mv = .int .i64 (m : Int) ∧ m ≤ P ∧ Hid (BkT V mb (rcM xs m)) ∧ Hid (Below w1.heap.size w1 V)) (fun mv _ => P - (intOf mv).toNat)
  case atStart => exact ⟨0, rfl, by omega, K3, B3⟩
  case round =>
    obtain ⟨m, rfl, hm, KM, BM⟩ := hrel
    clear y0
    by_cases dm : (m : Int) < (P : Int)
    · have y1 := cell_of_row wr _ 1 _ _ _ (RW.out wr BM.out)
      simp at y1
      go_wp2
      go_loopw [15] (fun iv V => ∃ i : Nat, iv = .int .i64 (i : Int) ∧ i ≤ n ∧ Hid (BkT V mb (rcS xs (rcM xs m) i)) ∧ Hid (Below w1.heap.size w1 V)) (fun iv _ => n - (intOf iv).toNat)
      case atStart => exact ⟨0, rfl, by omega, KM, BM⟩
      case round =>
        obtain ⟨j, rfl, hj, KJ, BJ⟩ := hrel
        clear y1
        by_cases dj : (j : Int) < (n : Int)
        · have hl : j < xs.length := by have := HL.out; omega
          obtain ⟨g, off, rfl, hg, e0, e1, e2⟩ := (HE.out wr (B1.out.trans (BJ.out.mono B1.out.size))).cells j hl
          obtain ⟨⟨p, q, t⟩, hx⟩ : ∃ x, xs[j] = x := ⟨_, rfl⟩
          rw [hx] at e0 e1 e2
          simp only at e0 e1 e2
          have EQ := hide' (show xs.getD j egz = ⟨p, q, t⟩ by rw [eg_at hl, hx])
          have b1 := OK.out j hl
          rw [EQ.out] at b1
          unfold badE at b1
          simp only at b1
          obtain ⟨pa, rfl⟩ := Int.eq_ofNat_of_zero_le (show 0 ≤ p by omega)
          obtain ⟨qa, rfl⟩ := Int.eq_ofNat_of_zero_le (show 0 ≤ q by omega)
          have lp : (pa : Int) < 10 := by omega
          have lq : (qa : Int) < 10 := by omega
          have lp' : pa < 10 := by omega
          have lq' : qa < 10 := by omega
          obtain ⟨R, hR⟩ : ∃ R, rcS xs (rcM xs m) j = R := ⟨_, rfl⟩
          obtain ⟨eb, heb⟩ : ∃ eb, wr.heap.size = eb := ⟨_, rfl⟩
          obtain ⟨w4, hw4⟩ : ∃ w4, wr.alloc (.cells #[.int .i64 (pa : Int), .int .i64 (qa : Int), .int .i64 t] 62) = w4 := ⟨_, rfl⟩
          have E4 := hide' (show w4.heap[eb]? = some (.cells #[.int .i64 (pa : Int), .int .i64 (qa : Int), .int .i64 t] 62 (0, 0)) by rw [← hw4, ← heb]; exact heap_alloc_new _ _)
          have K4 := hide' (show BkT w4 mb R by rw [← hw4, ← hR]; exact (heap_alloc_old _ _ (ltS_of_block KJ.out)).trans KJ.out)
          have B4 := hide' (show Below w1.heap.size w1 w4 by rw [← hw4]; exact BJ.out.alloc BJ.out.size _)
          have HEB := hide' heb
          have HW4 := hide' hw4
          have KD := hide' (show BkT w4.drew mb R from K4.out)
          have BD := hide' B4.out.drew
          have NEB := hide' (show eb ≠ mb from fun e => by
            have h1 := E4.out
            rw [e, K4.out] at h1
            simp at h1)
          clear hx b1 heb hw4
          go_upto_region 8 with fail
          rw [HEB.out, HW4.out]
          clear e0 e1 e2
          have y0 := cell_of_row w4 eb 0 _ _ _ E4.out
          have y1 := cell_of_row w4 eb 1 _ _ _ E4.out
          simp at y0 y1
          have ca := K4.out.cell (k := pa) lp'
          have cb := K4.out.cell (k := qa) lq'
          have fa := frozen_of_row w4 mb pa _ _ K4.out
          have fb := frozen_of_row w4 mb qa _ _ K4.out
          have nq := NEB.out
          cases ha : R pa with
          | true =>
            cases hb : R qa with
            | true =>
              have KX := hide' (fun (V : World) (h : BkT V mb R) => ((h.set (i := pa) (z := true)).set (i := qa) (z := true)).ext (R' := rcS xs (rcM xs m) (j + 1)) (fun k _ => by
                show _ = rcE (rcS xs (rcM xs m) j) (edS (xs.getD j egz)) k
                rw [hR, EQ.out]; exact rc_both rfl rfl (by rw [ha, hb]; rfl) k))
              have cc := (K4.out.set (i := pa) (z := true)).cell (k := qa) lq'
              obtain ⟨cv, hcv⟩ : ∃ cv : Bool, (if qa = pa then true else R qa) = cv := ⟨_, rfl⟩
              rw [hcv] at cc
              rw [ha] at ca
              rw [hb] at cb
              clear ha hb hR hcv
              go_upto_region 9 with fail
              go_region
              go_wp2
              refine ⟨⟨j + 1, by go_num, by omega, hide' ?_, hide' ?_⟩, by simp [intOf]; omega⟩
              · exact KX.out _ KD.out
              · exact (BD.out.setCell M3.out _).setCell M3.out _
            | false =>
              have KX := hide' (fun (V : World) (h : BkT V mb R) => ((h.set (i := pa) (z := true)).set (i := qa) (z := true)).ext (R' := rcS xs (rcM xs m) (j + 1)) (fun k _ => by
                show _ = rcE (rcS xs (rcM xs m) j) (edS (xs.getD j egz)) k
                rw [hR, EQ.out]; exact rc_both rfl rfl (by rw [ha, hb]; rfl) k))
              have cc := (K4.out.set (i := pa) (z := true)).cell (k := qa) lq'
              obtain ⟨cv, hcv⟩ : ∃ cv : Bool, (if qa = pa then true else R qa) = cv := ⟨_, rfl⟩
              rw [hcv] at cc
              rw [ha] at ca
              rw [hb] at cb
              clear ha hb hR hcv
              go_upto_region 9 with fail
              go_region
              go_wp2
              refine ⟨⟨j + 1, by go_num, by omega, hide' ?_, hide' ?_⟩, by simp [intOf]; omega⟩
              · exact KX.out _ KD.out
              · exact (BD.out.setCell M3.out _).setCell M3.out _
          | false =>
            cases hb : R qa with
            | true =>
              have KX := hide' (fun (V : World) (h : BkT V mb R) => ((h.set (i := pa) (z := true)).set (i := qa) (z := true)).ext (R' := rcS xs (rcM xs m) (j + 1)) (fun k _ => by
                show _ = rcE (rcS xs (rcM xs m) j) (edS (xs.getD j egz)) k
                rw [hR, EQ.out]; exact rc_both rfl rfl (by rw [ha, hb]; rfl) k))
              have cc := (K4.out.set (i := pa) (z := true)).cell (k := qa) lq'
              obtain ⟨cv, hcv⟩ : ∃ cv : Bool, (if qa = pa then true else R qa) = cv := ⟨_, rfl⟩
              rw [hcv] at cc
              rw [ha] at ca
              rw [hb] at cb
              clear ha hb hR hcv
              go_upto_region 9 with fail
              go_region
              go_wp2
              refine ⟨⟨j + 1, by go_num, by omega, hide' ?_, hide' ?_⟩, by simp [intOf]; omega⟩
              · exact KX.out _ KD.out
              · exact (BD.out.setCell M3.out _).setCell M3.out _
            | false =>
              have KX := hide' (fun (V : World) (h : BkT V mb R) => ((h.set (i := pa) (z := false)).set (i := qa) (z := false)).ext (R' := rcS xs (rcM xs m) (j + 1)) (fun k _ => by
                show _ = rcE (rcS xs (rcM xs m) j) (edS (xs.getD j egz)) k
                rw [hR, EQ.out]; exact rc_both rfl rfl (by rw [ha, hb]; rfl) k))
              have cc := (K4.out.set (i := pa) (z := false)).cell (k := qa) lq'
              obtain ⟨cv, hcv⟩ : ∃ cv : Bool, (if qa = pa then false else R qa) = cv := ⟨_, rfl⟩
              rw [hcv] at cc
              rw [ha] at ca
              rw [hb] at cb
              clear ha hb hR hcv
              go_upto_region 9 with fail
              go_region
              go_wp2
              refine ⟨⟨j + 1, by go_num, by omega, hide' ?_, hide' ?_⟩, by simp [intOf]; omega⟩
              · exact KX.out _ KD.out
              · exact (BD.out.setCell M3.out _).setCell M3.out _
        · obtain rfl : j = n := by omega
          have KN := hide' (show BkT wr mb (rcM xs (m + 1)) by
            have e := HL.out
            show BkT wr mb (rcS xs (rcM xs m) xs.length)
            rw [← e]; exact KJ.out)
          go_wp2
          exact ⟨⟨m + 1, by go_num, by omega, KN, BJ⟩, by simp [intOf]; omega⟩
    · obtain rfl : m = P := by omega
      have y0 := cell_of_row wr _ 0 _ _ _ (RW.out wr BM.out)
      simp at y0
      have CO := hide' (Contains_bool (rcM xs m) mb m 10 wr p2 (fun k hk => KM.out.cell (by omega)))
      have FIN := hide' (B1.out.trans (BM.out.mono B1.out.size))
      have m10 : (m : Int) ≤ 10 := by omega
      go_wp2_with fail
      refine CO.out.mono ?_
      rintro e w5 ⟨⟨z, rfl, h⟩, rfl⟩
      have H := hide' h
      clear h
      go_wp2
      go_ret
      refine ⟨⟨!z, rfl, ?_⟩, FIN.out⟩
      unfold allR
      rcases H.out with ⟨e, h⟩ | ⟨e, h⟩
      · subst e; simp; exact h
      · subst e; simp; exact Classical.not_forall.1 h |>.elim fun k hk => ⟨k, by simpa using hk⟩
end Go.Proofs.YtpppmollmiomlaaDoor

namespace Go.Proofs.YtpppmollmiomlaaDoor
open Go.RowKit
set_option linter.unusedVariables false
set_option linter.unusedSimpArgs false
/-- What is wrong with a graph. -/
def FaG (P : Int) (xs : List EgT) (f : Nat) : Prop :=
  ((P < 1 ∨ 10 < P) ∧ f = 1) ∨ ((1 ≤ P ∧ P ≤ 10) ∧ 40 < xs.length ∧ f = 4) ∨ ((1 ≤ P ∧ P ≤ 10) ∧ xs.length ≤ 40 ∧ (∃ j, j < xs.length ∧ badE P (xs.getD j egz)) ∧ f = 1) ∨
  ((1 ≤ P ∧ P ≤ 10) ∧ xs.length ≤ 40 ∧ (∀ j, j < xs.length → ¬ badE P (xs.getD j egz)) ∧ allR P.toNat xs ∧ f = 0) ∨ ((1 ≤ P ∧ P ≤ 10) ∧ xs.length ≤ 40 ∧ (∀ j, j < xs.length → ¬ badE P (xs.getD j egz)) ∧ ¬ allR P.toNat xs ∧ f = 3)
/-- A graph that is right. -/
structure OkG (P : Nat) (xs : List EgT) : Prop where
  p1 : 1 ≤ P
  p2 : P ≤ 10
  n4 : xs.length ≤ 40
  ok : ∀ j, j < xs.length → ¬ badE P (xs.getD j egz)
  all : allR P xs
theorem FaG.good {P : Int} {xs : List EgT} (h : FaG P xs 0) : ∃ Q : Nat, P = (Q : Int) ∧ OkG Q xs := by
  unfold FaG at h
  rcases h with h | h | h | h | h
  · omega
  · omega
  · omega
  · obtain ⟨Q, rfl⟩ := Int.eq_ofNat_of_zero_le (show 0 ≤ P by omega)
    exact ⟨Q, rfl, by omega, by omega, h.2.1, h.2.2.1, by simpa using h.2.2.2.1⟩
  · omega
theorem FaG.of {P : Nat} {xs : List EgT} (h : OkG P xs) : FaG P xs 0 := Or.inr (Or.inr (Or.inr (Or.inl ⟨⟨by have := h.p1; omega, by have := h.p2; omega⟩, h.n4, h.ok, by simpa using h.all, rfl⟩)))
theorem FaG.only {P : Int} {xs : List EgT} {f g : Nat} (h : FaG P xs f) (k : FaG P xs g) : f = g := by
  unfold FaG at h k
  rcases h with h | h | h | h | h <;> rcases k with k | k | k | k | k
  all_goals first | omega | skip
  · obtain ⟨j, h1, h2⟩ := h.2.2.1; exact absurd h2 (k.2.2.1 j h1)
  · obtain ⟨j, h1, h2⟩ := h.2.2.1; exact absurd h2 (k.2.2.1 j h1)
  · obtain ⟨j, h1, h2⟩ := k.2.2.1; exact absurd h2 (h.2.2.1 j h1)
  · exact absurd h.2.2.2.1 k.2.2.2.1
  · obtain ⟨j, h1, h2⟩ := k.2.2.1; exact absurd h2 (h.2.2.1 j h1)
  · exact absurd k.2.2.2.1 h.2.2.2.1
def CheckOut (w : World) (P : Int) (xs : List EgT) (e : Ending) (w' : World) : Prop := ∃ f, FaG P xs f ∧ e = .returned (errOf f) ∧ Below w.heap.size w w'
set_option maxRecDepth 100000 in
set_option maxHeartbeats 12800000 in
theorem Check_any (P : Int) (xs : List EgT) (ea : Option Addr) (n c : Nat) (w : World) (hE : ArgE w xs ea n c) :
    Calls Tryd.prog 28 #[.agg #[.int .i64 P, .slice ea n c]] w (CheckOut w P xs) := by
  obtain ⟨w1, hw1⟩ : ∃ w1, w.alloc (.cells #[.int .i64 P, .slice ea n c] 24) = w1 := ⟨_, rfl⟩
  have HW1 := hide' hw1
  have B1 := hide' (show Below w.heap.size w w1 by rw [← hw1]; exact (Below.refl _ _).alloc (Nat.le_refl _) _)
  have R1 := hide' (show w1.heap[w.heap.size]? = some (.cells #[.int .i64 P, .slice ea n c] 24 (0, 0)) by rw [← hw1]; exact heap_alloc_new _ _)
  have HE := hide' (fun (V : World) (h : Below w.heap.size w V) => hE.below h)
  have HL := hide' hE.len
  have nm := hE.max
  have y0 := cell_of_row w1 _ 0 _ _ _ R1.out
  have y1 := cell_of_row w1 _ 1 _ _ _ R1.out
  simp at y0 y1
  have RW := hide' (fun (V : World) (h : Below w1.heap.size w1 V) => (h.block _ (ltS_of_block R1.out)).trans R1.out)
  clear hw1 hE
  go_enter Tryd.func28, Tryd.ntmps28
  go_upto_region 1 with fail
  rw [HW1.out]
  by_cases q1 : P < 1
  · go_wp2
    go_ret
    exact ⟨1, Or.inl ⟨Or.inl q1, rfl⟩, rfl, B1.out⟩
  by_cases q2 : 10 < P
  · go_wp2
    go_ret
    exact ⟨1, Or.inl ⟨Or.inr q2, rfl⟩, rfl, B1.out⟩
  by_cases q3 : 40 < (n : Int)
  · go_wp2
    go_ret
    exact ⟨4, Or.inr (Or.inl ⟨by omega, by have := HL.out; omega, rfl⟩), rfl, B1.out⟩
  go_wp2
  go_loopw [22] (fun iv wr => ∃ i : Nat, iv = .int .i64 (i : Int) ∧ i ≤ n ∧ Hid (Below w1.heap.size w1 wr) ∧ Hid (∀ j, j < i → ¬ badE P (xs.getD j egz))) (fun iv _ => n - (intOf iv).toNat)
  case atStart => exact ⟨0, rfl, by omega, hide' (Below.refl _ _), hide' fun j h => by omega⟩
  case round =>
    obtain ⟨i, rfl, hi, BW, HA⟩ := hrel
    clear y0 y1
    by_cases d : (i : Int) < (n : Int)
    · have hl : i < xs.length := by have := HL.out; omega
      obtain ⟨g, off, rfl, hg, c0, c1, c2⟩ := (HE.out wr (B1.out.trans (BW.out.mono B1.out.size))).cells i hl
      obtain ⟨⟨p, q, t⟩, hx⟩ : ∃ x, xs[i] = x := ⟨_, rfl⟩
      rw [hx] at c0 c1 c2
      simp only at c0 c1 c2
      have EQ := hide' (show xs.getD i egz = ⟨p, q, t⟩ by rw [eg_at hl, hx])
      have BAD := hide' (show badE P ⟨p, q, t⟩ → ∀ V, Below w.heap.size w V → CheckOut w P xs (.returned (errOf 1)) V from fun h V hV => ⟨1, Or.inr (Or.inr (Or.inl ⟨by omega, by have := HL.out; omega, ⟨i, hl, by rw [EQ.out]; exact h⟩, rfl⟩)), rfl, hV⟩)
      obtain ⟨eb, heb⟩ : ∃ eb, wr.heap.size = eb := ⟨_, rfl⟩
      obtain ⟨w4, hw4⟩ : ∃ w4, wr.alloc (.cells #[.int .i64 p, .int .i64 q, .int .i64 t] 62) = w4 := ⟨_, rfl⟩
      have E4 := hide' (show w4.heap[eb]? = some (.cells #[.int .i64 p, .int .i64 q, .int .i64 t] 62 (0, 0)) by rw [← hw4, ← heb]; exact heap_alloc_new _ _)
      have B4 := hide' (show Below w1.heap.size w1 w4 by rw [← hw4]; exact BW.out.alloc BW.out.size _)
      have HEB := hide' heb
      have HW4 := hide' hw4
      have IP := hide' (fun x V => isPlaceS_any P x (some ⟨g, off, none⟩) n c V)
      clear hx heb hw4
      go_upto_region 8 with fail
      rw [HEB.out, HW4.out]
      clear c0 c1 c2
      have y0 := cell_of_row w4 eb 0 _ _ _ E4.out
      have z0 := cell_of_row w4 _ 0 _ _ _ (RW.out w4 B4.out)
      have z1 := cell_of_row w4 _ 1 _ _ _ (RW.out w4 B4.out)
      simp at y0 z0 z1
      by_cases k1 : 0 ≤ p ∧ p < P
      · go_wp2_with fail
        refine (IP.out p _).mono ?_
        rw [inB_yes k1.1 k1.2]
        rintro e w5 ⟨rfl, b5⟩
        have B5 := hide' (B4.out.trans (b5.mono B4.out.size))
        have E5 := hide' ((b5.block _ (ltS_of_block E4.out)).trans E4.out)
        clear y0 z0 z1 b5
        have y1 := cell_of_row w5 eb 1 _ _ _ E5.out
        have z0 := cell_of_row w5 _ 0 _ _ _ (RW.out w5 B5.out)
        have z1 := cell_of_row w5 _ 1 _ _ _ (RW.out w5 B5.out)
        simp at y1 z0 z1
        by_cases k2 : 0 ≤ q ∧ q < P
        · go_wp2_with fail
          refine (IP.out q _).mono ?_
          rw [inB_yes k2.1 k2.2]
          rintro e w6 ⟨rfl, b6⟩
          have B6 := hide' (B5.out.trans (b6.mono B5.out.size))
          have E6 := hide' ((b6.block _ (ltS_of_block E5.out)).trans E5.out)
          have F6 := hide' (B1.out.trans (B6.out.mono B1.out.size))
          clear y1 z0 z1 b6
          have y0 := cell_of_row w6 eb 0 _ _ _ E6.out
          have y1 := cell_of_row w6 eb 1 _ _ _ E6.out
          have y2 := cell_of_row w6 eb 2 _ _ _ E6.out
          simp at y0 y1 y2
          by_cases k3 : p = q
          · have X := hide' (BAD.out (by unfold badE; simp only; omega) _ F6.out)
            have e3 : (p == q) = true := by simpa using k3
            clear k3 k1 k2
            go_wp2
            go_ret
            exact X.out
          · have e3 : (p == q) = false := by simpa using k3
            by_cases k4 : t < 1
            · have X := hide' (BAD.out (by unfold badE; simp only; omega) _ F6.out)
              clear k3 k1 k2
              go_wp2
              go_ret
              exact X.out
            · by_cases k5 : 100 < t
              · have X := hide' (BAD.out (by unfold badE; simp only; omega) _ F6.out)
                clear k3 k1 k2
                go_wp2
                go_ret
                exact X.out
              · have NB := hide' (show ∀ j, j < i + 1 → ¬ badE P (xs.getD j egz) from fun j h => by
                  by_cases e : j = i
                  · rw [e, EQ.out]; unfold badE; simp only; omega
                  · exact HA.out j (by omega))
                clear k3 k1 k2
                go_wp2
                exact ⟨⟨i + 1, by go_num, by omega, B6, NB⟩, by simp [intOf]; omega⟩
        · have X := hide' (BAD.out (show badE P ⟨p, q, t⟩ by unfold badE; simp only; omega))
          go_wp2_with fail
          refine (IP.out q _).mono ?_
          rw [inB_no k2]
          rintro e w6 ⟨rfl, b6⟩
          have F6 := hide' (B1.out.trans ((B5.out.trans (b6.mono B5.out.size)).mono B1.out.size))
          clear k1 k2 b6
          go_wp2
          go_ret
          exact X.out _ F6.out
      · have X := hide' (BAD.out (show badE P ⟨p, q, t⟩ by unfold badE; simp only; omega))
        go_wp2_with fail
        refine (IP.out p _).mono ?_
        rw [inB_no k1]
        rintro e w5 ⟨rfl, b5⟩
        have F5 := hide' (B1.out.trans ((B4.out.trans (b5.mono B4.out.size)).mono B1.out.size))
        clear k1 b5
        go_wp2
        go_ret
        exact X.out _ F5.out
    · obtain rfl : i = n := by omega
      obtain ⟨Q, rfl⟩ := Int.eq_ofNat_of_zero_le (show 0 ≤ P by omega)
      have z0 := cell_of_row wr _ 0 _ _ _ (RW.out wr BW.out)
      have z1 := cell_of_row wr _ 1 _ _ _ (RW.out wr BW.out)
      simp at z0 z1
      have OK := hide' (fun j (hj : j < xs.length) => HA.out j (by have := HL.out; omega))
      have CO := hide' (connected_any Q xs ea i c wr (HE.out wr (B1.out.trans (BW.out.mono B1.out.size))) (by omega) (by omega) (by omega) OK.out)
      have B5 := hide' (B1.out.trans (BW.out.mono B1.out.size))
      have RA := hide' (show (1 ≤ (Q : Int) ∧ (Q : Int) ≤ 10) ∧ xs.length ≤ 40 from ⟨by omega, by have := HL.out; omega⟩)
      go_wp2_with fail
      refine CO.out.mono ?_
      rintro e w6 ⟨⟨z, rfl, hz⟩, b6⟩
      have F6 := hide' (B5.out.trans (b6.mono B5.out.size))
      clear b6
      cases z with
      | true =>
        have Z := hide' (hz.1 rfl)
        clear hz
        go_wp2
        go_ret
        exact ⟨0, Or.inr (Or.inr (Or.inr (Or.inl ⟨RA.out.1, RA.out.2, OK.out, by simpa using Z.out, rfl⟩))), rfl, F6.out⟩
      | false =>
        have Z := hide' (show ¬ allR Q xs from fun h => by have := hz.2 h; cases this)
        clear hz
        go_wp2
        go_ret
        exact ⟨3, Or.inr (Or.inr (Or.inr (Or.inr ⟨RA.out.1, RA.out.2, OK.out, by simpa using Z.out, rfl⟩))), rfl, F6.out⟩
end Go.Proofs.YtpppmollmiomlaaDoor

