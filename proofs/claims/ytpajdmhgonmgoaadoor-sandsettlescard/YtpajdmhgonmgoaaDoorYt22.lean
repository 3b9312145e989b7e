/-
  What the last text of this claim leans on, part 22: Sw6, Sw7, Rw1, Sw8, Sw9, Rw3.
-/
import Derived.Test.YtpajdmhgonmgoaaDoorYt21
import Derived.Test.YtpajdmhgonmgoaaDoorYt20
import Derived.Test.YtpajdmhgonmgoaaDoorYt11
import Derived.Deep.AppendLies
import Derived.Laws.OwnMore
import Derived.Laws.Tables
import Derived.Laws.Rows
import Derived.Laws.CopyOwn
import Derived.Laws.IdiomCopy
import Derived.Lib.SliceRun
namespace Go.Proofs.YtpajdmhgonmgoaaDoor
open Go.RowKit
set_option linter.unusedVariables false
set_option linter.unusedSimpArgs false
/-- What is wrong with a graph. -/
def FaG (P : Int) (xs : List EgT) (f : Nat) : Prop :=
  ((P < 1 ∨ 10 < P) ∧ f = 1) ∨ ((1 ≤ P ∧ P ≤ 10) ∧ 40 < xs.length ∧ f = 4) ∨ ((1 ≤ P ∧ P ≤ 10) ∧ xs.length ≤ 40 ∧ (∃ j, j < xs.length ∧ badE P (xs.getD j egz)) ∧ f = 1) ∨
  ((1 ≤ P ∧ P ≤ 10) ∧ xs.length ≤ 40 ∧ (∀ j, j < xs.length → ¬ badE P (xs.getD j egz)) ∧ allR P.toNat xs ∧ f = 0) ∨ ((1 ≤ P ∧ P ≤ 10) ∧ xs.length ≤ 40 ∧ (∀ j, j < xs.length → ¬ badE P (xs.getD j egz)) ∧ ¬ allR P.toNat xs ∧ f = 3)
/-- A graph that is right. -/
structure OkG (P : Nat) (xs : List EgT) : Prop where
  p1 : 1 ≤ P
  p2 : P ≤ 10
  n4 : xs.length ≤ 40
  ok : ∀ j, j < xs.length → ¬ badE P (xs.getD j egz)
  all : allR P xs
theorem FaG.good {P : Int} {xs : List EgT} (h : FaG P xs 0) : ∃ Q : Nat, P = (Q : Int) ∧ OkG Q xs := by
  unfold FaG at h
  rcases h with h | h | h | h | h
  · omega
  · omega
  · omega
  · obtain ⟨Q, rfl⟩ := Int.eq_ofNat_of_zero_le (show 0 ≤ P by omega)
    exact ⟨Q, rfl, by omega, by omega, h.2.1, h.2.2.1, by simpa using h.2.2.2.1⟩
  · omega
theorem FaG.of {P : Nat} {xs : List EgT} (h : OkG P xs) : FaG P xs 0 := Or.inr (Or.inr (Or.inr (Or.inl ⟨⟨by have := h.p1; omega, by have := h.p2; omega⟩, h.n4, h.ok, by simpa using h.all, rfl⟩)))
theorem FaG.only {P : Int} {xs : List EgT} {f g : Nat} (h : FaG P xs f) (k : FaG P xs g) : f = g := by
  unfold FaG at h k
  rcases h with h | h | h | h | h <;> rcases k with k | k | k | k | k
  all_goals first | omega | skip
  · obtain ⟨j, h1, h2⟩ := h.2.2.1; exact absurd h2 (k.2.2.1 j h1)
  · obtain ⟨j, h1, h2⟩ := h.2.2.1; exact absurd h2 (k.2.2.1 j h1)
  · obtain ⟨j, h1, h2⟩ := k.2.2.1; exact absurd h2 (h.2.2.1 j h1)
  · exact absurd h.2.2.2.1 k.2.2.2.1
  · obtain ⟨j, h1, h2⟩ := k.2.2.1; exact absurd h2 (h.2.2.1 j h1)
  · exact absurd k.2.2.2.1 h.2.2.2.1
def CheckOut (w : World) (P : Int) (xs : List EgT) (e : Ending) (w' : World) : Prop := ∃ f, FaG P xs f ∧ e = .returned (errOf f) ∧ Below w.heap.size w w'
set_option maxRecDepth 100000 in
set_option maxHeartbeats 12800000 in
theorem Check_any (P : Int) (xs : List EgT) (ea : Option Addr) (n c : Nat) (w : World) (hE : ArgE w xs ea n c) :
    Calls Tryd.prog 6 #[.agg #[.int .i64 P, .slice ea n c]] w (CheckOut w P xs) := by
  obtain ⟨w1, hw1⟩ : ∃ w1, w.alloc (.cells #[.int .i64 P, .slice ea n c] 24) = w1 := ⟨_, rfl⟩
  have HW1 := hide' hw1
  have B1 := hide' (show Below w.heap.size w w1 by rw [← hw1]; exact (Below.refl _ _).alloc (Nat.le_refl _) _)
  have R1 := hide' (show w1.heap[w.heap.size]? = some (.cells #[.int .i64 P, .slice ea n c] 24 (0, 0)) by rw [← hw1]; exact heap_alloc_new _ _)
  have HE := hide' (fun (V : World) (h : Below w.heap.size w V) => hE.below h)
  have HL := hide' hE.len
  have nm := hE.max
  have y0 := cell_of_row w1 _ 0 _ _ _ R1.out
  have y1 := cell_of_row w1 _ 1 _ _ _ R1.out
  simp at y0 y1
  have RW := hide' (fun (V : World) (h : Below w1.heap.size w1 V) => (h.block _ (ltS_of_block R1.out)).trans R1.out)
  clear hw1 hE
  go_enter Tryd.func6, Tryd.ntmps6
  go_upto_region 1 with fail
  rw [HW1.out]
  by_cases q1 : P < 1
  · go_wp2
    go_ret
    exact ⟨1, Or.inl ⟨Or.inl q1, rfl⟩, rfl, B1.out⟩
  by_cases q2 : 10 < P
  · go_wp2
    go_ret
    exact ⟨1, Or.inl ⟨Or.inr q2, rfl⟩, rfl, B1.out⟩
  by_cases q3 : 40 < (n : Int)
  · go_wp2
    go_ret
    exact ⟨4, Or.inr (Or.inl ⟨by omega, by have := HL.out; omega, rfl⟩), rfl, B1.out⟩
  go_wp2
  go_loopw [22] (fun iv wr => ∃ i : Nat, iv = .int .i64 (i : Int) ∧ i ≤ n ∧ Hid (Below w1.heap.size w1 wr) ∧ Hid (∀ j, j < i → ¬ badE P (xs.getD j egz))) (fun iv _ => n - (intOf iv).toNat)
  case atStart => exact ⟨0, rfl, by omega, hide' (Below.refl _ _), hide' fun j h => by omega⟩
  case round =>
    obtain ⟨i, rfl, hi, BW, HA⟩ := hrel
    clear y0 y1
    by_cases d : (i : Int) < (n : Int)
    · have hl : i < xs.length := by have := HL.out; omega
      obtain ⟨g, off, rfl, hg, c0, c1, c2⟩ := (HE.out wr (B1.out.trans (BW.out.mono B1.out.size))).cells i hl
      obtain ⟨⟨p, q, t⟩, hx⟩ : ∃ x, xs[i] = x := ⟨_, rfl⟩
      rw [hx] at c0 c1 c2
      simp only at c0 c1 c2
      have EQ := hide' (show xs.getD i egz = ⟨p, q, t⟩ by rw [eg_at hl, hx])
      have BAD := hide' (show badE P ⟨p, q, t⟩ → ∀ V, Below w.heap.size w V → CheckOut w P xs (.returned (errOf 1)) V from fun h V hV => ⟨1, Or.inr (Or.inr (Or.inl ⟨by omega, by have := HL.out; omega, ⟨i, hl, by rw [EQ.out]; exact h⟩, rfl⟩)), rfl, hV⟩)
      obtain ⟨eb, heb⟩ : ∃ eb, wr.heap.size = eb := ⟨_, rfl⟩
      obtain ⟨w4, hw4⟩ : ∃ w4, wr.alloc (.cells #[.int .i64 p, .int .i64 q, .int .i64 t] 46) = w4 := ⟨_, rfl⟩
      have E4 := hide' (show w4.heap[eb]? = some (.cells #[.int .i64 p, .int .i64 q, .int .i64 t] 46 (0, 0)) by rw [← hw4, ← heb]; exact heap_alloc_new _ _)
      have B4 := hide' (show Below w1.heap.size w1 w4 by rw [← hw4]; exact BW.out.alloc BW.out.size _)
      have HEB := hide' heb
      have HW4 := hide' hw4
      have IP := hide' (fun x V => isPlaceS_any P x (some ⟨g, off, none⟩) n c V)
      clear hx heb hw4
      go_upto_region 8 with fail
      rw [HEB.out, HW4.out]
      clear c0 c1 c2
      have y0 := cell_of_row w4 eb 0 _ _ _ E4.out
      have z0 := cell_of_row w4 _ 0 _ _ _ (RW.out w4 B4.out)
      have z1 := cell_of_row w4 _ 1 _ _ _ (RW.out w4 B4.out)
      simp at y0 z0 z1
      by_cases k1 : 0 ≤ p ∧ p < P
      · go_wp2_with fail
        refine (IP.out p _).mono ?_
        rw [inB_yes k1.1 k1.2]
        rintro e w5 ⟨rfl, b5⟩
        have B5 := hide' (B4.out.trans (b5.mono B4.out.size))
        have E5 := hide' ((b5.block _ (ltS_of_block E4.out)).trans E4.out)
        clear y0 z0 z1 b5
        have y1 := cell_of_row w5 eb 1 _ _ _ E5.out
        have z0 := cell_of_row w5 _ 0 _ _ _ (RW.out w5 B5.out)
        have z1 := cell_of_row w5 _ 1 _ _ _ (RW.out w5 B5.out)
        simp at y1 z0 z1
        by_cases k2 : 0 ≤ q ∧ q < P
        · go_wp2_with fail
          refine (IP.out q _).mono ?_
          rw [inB_yes k2.1 k2.2]
          rintro e w6 ⟨rfl, b6⟩
          have B6 := hide' (B5.out.trans (b6.mono B5.out.size))
          have E6 := hide' ((b6.block _ (ltS_of_block E5.out)).trans E5.out)
          have F6 := hide' (B1.out.trans (B6.out.mono B1.out.size))
          clear y1 z0 z1 b6
          have y0 := cell_of_row w6 eb 0 _ _ _ E6.out
          have y1 := cell_of_row w6 eb 1 _ _ _ E6.out
          have y2 := cell_of_row w6 eb 2 _ _ _ E6.out
          simp at y0 y1 y2
          by_cases k3 : p = q
          · have X := hide' (BAD.out (by unfold badE; simp only; omega) _ F6.out)
            have e3 : (p == q) = true := by simpa using k3
            clear k3 k1 k2
            go_wp2
            go_ret
            exact X.out
          · have e3 : (p == q) = false := by simpa using k3
            by_cases k4 : t < 1
            · have X := hide' (BAD.out (by unfold badE; simp only; omega) _ F6.out)
              clear k3 k1 k2
              go_wp2
              go_ret
              exact X.out
            · by_cases k5 : 100 < t
              · have X := hide' (BAD.out (by unfold badE; simp only; omega) _ F6.out)
                clear k3 k1 k2
                go_wp2
                go_ret
                exact X.out
              · have NB := hide' (show ∀ j, j < i + 1 → ¬ badE P (xs.getD j egz) from fun j h => by
                  by_cases e : j = i
                  · rw [e, EQ.out]; unfold badE; simp only; omega
                  · exact HA.out j (by omega))
                clear k3 k1 k2
                go_wp2
                exact ⟨⟨i + 1, by go_num, by omega, B6, NB⟩, by simp [intOf]; omega⟩
        · have X := hide' (BAD.out (show badE P ⟨p, q, t⟩ by unfold badE; simp only; omega))
          go_wp2_with fail
          refine (IP.out q _).mono ?_
          rw [inB_no k2]
          rintro e w6 ⟨rfl, b6⟩
          have F6 := hide' (B1.out.trans ((B5.out.trans (b6.mono B5.out.size)).mono B1.out.size))
          clear k1 k2 b6
          go_wp2
          go_ret
          exact X.out _ F6.out
      · have X := hide' (BAD.out (show badE P ⟨p, q, t⟩ by unfold badE; simp only; omega))
        go_wp2_with fail
        refine (IP.out p _).mono ?_
        rw [inB_no k1]
        rintro e w5 ⟨rfl, b5⟩
        have F5 := hide' (B1.out.trans ((B4.out.trans (b5.mono B4.out.size)).mono B1.out.size))
        clear k1 b5
        go_wp2
        go_ret
        exact X.out _ F5.out
    · obtain rfl : i = n := by omega
      obtain ⟨Q, rfl⟩ := Int.eq_ofNat_of_zero_le (show 0 ≤ P by omega)
      have z0 := cell_of_row wr _ 0 _ _ _ (RW.out wr BW.out)
      have z1 := cell_of_row wr _ 1 _ _ _ (RW.out wr BW.out)
      simp at z0 z1
      have OK := hide' (fun j (hj : j < xs.length) => HA.out j (by have := HL.out; omega))
      have CO := hide' (connected_any Q xs ea i c wr (HE.out wr (B1.out.trans (BW.out.mono B1.out.size))) (by omega) (by omega) (by omega) OK.out)
      have B5 := hide' (B1.out.trans (BW.out.mono B1.out.size))
      have RA := hide' (show (1 ≤ (Q : Int) ∧ (Q : Int) ≤ 10) ∧ xs.length ≤ 40 from ⟨by omega, by have := HL.out; omega⟩)
      go_wp2_with fail
      refine CO.out.mono ?_
      rintro e w6 ⟨⟨z, rfl, hz⟩, b6⟩
      have F6 := hide' (B5.out.trans (b6.mono B5.out.size))
      clear b6
      cases z with
      | true =>
        have Z := hide' (hz.1 rfl)
        clear hz
        go_wp2
        go_ret
        exact ⟨0, Or.inr (Or.inr (Or.inr (Or.inl ⟨RA.out.1, RA.out.2, OK.out, by simpa using Z.out, rfl⟩))), rfl, F6.out⟩
      | false =>
        have Z := hide' (show ¬ allR Q xs from fun h => by have := hz.2 h; cases this)
        clear hz
        go_wp2
        go_ret
        exact ⟨3, Or.inr (Or.inr (Or.inr (Or.inr ⟨RA.out.1, RA.out.2, OK.out, by simpa using Z.out, rfl⟩))), rfl, F6.out⟩
end Go.Proofs.YtpajdmhgonmgoaaDoor

namespace Go.Proofs.YtpajdmhgonmgoaaDoor
open Go.RowKit
set_option linter.unusedVariables false
set_option linter.unusedSimpArgs false
theorem errOf_not {f : Nat} (h : ¬ f = 0) : errOf f = .iface 48 (.int .i64 (f : Int)) := if_neg h
/-- What is wrong with a graph and a sink; with chips. -/
def SiG (P : Int) (xs : List EgT) (s : Int) (f : Nat) : Prop := (¬ f = 0 ∧ FaG P xs f) ∨ (FaG P xs 0 ∧ ¬ (0 ≤ s ∧ s < P) ∧ f = 1) ∨ (FaG P xs 0 ∧ (0 ≤ s ∧ s < P) ∧ f = 0)
def badC (s : Int) (k : Nat) (x : Int) : Prop := x < 0 ∨ 10000 < x ∨ ((k : Int) = s ∧ x ≠ 0)
def LaG (P s : Int) (cs : List Int) (f : Nat) : Prop := (¬ (cs.length : Int) = P ∧ f = 3) ∨ ((cs.length : Int) = P ∧ (∃ k, k < cs.length ∧ badC s k (cs.getD k 0)) ∧ f = 1) ∨ ((cs.length : Int) = P ∧ (∀ k, k < cs.length → ¬ badC s k (cs.getD k 0)) ∧ f = 0)
def ChG (P : Int) (xs : List EgT) (s : Int) (cs : List Int) (f : Nat) : Prop := (¬ f = 0 ∧ SiG P xs s f) ∨ (SiG P xs s 0 ∧ LaG P s cs f)
theorem SiG.good {P : Int} {xs : List EgT} {s : Int} (h : SiG P xs s 0) : FaG P xs 0 ∧ 0 ≤ s ∧ s < P := by
  rcases h with h | h | h
  · exact absurd rfl h.1
  · omega
  · exact ⟨h.1, h.2.1⟩
theorem SiG.of {P : Int} {xs : List EgT} {s : Int} (h : FaG P xs 0) (h1 : 0 ≤ s) (h2 : s < P) : SiG P xs s 0 := Or.inr (Or.inr ⟨h, ⟨h1, h2⟩, rfl⟩)
theorem SiG.only {P : Int} {xs : List EgT} {s : Int} {f g : Nat} (h : SiG P xs s f) (k : SiG P xs s g) : f = g := by
  unfold SiG at h k
  rcases h with h | h | h <;> rcases k with k | k | k
  · exact h.2.only k.2
  · exact absurd (h.2.only k.1) h.1
  · exact absurd (h.2.only k.1) h.1
  · exact absurd (k.2.only h.1) k.1
  · omega
  · exact absurd k.2.1 h.2.1
  · exact absurd (k.2.only h.1) k.1
  · exact absurd h.2.1 k.2.1
  · omega
theorem LaG.only {P s : Int} {cs : List Int} {f g : Nat} (h : LaG P s cs f) (k : LaG P s cs g) : f = g := by
  unfold LaG at h k
  rcases h with h | h | h <;> rcases k with k | k | k
  all_goals first | omega | skip
  · obtain ⟨j, h1, h2⟩ := h.2.1; exact absurd h2 (k.2.1 j h1)
  · obtain ⟨j, h1, h2⟩ := k.2.1; exact absurd h2 (h.2.1 j h1)
theorem ChG.only {P : Int} {xs : List EgT} {s : Int} {cs : List Int} {f g : Nat} (h : ChG P xs s cs f) (k : ChG P xs s cs g) : f = g := by
  unfold ChG at h k
  rcases h with h | h <;> rcases k with k | k
  · exact h.2.only k.2
  · exact absurd (h.2.only k.1) h.1
  · exact absurd (k.2.only h.1) k.1
  · exact h.2.only k.2
theorem ChG.good {P : Int} {xs : List EgT} {s : Int} {cs : List Int} (h : ChG P xs s cs 0) : SiG P xs s 0 ∧ LaG P s cs 0 := by
  rcases h with h | h
  · exact absurd rfl h.1
  · exact h
theorem LaG.good {P s : Int} {cs : List Int} (h : LaG P s cs 0) : (cs.length : Int) = P ∧ ∀ k, k < cs.length → ¬ badC s k (cs.getD k 0) := by
  unfold LaG at h
  rcases h with h | h | h
  · omega
  · omega
  · exact ⟨h.1, h.2.1⟩
def SinkOut (w : World) (P : Int) (xs : List EgT) (s : Int) (e : Ending) (w' : World) : Prop := ∃ f, SiG P xs s f ∧ e = .returned (errOf f) ∧ Below w.heap.size w w'
set_option maxRecDepth 100000 in
set_option maxHeartbeats 3200000 in
theorem checkSink_any (P : Int) (xs : List EgT) (ea : Option Addr) (n c : Nat) (s : Int) (w : World) (hE : ArgE w xs ea n c) :
    Calls Tryd.prog 31 #[.agg #[.int .i64 P, .slice ea n c], .int .i64 s] w (SinkOut w P xs s) := by
  obtain ⟨w1, hw1⟩ : ∃ w1, w.alloc (.cells #[.int .i64 P, .slice ea n c] 24) = w1 := ⟨_, rfl⟩
  have HW1 := hide' hw1
  have B1 := hide' (show Below w.heap.size w w1 by rw [← hw1]; exact (Below.refl _ _).alloc (Nat.le_refl _) _)
  have R1 := hide' (show w1.heap[w.heap.size]? = some (.cells #[.int .i64 P, .slice ea n c] 24 (0, 0)) by rw [← hw1]; exact heap_alloc_new _ _)
  have CK := hide' (Check_any P xs ea n c w1 (hE.below B1.out))
  have IP := hide' (fun x V => isPlaceS_any P x ea n c V)
  have y0 := cell_of_row w1 _ 0 _ _ _ R1.out
  have y1 := cell_of_row w1 _ 1 _ _ _ R1.out
  simp at y0 y1
  clear hw1 hE
  go_enter Tryd.func31, Tryd.ntmps31
  go_upto_region 1 with fail
  rw [HW1.out]
  go_wp2_with fail
  refine CK.out.mono ?_
  rintro e w2 ⟨f, hf, rfl, b2⟩
  have HF := hide' hf
  have B2 := hide' (B1.out.trans (b2.mono B1.out.size))
  have R2 := hide' ((b2.block _ (ltS_of_block R1.out)).trans R1.out)
  clear hf b2 y0 y1
  by_cases h0 : f = 0
  · subst h0
    rw [show errOf 0 = .nilIface from rfl]
    have y0 := cell_of_row w2 _ 0 _ _ _ R2.out
    have y1 := cell_of_row w2 _ 1 _ _ _ R2.out
    simp at y0 y1
    go_wp2_with fail
    refine (IP.out s _).mono ?_
    rintro e w3 ⟨rfl, b3⟩
    have B3 := hide' (B2.out.trans (b3.mono B2.out.size))
    clear b3 y0 y1
    by_cases k : 0 ≤ s ∧ s < P
    · rw [inB_yes k.1 k.2]
      have X := hide' k
      clear k
      go_wp2
      go_ret
      exact ⟨0, Or.inr (Or.inr ⟨HF.out, X.out, rfl⟩), rfl, B3.out⟩
    · rw [inB_no k]
      have X := hide' k
      clear k
      go_wp2
      go_ret
      exact ⟨1, Or.inr (Or.inl ⟨HF.out, X.out, rfl⟩), rfl, B3.out⟩
  · have H0 := hide' h0
    have EF := hide' (errOf_not h0)
    rw [EF.out]
    clear h0
    go_wp2
    go_ret
    exact ⟨f, Or.inl ⟨H0.out, HF.out⟩, by rw [EF.out]; rfl, B2.out⟩
def ChipsOut (w : World) (P : Int) (xs : List EgT) (s : Int) (cs : List Int) (e : Ending) (w' : World) : Prop := ∃ f, ChG P xs s cs f ∧ e = .returned (errOf f) ∧ Below w.heap.size w w'
theorem at_getD {xs : List Int} {k : Nat} (h : k < xs.length) : xs.getD k 0 = xs[k] := by simp [List.getD, h]
set_option maxRecDepth 100000 in
set_option maxHeartbeats 6400000 in
theorem checkChips_any (P : Int) (xs : List EgT) (ea : Option Addr) (n c : Nat) (s : Int) (cs : List Int) (ca : Option Addr) (cn cc : Nat) (w : World) (hE : ArgE w xs ea n c) (hC : ArgP w cs ca cn cc) :
    Calls Tryd.prog 19 #[.agg #[.int .i64 P, .slice ea n c], .int .i64 s, .slice ca cn cc] w (ChipsOut w P xs s cs) := by
  obtain ⟨w1, hw1⟩ : ∃ w1, w.alloc (.cells #[.int .i64 P, .slice ea n c] 24) = w1 := ⟨_, rfl⟩
  have HW1 := hide' hw1
  have B1 := hide' (show Below w.heap.size w w1 by rw [← hw1]; exact (Below.refl _ _).alloc (Nat.le_refl _) _)
  have R1 := hide' (show w1.heap[w.heap.size]? = some (.cells #[.int .i64 P, .slice ea n c] 24 (0, 0)) by rw [← hw1]; exact heap_alloc_new _ _)
  have CK := hide' (checkSink_any P xs ea n c s w1 (hE.below B1.out))
  have HC := hide' (fun (V : World) (h : Below w.heap.size w V) => hC.below h)
  have HL := hide' hC.len
  have nm := hC.max
  unfold maxLen at nm
  have y0 := cell_of_row w1 _ 0 _ _ _ R1.out
  have y1 := cell_of_row w1 _ 1 _ _ _ R1.out
  simp at y0 y1
  clear hw1 hE hC
  go_enter Tryd.func19, Tryd.ntmps19
  go_upto_region 1 with fail
  rw [HW1.out]
  go_wp2_with fail
  refine CK.out.mono ?_
  rintro e w2 ⟨f, hf, rfl, b2⟩
  have HF := hide' hf
  have B2 := hide' (B1.out.trans (b2.mono B1.out.size))
  have R2 := hide' ((b2.block _ (ltS_of_block R1.out)).trans R1.out)
  clear hf b2 y0 y1
  by_cases h0 : f = 0
  · subst h0
    rw [show errOf 0 = .nilIface from rfl]
    have y0 := cell_of_row w2 _ 0 _ _ _ R2.out
    simp at y0
    by_cases k : (cn : Int) = P
    · have HK := hide' (show (cs.length : Int) = P by have := HL.out; omega)
      have e1 : ((cn : Int) != P) = false := by simpa using k
      clear k
      go_wp2
      go_loopw [24] (fun iv wr => ∃ i : Nat, iv = .int .i64 (i : Int) ∧ i ≤ cn ∧ wr = w2 ∧ Hid (∀ j, j < i → ¬ badC s j (cs.getD j 0))) (fun iv _ => cn - (intOf iv).toNat)
      case atStart => exact ⟨0, rfl, by omega, rfl, hide' fun j h => by omega⟩
      case round =>
        obtain ⟨i, rfl, hi, rfl, HA⟩ := hrel
        clear y0
        by_cases d : (i : Int) < (cn : Int)
        · have hl : i < cs.length := by have := HL.out; omega
          obtain ⟨g, off, rfl, hg, c0⟩ := (HC.out wr B2.out).cells i hl
          obtain ⟨x, hx⟩ : ∃ x, cs[i] = x := ⟨_, rfl⟩
          rw [hx] at c0
          have EQ := hide' (show cs.getD i 0 = x by rw [at_getD hl, hx])
          have BAD := hide' (show badC s i x → ChipsOut w P xs s cs (.returned (errOf 1)) wr from fun h => ⟨1, Or.inr ⟨HF.out, Or.inr (Or.inl ⟨HK.out, ⟨i, hl, by rw [EQ.out]; exact h⟩, rfl⟩)⟩, rfl, B2.out⟩)
          have NX := hide' (show ¬ badC s i x → ∀ j, j < i + 1 → ¬ badC s j (cs.getD j 0) from fun h j hj => by
            by_cases e : j = i
            · rw [e, EQ.out]; exact h
            · exact HA.out j (by omega))
          clear hx
          by_cases k1 : x < 0
          · have X := hide' (BAD.out (Or.inl k1))
            go_wp2
            go_ret
            exact X.out
          · by_cases k2 : 10000 < x
            · have X := hide' (BAD.out (Or.inr (Or.inl k2)))
              go_wp2
              go_ret
              exact X.out
            · by_cases k3 : (i : Int) = s
              · have e3 : ((i : Int) == s) = true := by simpa using k3
                by_cases k4 : x = 0
                · have X := hide' (NX.out (by unfold badC; omega))
                  have e4 : (x != 0) = false := by simpa using k4
                  clear k3 k4
                  go_wp2
                  exact ⟨⟨i + 1, by go_num, by omega, by trivial, X⟩, by simp [intOf]; omega⟩
                · have X := hide' (BAD.out (Or.inr (Or.inr ⟨k3, k4⟩)))
                  have e4 : (x != 0) = true := by simpa using k4
                  clear k3 k4
                  go_wp2
                  go_ret
                  exact X.out
              · have e3 : ((i : Int) == s) = false := by simpa using k3
                have X := hide' (NX.out (by unfold badC; omega))
                clear k3
                go_wp2
                exact ⟨⟨i + 1, by go_num, by omega, by trivial, X⟩, by simp [intOf]; omega⟩
        · obtain rfl : i = cn := by omega
          go_wp2
          go_ret
          exact ⟨0, Or.inr ⟨HF.out, Or.inr (Or.inr ⟨HK.out, fun j hj => HA.out j (by have := HL.out; omega), rfl⟩)⟩, rfl, B2.out⟩
    · have X := hide' (show ¬ (cs.length : Int) = P by have := HL.out; omega)
      have e1 : ((cn : Int) != P) = true := by simpa using k
      clear k
      go_wp2
      go_ret
      exact ⟨3, Or.inr ⟨HF.out, Or.inl ⟨X.out, rfl⟩⟩, rfl, B2.out⟩
  · have H0 := hide' h0
    have EF := hide' (errOf_not h0)
    rw [EF.out]
    clear h0
    go_wp2
    go_ret
    exact ⟨f, Or.inl ⟨H0.out, HF.out⟩, by rw [EF.out]; rfl, B2.out⟩
end Go.Proofs.YtpajdmhgonmgoaaDoor

namespace Go.Proofs.YtpajdmhgonmgoaaDoor
open Go.RowKit
set_option linter.unusedVariables false
theorem mk_intR (n : Nat) (hn : n ≤ 10) (w : World) : (Instr.makeSlice 25 (.int .i64 (n : Int)) (.int .i64 (n : Int))).run Tryd.prog w = .ok (.slice (some ⟨w.heap.size, 0, none⟩) n n) (w.alloc (.cells (arrS n fun _ => .int .i64 0) 3)) := by
  rw [← made_allS]
  exact run_make_row' (P := Tryd.prog) 25 3 (.int .i64 0) 8 Tryd.underlying25 info_int rfl .i64 .i64 n (by omega) (by omega) w
/-- A row of rows, each of the call's own, all apart. -/
structure WyA (V : World) (wb B P : Nat) (v : Nat → Value) (L : Nat → List Int) : Prop where
  blk : V.heap[wb]? = some (.cells (arrS P v) 25 (0, 0))
  own : ∀ k, k < P → V.ownsRow B 3 1 (v k) (L k).length ((L k).map (Value.int .i64))
  apart : ∀ j k, j < P → k < P → j ≠ k → ∀ g, (v j).ownBlock = some g → (v k).ownBlock ≠ some g
  base : B ≤ wb
theorem WyA.made (w : World) (P : Nat) {B : Nat} (hB : B ≤ w.heap.size) : WyA (w.alloc (.cells (arrS P fun _ => .slice none 0 0) 25)) w.heap.size B P (fun _ => .slice none 0 0) (fun _ => []) :=
  ⟨heap_alloc_new _ _, fun _ _ => World.ownsRow_nil _ _ _ _, fun j k _ _ _ g h => by simp [Value.ownBlock] at h, hB⟩
theorem WyA.keep {V V' : World} {wb B P : Nat} {v : Nat → Value} {L : Nat → List Int} (h : WyA V wb B P v L) (hb : Below V.heap.size V V') : WyA V' wb B P v L := by
  have g : V.grownBy V' none := ⟨hb.os, hb.tape, hb.output, hb.size, fun k hk _ => hb.block k hk⟩
  exact ⟨(hb.block _ (ltS_of_block h.blk)).trans h.blk, fun k hk => (h.own k hk).kept g (by cases (v k).ownBlock <;> simp), h.apart, h.base⟩
theorem WyA.cell {V : World} {wb B P : Nat} {v : Nat → Value} {L : Nat → List Int} (h : WyA V wb B P v L) {k : Nat} (hk : k < P) : V.cell? ⟨wb, k, none⟩ = some (v k) := by
  have := cell_of_row V wb k _ _ _ h.blk
  rw [arrS_get _ hk] at this
  exact this
theorem not_rowR {W : World} {p : Nat} {cs : Array Value} {t e : TypeId} {fr : Nat × Nat} (h : W.heap[p]? = some (.cells cs t fr)) (hte : t ≠ e) {base size k : Nat} {v : Value} {xs : List Value} (hr : W.ownsRow base e size v k xs) : some p ≠ v.ownBlock := by
  rcases hr.2 with ⟨rfl, _⟩ | ⟨g, cap, cur, rfl, _, hgb, _⟩
  · simp [Value.ownBlock]
  · intro e'
    obtain rfl : p = g := by simpa [Value.ownBlock] using e'
    have := h.symm.trans hgb
    simp at this
    exact hte this.2.1
def upV (v : Nat → Value) (k : Nat) (x : Value) (j : Nat) : Value := if j = k then x else v j
def pushL (L : Nat → List Int) (k : Nat) (y : Int) (j : Nat) : List Int := if j = k then L k ++ [y] else L j
theorem grownBy_setR (w : World) (g i : Nat) (v : Value) : w.grownBy (w.setCell ⟨g, i, none⟩ v) (some g) :=
  ⟨rfl, rfl, rfl, by simp, fun k _ hk => Below.heap_setCell _ _ _ _ (fun e => hk (by rw [e]))⟩
theorem WyA.push {V w3 : World} {wb B P : Nat} {v : Nat → Value} {L : Nat → List Int} (h : WyA V wb B P v L) {k : Nat} (hk : k < P) {tmp : Obj} {y : Int} {g cap : Nat} (hB : B ≤ V.heap.size)
    (hown : w3.ownsRow B 3 1 (.slice (some ⟨g, 0, none⟩) ((L k).length + 1) cap) ((L k).length + 1) ((L k).map (Value.int .i64) ++ [.int .i64 y])) (hg : (V.alloc tmp).grownBy w3 (v k).ownBlock) (hat : (v k).ownBlock = some g ∨ g = V.heap.size + 1) :
    WyA (w3.setCell ⟨wb, k, none⟩ (.slice (some ⟨g, 0, none⟩) ((L k).length + 1) cap)) wb B P (upV v k (.slice (some ⟨g, 0, none⟩) ((L k).length + 1) cap)) (pushL L k y) ∧ Below B V (w3.setCell ⟨wb, k, none⟩ (.slice (some ⟨g, 0, none⟩) ((L k).length + 1) cap)) := by
  have wbl := ltS_of_block h.blk
  have nw : ∀ j, j < P → some wb ≠ (v j).ownBlock := fun j hj => not_rowR h.blk (by decide) (h.own j hj)
  have b1 : (V.alloc tmp).heap[wb]? = some (.cells (arrS P v) 25 (0, 0)) := (heap_alloc_old _ _ wbl).trans h.blk
  have b3 : w3.heap[wb]? = some (.cells (arrS P v) 25 (0, 0)) := (hg.block wb (by simp; omega) (nw k hk)).trans b1
  have ng : some wb ≠ (Value.slice (some ⟨g, 0, none⟩) ((L k).length + 1) cap).ownBlock := not_rowR b3 (by decide) hown
  refine ⟨⟨?_, fun j hj => ?_, fun i j hi hj hij q e1 e2 => ?_, h.base⟩, ?_⟩
  · rw [heap_setCell_same _ _ _ _ _ _ b3, arrS_set]
    rfl
  · unfold upV pushL
    by_cases e : j = k
    · rw [if_pos e, if_pos e]
      have := hown.kept (grownBy_setR w3 wb k (.slice (some ⟨g, 0, none⟩) ((L k).length + 1) cap)) (Or.inr (Ne.symm ng))
      simpa using this
    · rw [if_neg e, if_neg e]
      have a1 := (h.own j hj).alloc tmp
      have a2 := a1.kept hg (by
        cases q : (v j).ownBlock with
        | none => exact Or.inl rfl
        | some g' => exact Or.inr fun e' => h.apart j k hj hk e g' q e'.symm)
      exact a2.kept (grownBy_setR w3 wb k _) (Or.inr (Ne.symm (nw j hj)))
  · unfold upV at e1 e2
    have old : ∀ j, j < P → j ≠ k → (v j).ownBlock ≠ some g := fun j hj e q => by
      rcases hat with hat | hat
      · exact h.apart j k hj hk e g q hat
      · have := ((h.own j hj).lt g q).2; omega
    by_cases a : i = k
    · rw [if_pos a] at e1
      rw [if_neg (by omega)] at e2
      have : g = q := by simpa [Value.ownBlock] using e1
      subst this
      exact old j hj (by omega) e2
    · rw [if_neg a] at e1
      by_cases b : j = k
      · rw [if_pos b] at e2
        have : g = q := by simpa [Value.ownBlock] using e2
        subst this
        exact old i hi a e1
      · rw [if_neg b] at e2
        exact h.apart i j hi hj hij q e1 e2
  · refine Below.setCell (p := ⟨wb, k, none⟩) ?_ h.base _
    exact ((Below.refl B V).alloc hB tmp).grown hg (by simp; omega) fun q e => ((h.own k hk).lt q e).1
/-- What stands while a row is appended to. -/
structure AppR (pvl : List (Option Value)) (W : World) (B : Nat) (vx : Value) (xs : List Int) (y : Int) (L : Nat → Bool) (vals : Nat → Value) (w : World) : Prop where
  pure : ∀ i u, pvl[i]? = some (some u) → L i = true → vals i = u
  s0 : L 10 = false → w = W
  s1 : L 10 = true → vals 10 = .slice (some ⟨W.heap.size, 0, none⟩) 1 1 ∧ (L 11 = false → w = W.alloc (.cells #[.int .i64 y] 3))
  s2 : L 11 = true → L 10 = true ∧ ∃ g cap, vals 11 = .slice (some ⟨g, 0, none⟩) (xs.length + 1) cap ∧ w.ownsRow B 3 1 (.slice (some ⟨g, 0, none⟩) (xs.length + 1) cap) (xs.length + 1) (xs.map (Value.int .i64) ++ [.int .i64 y]) ∧ (W.alloc (.cells #[.int .i64 y] 3)).grownBy w vx.ownBlock ∧ (vx.ownBlock = some g ∨ g = W.heap.size + 1)
theorem AppR.cong {pvl : List (Option Value)} {W : World} {B : Nat} {vx : Value} {xs : List Int} {y : Int} {L L' : Nat → Bool} {vals : Nat → Value} {w : World} (hl : pvl.length = 13) (e : ∀ i, i < 13 → L i = L' i) (h : AppR pvl W B vx xs y L vals w) : AppR pvl W B vx xs y L' vals w :=
  ⟨fun i u hi hL => h.pure i u hi (by rw [e i (by have := (List.getElem?_eq_some_iff.1 hi).1; omega)]; exact hL), fun q => h.s0 (by rw [e 10 (by omega)]; exact q), fun q => by
    rw [← e 10 (by omega)] at q
    rw [← e 11 (by omega)]; exact h.s1 q, fun q => by
    rw [← e 11 (by omega)] at q
    rw [← e 10 (by omega)]; exact h.s2 q⟩
theorem AppR.start (pvl : List (Option Value)) (W : World) (B : Nat) (vx : Value) (xs : List Int) (y : Int) (vals : Nat → Value) : AppR pvl W B vx xs y (fun _ => false) vals W :=
  ⟨fun i u _ h => (by cases h), fun _ => rfl, fun h => (by cases h), fun h => (by cases h)⟩
theorem AppR.keep {pvl : List (Option Value)} {W : World} {B : Nat} {vx : Value} {xs : List Int} {y : Int} {L : Nat → Bool} {vals : Nat → Value} {w : World} (h : AppR pvl W B vx xs y L vals w) {k : Nat} (hk : k < W.heap.size) (hne : some k ≠ vx.ownBlock) : w.heap[k]? = W.heap[k]? := by
  cases q : L 11 with
  | true =>
    obtain ⟨_, g, cap, _, _, hg, _⟩ := h.s2 q
    exact (hg.block k (by simp; omega) hne).trans (heap_alloc_old _ _ hk)
  | false =>
    cases r : L 10 with
    | true => rw [(h.s1 r).2 q]; exact heap_alloc_old _ _ hk
    | false => rw [h.s0 r]
theorem AppR.put {pvl : List (Option Value)} {W : World} {B : Nat} {vx : Value} {xs : List Int} {y : Int} {L : Nat → Bool} {vals : Nat → Value} {w : World} (h : AppR pvl W B vx xs y L vals w) {i : Nat} {u : Value} (hi : pvl[i]? = some (some u)) (n1 : i ≠ 10) (n2 : i ≠ 11) : AppR pvl W B vx xs y (fun j => if j = i then true else L j) (fun j => if j = i then u else vals j) w := by
  refine ⟨fun j z hj hL => ?_, fun q => ?_, fun q => ?_, fun q => ?_⟩
  · by_cases e : j = i
    · rw [if_pos e]; rw [e, hi] at hj; simpa using hj
    · rw [if_neg e] at hL ⊢; exact h.pure j z hj hL
  · rw [if_neg (Ne.symm n1)] at q; exact h.s0 q
  · rw [if_neg (Ne.symm n1)] at q ⊢; rw [if_neg (Ne.symm n2)]; exact h.s1 q
  · rw [if_neg (Ne.symm n2)] at q; rw [if_neg (Ne.symm n1), if_neg (Ne.symm n2)]; exact h.s2 q
theorem AppR.build {pvl : List (Option Value)} {W : World} {B : Nat} {vx : Value} {xs : List Int} {y : Int} {L : Nat → Bool} {vals : Nat → Value} {w : World} (h : AppR pvl W B vx xs y L vals w) (hp : pvl[10]? = some none) (l0 : L 10 = false) : AppR pvl W B vx xs y (fun j => if j = 10 then true else L j) (fun j => if j = 10 then .slice (some ⟨W.heap.size, 0, none⟩) 1 1 else vals j) (W.alloc (.cells #[.int .i64 y] 3)) := by
  have l1 : L 11 = false := by
    cases q : L 11 with
    | false => rfl
    | true => rw [(h.s2 q).1] at l0; cases l0
  refine ⟨fun j z hj hL => ?_, fun q => ?_, fun q => ?_, fun q => ?_⟩
  · by_cases e : j = 10
    · rw [e, hp] at hj; simp at hj
    · rw [if_neg e] at hL ⊢; exact h.pure j z hj hL
  · simp at q
  · exact ⟨by simp, fun _ => rfl⟩
  · simp [l1] at q
end Go.Proofs.YtpajdmhgonmgoaaDoor

namespace Go.Proofs.YtpajdmhgonmgoaaDoor
open Go.RowKit
set_option linter.unusedVariables false
set_option linter.unusedSimpArgs false
/-- A ground as it lies: whole numbers. -/
def GrI (V : World) (gb : Nat) (F : Nat → Int) : Prop := V.heap[gb]? = some (.cells (arrS 112 fun k => .int .i64 (F k)) 58 (0, 0))
def upI (F : Nat → Int) (i : Nat) (z : Int) (k : Nat) : Int := if k = i then z else F k
theorem GrI.cell {V : World} {gb k : Nat} {F : Nat → Int} (h : GrI V gb F) (hk : k < 112) : V.cell? ⟨gb, k, none⟩ = some (.int .i64 (F k)) := by
  have := cell_of_row V gb k _ _ _ h
  rw [arrS_get _ hk] at this
  exact this
theorem GrI.set {V : World} {gb i : Nat} {F : Nat → Int} (h : GrI V gb F) (z : Int) : GrI (V.setCell ⟨gb, i, none⟩ (.int .i64 z)) gb (upI F i z) := by
  have := heap_setCell_same V gb i _ _ (.int .i64 z) h
  rw [arrS_set] at this
  unfold GrI
  rw [this]
  congr 2
  exact arrS_ext fun k _ => by unfold upI; by_cases q : k = i <;> simp [q]
theorem grownR_trans {a b c : World} {row : Option Nat} (h : a.grownBy b row) (k : b.grownBy c row) : a.grownBy c row :=
  ⟨k.os.trans h.os, k.tape.trans h.tape, k.output.trans h.output, Nat.le_trans h.size k.size, fun i hi hn => (k.block i (Nat.lt_of_lt_of_le hi h.size) hn).trans (h.block i hi hn)⟩
theorem grownR_drew (w : World) (row : Option Nat) : w.grownBy w.drew row := ⟨rfl, rfl, rfl, Nat.le_refl _, fun _ _ _ => rfl⟩
end Go.Proofs.YtpajdmhgonmgoaaDoor

namespace Go.Proofs.YtpajdmhgonmgoaaDoor
open Go.RowKit
set_option linter.unusedVariables false
set_option linter.unusedSimpArgs false
theorem arrS_size (n : Nat) (f : Nat → Value) : (arrS n f).size = n := by simp [arrS]
theorem arrS_all (n : Nat) (F : Nat → Int) : (arrS n fun k => .int .i64 (F k)).all (·.oneCell') = true := by
  rw [Array.all_eq_true]
  intro i h
  simp [arrS]
  rfl
theorem set_arrI (n i : Nat) (F : Nat → Int) (z : Int) : (arrS n fun k => .int .i64 (F k)).setIfInBounds i (.int .i64 z) = arrS n fun k => .int .i64 (upI F i z k) := by
  rw [arrS_set]
  exact arrS_ext fun k _ => by unfold upI; by_cases q : k = i <;> simp [q]
theorem size_ground : (Tryd.prog.info? 58).map (·.size) = some 112 := by kernel_rfl
theorem heap_setRow_other (w : World) (g k : Nat) (cs : Array Value) (h : k ≠ g) : (w.setRow g cs).heap[k]? = w.heap[k]? := by
  unfold World.setRow
  dsimp only
  rw [Array.getElem?_modify]
  rw [if_neg (fun e => h e.symm)]
theorem zero_groundS (W : World) : Sem.run Tryd.prog (zeroValue 58) W = .ok (.agg (arrS 112 fun _ => .int .i64 0)) W := by kernel_rfl
end Go.Proofs.YtpajdmhgonmgoaaDoor

namespace Go.Proofs.YtpajdmhgonmgoaaDoor
open Go.RowKit
set_option linter.unusedVariables false
def CloneOut (w : World) (xs : List Int) (n : Nat) (e : Ending) (w' : World) : Prop := ∃ g q, e = .returned (.slice (some ⟨g, 0, none⟩) n q) ∧ w'.ownsRow w.heap.size 3 1 (.slice (some ⟨g, 0, none⟩) n q) n (xs.map (Value.int .i64)) ∧ Below w.heap.size w w' ∧ w.heap.size ≤ g
set_option maxRecDepth 100000 in
set_option maxHeartbeats 3200000 in
theorem cloneR_any (xs : List Int) (a : Option Addr) (n c : Nat) (w : World) (hA : ArgP w xs a n c) (n1 : 1 ≤ n) (n2 : n ≤ 10) :
    Calls Tryd.prog 33 #[.slice a n c] w (CloneOut w xs n) := by
  obtain ⟨i0, hi0, hz⟩ := Option.map_eq_some_iff.1 info_int
  simp only [Prod.mk.injEq] at hz
  obtain ⟨hz0, hz1, hz2⟩ := hz
  obtain ⟨g0, off, rfl, hg0, -⟩ := hA.cells 0 (by have := hA.len; omega)
  have q22 : ∀ (w : World) (a : Option Addr) (n c n' c' : Nat), (binOp .eql 25 (.slice a n c) (.slice none n' c')).run Tryd.prog w = .ok (.bool a.isNone) w := fun w a n c n' c' => Lib.run_eql_slice_nil w _ _ a n c n' c' Tryd.underlying25
  have LN := hide' hA.len
  have NW := hide' (show ∀ j u, (xs.map (Value.int .i64))[j]? = some u → ∀ ob, (w.alloc ob).cell? ((⟨g0, off, none⟩ : Addr).add j) = some u from fun j u hj ob => by
    have hl : j < xs.length := by simpa using (List.getElem?_eq_some_iff.1 hj).1
    obtain ⟨g, o, e, hg, hc⟩ := hA.cells j hl
    simp at e
    obtain ⟨rfl, rfl⟩ := e
    have ad : (⟨g0, off, none⟩ : Addr).add j = ⟨g0, off + j, none⟩ := by unfold Addr.add; split <;> simp_all
    rw [ad, World.cell?_alloc_lt _ _ _ hg, hc]
    simpa [hl] using hj)
  clear hA hg0
  go_enter Tryd.func33, Tryd.ntmps33
  go_wp2_with (at_builtin; refine wpList_append_own _ rfl _ _ 25 rfl w.heap.size 3 i0 (.int .i64 0) 1 8 Tryd.underlying25 hi0 hz0 hz1 hz2 rfl (by decide) _ _ _ rfl (World.ownsRow_made w #[] 0 (Nat.le_refl _) (Nat.zero_le _) rfl) ⟨g0, off, none⟩ n c (xs.map (Value.int .i64)) rfl (by rw [List.length_map]; have := LN.out; omega) (fun j u hj => NW.out j u hj _) (fun u hu => by obtain ⟨x, _, rfl⟩ := List.mem_map.1 hu; rfl) (by unfold maxLen; omega) (by omega) (by simp) ?_)
  intro v' w1 hown hgrow hnil
  go_wp2
  go_ret
  have hown : w1.ownsRow w.heap.size 3 1 v' n (xs.map (Value.int .i64)) := by simpa using hown
  obtain ⟨g, cap, rfl, hb, hlt⟩ := hown.form (by omega)
  exact ⟨g, cap, rfl, hown, ((Below.refl _ w).alloc (Nat.le_refl _) _).grown hgrow (by simp) (by intro k hk; simp [Value.ownBlock] at hk; omega), hb⟩
end Go.Proofs.YtpajdmhgonmgoaaDoor

