/-
  What the last text of this claim leans on, part 5: Wx1, Wr1.
-/
import Derived.Test.YthmeapplnocfjaaDoorZf4
import Derived.Test.YthmeapplnocfjaaDoorZf3
namespace Go.Proofs.YthmeapplnocfjaaDoor
open Go.RowKit
set_option linter.unusedVariables false
set_option linter.unusedSimpArgs false
theorem index_fourW (a b c d : Int) (i : Nat) (hi : i < 4) (w : World) : (Instr.index 50 (.agg #[.int .i64 a, .int .i64 b, .int .i64 c, .int .i64 d]) (.int .i64 (i : Int))).run Tryd.prog w = .ok (.int .i64 (tlC ⟨a, b, c, d⟩ i)) w := by
  match i, hi with
  | 0, _ => exact (show (Instr.index 50 (.agg #[.int .i64 a, .int .i64 b, .int .i64 c, .int .i64 d]) (.int .i64 0)).run Tryd.prog w = .ok (.int .i64 a) w by kernel_rfl)
  | 1, _ => exact (show (Instr.index 50 (.agg #[.int .i64 a, .int .i64 b, .int .i64 c, .int .i64 d]) (.int .i64 1)).run Tryd.prog w = .ok (.int .i64 b) w by kernel_rfl)
  | 2, _ => exact (show (Instr.index 50 (.agg #[.int .i64 a, .int .i64 b, .int .i64 c, .int .i64 d]) (.int .i64 2)).run Tryd.prog w = .ok (.int .i64 c) w by kernel_rfl)
  | 3, _ => exact (show (Instr.index 50 (.agg #[.int .i64 a, .int .i64 b, .int .i64 c, .int .i64 d]) (.int .i64 3)).run Tryd.prog w = .ok (.int .i64 d) w by kernel_rfl)
set_option maxRecDepth 100000 in
set_option maxHeartbeats 12800000 in
theorem wangCheck_any (xs : List TlT) (a : Option Addr) (n c : Nat) (w : World) (hA : ArgT w xs a n c) : Calls Tryd.prog 7 #[.slice a n c] w fun e w' => e = .returned (errOf (tlF xs)) ∧ Below w.heap.size w w' := by
  have HL := hide' hA.len
  have HM := hide' hA.max
  have HA := hide' hA
  clear hA
  have hmm := HM.out
  unfold maxLen at hmm
  go_enter Tryd.func7, Tryd.ntmps7
  by_cases c1 : (n : Int) < 1
  · have F := hide' (show tlF xs = 4 by unfold tlF; rw [if_pos]; have := HL.out; omega)
    go_wp2
    go_ret
    exact ⟨by rw [F.out]; rfl, Below.refl _ _⟩
  · by_cases c2 : (16 : Int) < (n : Int)
    · have F := hide' (show tlF xs = 4 by unfold tlF; rw [if_pos]; have := HL.out; omega)
      go_wp2
      go_ret
      exact ⟨by rw [F.out]; rfl, Below.refl _ _⟩
    · have FY := hide' (fun (h : xs.all tlB = true) => show tlF xs = 0 by unfold tlF; rw [if_neg (by have := HL.out; omega), if_pos h])
      have FN := hide' (fun (h : ¬ xs.all tlB = true) => show tlF xs = 1 by unfold tlF; rw [if_neg (by have := HL.out; omega), if_neg h])
      have n16 : n ≤ 16 := by omega
      go_wp2
      go_loopw [4, 6, 18] (fun _ _ kv wr => ∃ (k : Nat), kv = .int .i64 (k : Int) ∧ k ≤ n ∧ Hid (∀ j, j < k → tlB (xs.getD j tlz) = true) ∧ Hid (Below w.heap.size w wr)) (fun _ _ kv _ => n - (intOf kv).toNat)
      case atStart => exact ⟨0, rfl, by omega, hide' (fun j h => by omega), hide' (Below.refl _ _)⟩
      case round =>
        obtain ⟨k, rfl, hk, AL, BW⟩ := hrel
        by_cases d : (k : Int) < (n : Int)
        · have kl : k < xs.length := by have := HL.out; omega
          have k0 : (0 : Int) ≤ (k : Int) := by omega
          obtain ⟨g, off, ea, hg, d0, d1, d2, d3⟩ := (HA.out.below BW.out).cells k kl
          subst ea
          have NO := hide' (fun h => FN.out (all_noT kl h))
          obtain ⟨t, ht⟩ : ∃ t, xs.getD k tlz = t := ⟨_, rfl⟩
          rw [ht] at d0 d1 d2 d3 NO
          have HT := hide' ht
          clear ht
          obtain ⟨V, hV⟩ : ∃ V, wr.alloc (.cells #[.int .i64 t.u, .int .i64 t.r, .int .i64 t.d, .int .i64 t.l] 47) = V := ⟨_, rfl⟩
          have BV := hide' (show Below w.heap.size w V by rw [← hV]; exact BW.out.alloc BW.out.size _)
          have G : V.heap[wr.heap.size]? = some (.cells #[.int .i64 t.u, .int .i64 t.r, .int .i64 t.d, .int .i64 t.l] 47 (0, 0)) := by rw [← hV]; exact heap_alloc_new _ _
          have y0 : V.cell? ⟨wr.heap.size, 0, none⟩ = some (.int .i64 t.u) := by rw [cell_of_row V _ _ _ _ _ G]; rfl
          have y1 : V.cell? ⟨wr.heap.size, 1, none⟩ = some (.int .i64 t.r) := by rw [cell_of_row V _ _ _ _ _ G]; rfl
          have y2 : V.cell? ⟨wr.heap.size, 2, none⟩ = some (.int .i64 t.d) := by rw [cell_of_row V _ _ _ _ _ G]; rfl
          have y3 : V.cell? ⟨wr.heap.size, 3, none⟩ = some (.int .i64 t.l) := by rw [cell_of_row V _ _ _ _ _ G]; rfl
          have IX := hide' (fun (i : Nat) (h : i < 4) (W : World) => index_fourW t.u t.r t.d t.l i h W)
          clear G
          go_wp2
          try rw [hV]
          clear hV d0 d1 d2 d3 hg y0 y1 y2 y3
          obtain ⟨VV, rfl⟩ : ∃ VV, VV = wr := ⟨_, rfl⟩
          go_loopw [6, 31] (fun _ jv wr => ∃ (j : Nat), jv = .int .i64 (j : Int) ∧ j ≤ 4 ∧ Hid (∀ i, i < j → 0 ≤ tlC t i ∧ tlC t i ≤ 7) ∧ wr = V) (fun _ jv _ => 4 - (intOf jv).toNat)
          case atStart => exact ⟨0, rfl, by omega, hide' (fun i h => by omega), rfl⟩
          case round =>
            obtain ⟨j, rfl, hj, CL, rfl⟩ := hrel
            by_cases e : (j : Int) < 4
            · have j4 : j < 4 := by omega
              have j0 : (0 : Int) ≤ (j : Int) := by omega
              have ix := IX.out j j4 wr
              rw [show tlC ⟨t.u, t.r, t.d, t.l⟩ j = tlC t j from rfl] at ix
              have NJ := hide' (fun (h : ¬ (0 ≤ tlC t j ∧ tlC t j ≤ 7)) => NO.out (tlB_no j4 h))
              have YJ := hide' (fun (h : 0 ≤ tlC t j ∧ tlC t j ≤ 7) i (hi : i < j + 1) => show 0 ≤ tlC t i ∧ tlC t i ≤ 7 by
                by_cases q : i = j
                · rw [q]; exact h
                · exact CL.out i (by omega))
              obtain ⟨x, hx⟩ : ∃ x, tlC t j = x := ⟨_, rfl⟩
              rw [hx] at ix NJ YJ
              clear hx
              by_cases q1 : x < 0
              · have F := hide' (NJ.out (by omega))
                go_wp2
                go_ret
                exact ⟨by rw [F.out]; rfl, BV.out⟩
              · by_cases q2 : 8 ≤ x
                · have F := hide' (NJ.out (by omega))
                  go_wp2
                  go_ret
                  exact ⟨by rw [F.out]; rfl, BV.out⟩
                · have Y := hide' (YJ.out ⟨by omega, by omega⟩)
                  go_wp2
                  exact ⟨⟨j + 1, by go_num, by omega, Y, trivial⟩, by simp [intOf]; omega⟩
            · have C4 := hide' (show ∀ i, i < 4 → 0 ≤ tlC t i ∧ tlC t i ≤ 7 from fun i hi => CL.out i (by omega))
              have NX := hide' (show ∀ i, i < k + 1 → tlB (xs.getD i tlz) = true from fun i hi => by
                by_cases q : i = k
                · rw [q, HT.out]; exact tlB_of C4.out
                · exact AL.out i (by omega))
              go_wp2
              exact ⟨⟨k + 1, by go_num, by omega, NX, BV⟩, by simp [intOf]; omega⟩
        · obtain rfl : k = n := by omega
          have F := hide' (FY.out (all_yesT (fun i hi => AL.out i (by rw [HL.out]; exact hi))))
          go_wp2
          go_ret
          exact ⟨by rw [F.out]; rfl, BW.out⟩
set_option maxRecDepth 100000 in
set_option maxHeartbeats 6400000 in
theorem wangSized_any (xs : List TlT) (a : Option Addr) (n c : Nat) (W H : Int) (w : World) (hA : ArgT w xs a n c) : Calls Tryd.prog 19 #[.slice a n c, .int .i64 W, .int .i64 H] w fun e w' => e = .returned (errOf (sdF xs W H)) ∧ Below w.heap.size w w' := by
  have TC := hide' (wangCheck_any xs a n c w hA)
  have SF := hide' (show sdF xs W H = if tlF xs = 0 then if W < 1 ∨ 5 < W ∨ H < 1 ∨ 5 < H then 1 else 0 else tlF xs from rfl)
  obtain ⟨f, hf⟩ : ∃ f, tlF xs = f := ⟨_, rfl⟩
  rw [hf] at TC SF
  clear hf hA
  go_enter Tryd.func19, Tryd.ntmps19
  by_cases f0 : f = 0
  · subst f0
    rw [if_pos rfl] at SF
    rw [show errOf 0 = .nilIface from rfl] at TC
    by_cases w1 : W < 1
    · rw [if_pos (by omega)] at SF
      go_wp2_with fail
      refine TC.out.mono ?_
      rintro o w3 ⟨rfl, b3⟩
      go_wp2
      go_ret
      exact ⟨by rw [SF.out]; rfl, b3⟩
    · by_cases w2 : 5 < W
      · rw [if_pos (by omega)] at SF
        go_wp2_with fail
        refine TC.out.mono ?_
        rintro o w3 ⟨rfl, b3⟩
        go_wp2
        go_ret
        exact ⟨by rw [SF.out]; rfl, b3⟩
      · by_cases w3' : H < 1
        · rw [if_pos (by omega)] at SF
          go_wp2_with fail
          refine TC.out.mono ?_
          rintro o w3 ⟨rfl, b3⟩
          go_wp2
          go_ret
          exact ⟨by rw [SF.out]; rfl, b3⟩
        · by_cases w4 : 5 < H
          · rw [if_pos (by omega)] at SF
            go_wp2_with fail
            refine TC.out.mono ?_
            rintro o w3 ⟨rfl, b3⟩
            go_wp2
            go_ret
            exact ⟨by rw [SF.out]; rfl, b3⟩
          · rw [if_neg (by omega)] at SF
            go_wp2_with fail
            refine TC.out.mono ?_
            rintro o w3 ⟨rfl, b3⟩
            go_wp2
            go_ret
            exact ⟨by rw [SF.out]; rfl, b3⟩
  · rw [if_neg f0] at SF
    have ef : errOf f = .iface 49 (.int .i64 (f : Int)) := by unfold errOf; rw [if_neg f0]
    rw [ef] at TC
    have EF := hide' ef
    clear f0 ef
    go_wp2_with fail
    refine TC.out.mono ?_
    rintro o w3 ⟨rfl, b3⟩
    go_wp2
    go_ret
    exact ⟨by rw [SF.out, EF.out]; rfl, b3⟩
end Go.Proofs.YthmeapplnocfjaaDoor

namespace Go.Proofs.YthmeapplnocfjaaDoor
set_option linter.unusedVariables false
set_option linter.unusedSimpArgs false
/-- A board: its tiles, its sides, whether it is a ring, which tiles may stand where (bits). -/
structure BdW where
  t : Nat → TlT
  W : Nat
  H : Nat
  ring : Bool
  may : Nat → Nat → Nat
/-- A tile as a cell's neighbours see it. -/
def inW (b : BdW) (r c k : Nat) : TlT :=
  if b.ring = true then b.t k else ⟨if r = 0 then 0 else (b.t k).u, if c + 1 = b.W then 0 else (b.t k).r, if r + 1 = b.H then 0 else (b.t k).d, if c = 0 then 0 else (b.t k).l⟩
/-- Cells fit. -/
def FitB (b : BdW) (S : Nat → Nat → Nat) : Prop := ∀ r c, r < b.H → c < b.W → (inW b r c (S r c)).r = (inW b r ((c + 1) % b.W) (S r ((c + 1) % b.W))).l ∧ (inW b r c (S r c)).d = (inW b ((r + 1) % b.H) c (S ((r + 1) % b.H) c)).u
/-- They are those that may stand there. -/
def MayB (b : BdW) (S : Nat → Nat → Nat) : Prop := ∀ r c, r < b.H → c < b.W → (b.may r c).testBit (S r c) = true
def SolB (b : BdW) (S : Nat → Nat → Nat) : Prop := MayB b S ∧ FitB b S
def OpB (b : BdW) : Prop := ∃ S, SolB b S
/-- Turned: columns for rows. -/
def trT (t : TlT) : TlT := ⟨t.l, t.d, t.r, t.u⟩
def trB (b : BdW) : BdW := ⟨fun k => trT (b.t k), b.H, b.W, b.ring, fun r c => b.may c r⟩
theorem in_tr (b : BdW) (r c k : Nat) : inW (trB b) c r k = trT (inW b r c k) := by
  unfold inW trB
  simp only
  split <;> rfl
theorem sol_tr {b : BdW} {S : Nat → Nat → Nat} (h : SolB b S) : SolB (trB b) (fun r c => S c r) := by
  refine ⟨fun r c hr hc => h.1 c r hc hr, fun r c hr hc => ?_⟩
  obtain ⟨h1, h2⟩ := h.2 c r hc hr
  refine ⟨?_, ?_⟩
  · show (inW (trB b) r c (S c r)).r = (inW (trB b) r ((c + 1) % b.H) (S ((c + 1) % b.H) r)).l
    rw [in_tr, in_tr]
    exact h2
  · show (inW (trB b) r c (S c r)).d = (inW (trB b) ((r + 1) % b.W) c (S c ((r + 1) % b.W))).u
    rw [in_tr, in_tr]
    exact h1
theorem op_tr (b : BdW) : OpB (trB b) ↔ OpB b := ⟨fun ⟨S, h⟩ => ⟨_, (sol_tr h : SolB (trB (trB b)) _)⟩, fun ⟨S, h⟩ => ⟨_, sol_tr h⟩⟩
/-- Colours of the tiles. -/
def ColB (b : BdW) : Prop := ∀ k, (0 ≤ (b.t k).u ∧ (b.t k).u ≤ 7) ∧ (0 ≤ (b.t k).r ∧ (b.t k).r ≤ 7) ∧ (0 ≤ (b.t k).d ∧ (b.t k).d ≤ 7) ∧ (0 ≤ (b.t k).l ∧ (b.t k).l ≤ 7)
theorem col_tr {b : BdW} (h : ColB b) : ColB (trB b) := fun k => ⟨(h k).2.2.2, (h k).2.2.1, (h k).2.1, (h k).1⟩
theorem col_in {b : BdW} (h : ColB b) (r c k : Nat) : (0 ≤ (inW b r c k).u ∧ (inW b r c k).u ≤ 7) ∧ (0 ≤ (inW b r c k).r ∧ (inW b r c k).r ≤ 7) ∧ (0 ≤ (inW b r c k).d ∧ (inW b r c k).d ≤ 7) ∧ (0 ≤ (inW b r c k).l ∧ (inW b r c k).l ≤ 7) := by
  have := h k
  unfold inW
  split
  · exact this
  · refine ⟨?_, ?_, ?_, ?_⟩ <;> simp only <;> split <;> omega
/-- Sides of a board, and what may stand there. -/
structure BokW (b : BdW) : Prop where
  w1 : 1 ≤ b.W
  w5 : b.W ≤ 5
  h1 : 1 ≤ b.H
  h5 : b.H ≤ 5
  col : ColB b
  may : ∀ r c, b.may r c < 65536
theorem BokW.tr {b : BdW} (h : BokW b) : BokW (trB b) := ⟨h.h1, h.h5, h.w1, h.w5, col_tr h.col, fun r c => h.may c r⟩
/-- One cell's tiles set. -/
def setM (b : BdW) (r c m : Nat) : BdW := ⟨b.t, b.W, b.H, b.ring, fun r' c' => if r' = r ∧ c' = c then m else b.may r' c'⟩
theorem BokW.set {b : BdW} (h : BokW b) (r c : Nat) {m : Nat} (hm : m < 65536) : BokW (setM b r c m) := ⟨h.w1, h.w5, h.h1, h.h5, h.col, fun r' c' => by show (if r' = r ∧ c' = c then m else b.may r' c') < 65536; split; exact hm; exact h.may r' c'⟩
theorem set_set (b : BdW) (r c m m' : Nat) : setM (setM b r c m) r c m' = setM b r c m' := by
  unfold setM
  congr 1
  funext r' c'
  simp only
  split <;> rfl
/-- What is still to come of some bits, n of them done. -/
def RsW (M n rest : Nat) : Prop := n ≤ 16 ∧ rest < 65536 ∧ ∀ i, rest.testBit i = (M.testBit i && decide (n ≤ i))
theorem RsW.start {M : Nat} (h : M < 65536) : RsW M 0 M := ⟨by omega, h, fun i => by simp⟩
theorem bit_lt {M k : Nat} (h : M < 65536) (hk : M.testBit k = true) : k < 16 := by
  rcases Nat.lt_or_ge k 16 with q | q
  · exact q
  · rw [Nat.testBit_lt_two_pow (Nat.lt_of_lt_of_le (show M < 2 ^ 16 from h) (Nat.pow_le_pow_right (by omega) q))] at hk
    cases hk
/-- Without its lowest bit. -/
theorem and_predW {x k : Nat} (hk : x.testBit k = true) (hl : ∀ j, j < k → x.testBit j = false) (q : Nat) : (x &&& (x - 1)).testBit q = (x.testBit q && decide (q ≠ k)) := by
  obtain ⟨a, ha⟩ : ∃ a, x = 2 ^ k * (2 * a + 1) := by
    have h0 : x % 2 ^ k = 0 := by
      apply Nat.eq_of_testBit_eq
      intro j
      rw [Nat.testBit_mod_two_pow]
      by_cases hj : j < k
      · simp [hl j hj]
      · simp [hj]
    have h1 : x = 2 ^ k * (x / 2 ^ k) := by have := Nat.div_add_mod x (2 ^ k); omega
    have h2 : (x / 2 ^ k) % 2 = 1 := by
      have := hk
      rw [Nat.testBit, Nat.shiftRight_eq_div_pow] at this
      simp at this
      omega
    exact ⟨x / 2 ^ k / 2, by rw [show 2 * (x / 2 ^ k / 2) + 1 = x / 2 ^ k by omega]; exact h1⟩
  have hp : 0 < 2 ^ k := Nat.pow_pos (by omega)
  have hx1 : x - 1 = 2 ^ k * (2 * a) + (2 ^ k - 1) := by rw [ha, Nat.mul_add]; omega
  rw [Nat.testBit_and, hx1, Nat.testBit_two_pow_mul_add _ (by omega)]
  by_cases hq : q < k
  · rw [if_pos hq, hl q hq]; simp
  · rw [if_neg hq]
    by_cases e : q = k
    · subst e; simp
    · obtain ⟨d, hd⟩ : ∃ d, q = k + 1 + d := ⟨q - k - 1, by omega⟩
      have t1 : x.testBit q = a.testBit d := by
        have : x = 2 ^ k * (2 * a + 1) + 0 := by omega
        rw [this, Nat.testBit_two_pow_mul_add _ hp, if_neg hq, show q - k = d + 1 by omega, Nat.testBit_succ]
        congr 1; omega
      have t2 : (2 * a).testBit (q - k) = a.testBit d := by
        rw [show q - k = d + 1 by omega, Nat.testBit_succ]
        congr 1; omega
      rw [t1, t2]
      simp [e]
theorem RsW.step {M n rest k : Nat} (h : RsW M n rest) (hk : rest.testBit k = true) (hl : ∀ j, j < k → rest.testBit j = false) : n ≤ k ∧ k < 16 ∧ M.testBit k = true ∧ (∀ j, n ≤ j → j < k → M.testBit j = false) ∧ RsW M (k + 1) (rest &&& (rest - 1)) := by
  have e := h.2.2 k
  rw [hk] at e
  have e' := e.symm
  simp at e'
  have k16 := bit_lt h.2.1 hk
  refine ⟨e'.2, k16, e'.1, fun j h1 h2 => ?_, by omega, Nat.lt_of_le_of_lt Nat.and_le_left h.2.1, fun i => ?_⟩
  · have := hl j h2
    rw [h.2.2 j] at this
    simpa [h1] using this
  · rw [and_predW hk hl, h.2.2 i]
    rcases Nat.lt_trichotomy i k with q | q | q
    · have := hl i q
      rw [h.2.2 i] at this
      rw [this, Bool.false_and]
      have : ¬ k + 1 ≤ i := by omega
      simp [this]
    · subst q
      simp
    · have h1 : n ≤ i := by omega
      have h2 : k + 1 ≤ i := by omega
      have h3 : i ≠ k := by omega
      simp [h1, h2, h3]
theorem RsW.fin {M n : Nat} (h : RsW M n 0) : ∀ i, n ≤ i → M.testBit i = false := fun i hi => by
  have := h.2.2 i
  simpa [hi] using this.symm
end Go.Proofs.YthmeapplnocfjaaDoor

