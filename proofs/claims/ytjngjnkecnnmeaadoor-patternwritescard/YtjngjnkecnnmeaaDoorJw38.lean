/-
  What the last text of this claim leans on, part 38: Wk1, Pr6.
-/
import Derived.Test.YtjngjnkecnnmeaaDoorJw36
import Derived.Test.YtjngjnkecnnmeaaDoorJw35
namespace Go.Proofs.YtjngjnkecnnmeaaDoor
open Go.RowKit
set_option linter.unusedVariables false

theorem Row8.pushL {w wr w' : World} {v v' : Value} {l m : List UInt8} {o : Obj} (h : Row8 w wr v l)
    (hg : (wr.alloc o).grownBy w' v.ownBlock) (ho : w'.ownsRow w.heap.size 5 1 v' (l.length + m.length) (l.map bval ++ m.map bval)) : Row8 w w' v' (l ++ m) := by
  have hz := h.below.size
  have hob := ownsRow_block h.own
  refine ⟨(h.below.alloc hz _).trans ⟨hg.os, hg.tape, hg.output, hg.size, fun k hk => hg.block k (by rw [World.size_alloc]; omega) (fun e => by have := hob k e.symm; omega)⟩, ?_⟩
  simpa using ho

set_option maxRecDepth 100000 in
set_option maxHeartbeats 1600000 in
theorem refDraw (W H : Nat) (xs : List Int) (a : Option Addr) (n c : Nat) (w : World) (hP : ArgP w xs a n c) (lW : W ≤ 100) (lH : H ≤ 100) (hn : n = W * H) :
    Calls Tryd.prog 35 #[.agg #[.int .i64 (W : Int), .int .i64 (H : Int), .slice a n c]] w fun e w' => e = .returned (.string ⟨(drawRows W xs H).toArray⟩) ∧ Below w.heap.size w w' := by
  obtain ⟨i0, hi, hz0, hz1, hz2⟩ := info_parts info_u8
  obtain ⟨w1, hw1⟩ : ∃ w1, w.alloc (.cells #[.int .i64 (W : Int), .int .i64 (H : Int), .slice a n c] 51) = w1 := ⟨_, rfl⟩
  have AP := hide' (show ArgP w1 xs a n c by rw [← hw1]; exact hP.alloc _)
  have BX := hide' (show TB w.heap.size (.int .i64 (W : Int)) (.int .i64 (H : Int)) (.slice a n c) w1 by rw [← hw1]; exact TB.new w _ _ _ _)
  have BB := hide' (show Below w.heap.size w w1 by rw [← hw1]; exact (Below.refl _ _).alloc (Nat.le_refl _) _)
  have hs1 := BB.out.size
  have S0 := hide' (Row8.start w1)
  have HL := hide' hP.len
  have HN := hide' hn
  have hN4 : n ≤ 10000 := by rw [hn]; exact Nat.mul_le_mul lW lH
  clear hP hn
  go_enter Tryd.func35, Tryd.ntmps35
  go_wp2
  clear hw1
  go_loopw [3, 4] (fun bv yv wr => ∃ y : Nat, yv = .int .i64 (y : Int) ∧ y ≤ H ∧ Row8 w1 wr bv (drawRows W xs y)) (fun _ yv _ => H - (intOf yv).toNat)
  case atStart => exact ⟨0, rfl, by omega, S0.out⟩
  case round =>
    obtain ⟨y, rfl, hy, r8⟩ := hrel
    have RR := hide' r8
    obtain ⟨x0, x1, x2, -⟩ := BX.out.next r8.below
    have ho := r8.own
    obtain ⟨sa, sn, sc, rfl⟩ := ownsRow_slice ho
    have hcv := own_string ho
    clear r8 S0 ho
    by_cases d : (y : Int) < (H : Int)
    · clear hcv
      obtain ⟨P, hPe⟩ : ∃ P, y * W = P := ⟨_, rfl⟩
      have q1 : (y : Int) * (W : Int) = (P : Int) := by rw [← hPe]; simp
      have hPn : P + W ≤ n := by rw [← hPe, HN.out, Nat.mul_comm W H, ← Nat.succ_mul]; exact Nat.mul_le_mul_right W (by omega)
      have HP0 := hide' hPe
      clear hPe
      go_wp2
      clear x0 x1 x2
      go_loopw [3, 5] (fun bv iv wx => ∃ x : Nat, iv = .int .i64 (x : Int) ∧ x ≤ W ∧ Row8 w1 wx bv (drawRows W xs y ++ drawRow W xs y x)) (fun _ iv _ => W - (intOf iv).toNat)
      case atStart => exact ⟨0, rfl, by omega, by simp only [drawRow, List.range_zero, List.flatMap_nil, List.append_nil]; exact RR.out⟩
      case round =>
        obtain ⟨x, rfl, hx, r8⟩ := hrel
        have RX := hide' r8
        have hsx := r8.below.size
        obtain ⟨x0, x1, x2, -⟩ := BX.out.next r8.below
        have ho := r8.own
        obtain ⟨ta, tn, tc, rfl⟩ := ownsRow_slice ho
        have HO := hide' ho
        have hlen : (drawRows W xs y ++ drawRow W xs y x).length ≤ 100000 := by
          rw [List.length_append]
          have h1 := drawRows_le W xs lW y
          have h2 := drawRow_le W xs y x
          omega
        clear r8 ho
        by_cases e : (x : Int) < (W : Int)
        · have hk : P + x < xs.length := by rw [← HL.out]; omega
          have hkn : P + x < n := by omega
          obtain ⟨ga, off, rfl, hga, hcc⟩ := (AP.out.below RX.out.below).cells (P + x) hk
          have STEP := hide' (drawRow_succ W xs y x)
          obtain ⟨z, hz⟩ : ∃ z, xs[P + x] = z := ⟨_, rfl⟩
          have hgd : xs.getD (y * W + x) 0 = z := by rw [HP0.out, ← hz]; simp [List.getD, hk]
          rw [hz] at hcc
          clear hz
          by_cases z1 : z = 1
          · have CB := hide' (show cellBytes (xs.getD (y * W + x) 0) = [226, 151, 143] by rw [hgd, z1]; rfl)
            have m1 : (z == 1) = true := by simp [z1]
            have NB := hide' (World.news_of_block (w := wr.alloc (.cells #[.int .u8 226, .int .u8 151, .int .u8 143] 5)) (cs := #[.int .u8 226, .int .u8 151, .int .u8 143]) (t := 5) (fr := (0, 0)) (heap_alloc_new wr _))
            clear hgd z1
            go_wp2_with (at_builtin; refine wpList_append_own _ rfl _ _ 95 rfl w1.heap.size 5 i0 (.int .u8 0) 1 1 Tryd.underlying95 hi hz0 hz1 hz2 rfl (by decide) (.slice ta tn tc) _ _ rfl (HO.out.alloc _) ⟨wr.heap.size, 0, none⟩ 3 3 [.int .u8 226, .int .u8 151, .int .u8 143] rfl rfl NB.out (fun x hx => by simp at hx; rcases hx with rfl | rfl | rfl <;> rfl) (by unfold maxLen; omega) (by omega) (by simp; omega) ?_; intro v' w4 hown' hgrow3 hnil3; have G3 := hide' hgrow3; have O3 := hide' hown'; clear hgrow3 hown' hnil3)
            refine ⟨⟨x + 1, by go_num, by omega, ?_⟩, by simp [intOf]; omega⟩
            rw [STEP.out, CB.out, ← List.append_assoc]
            exact RX.out.pushL G3.out O3.out
          · have CB := hide' (show cellBytes (xs.getD (y * W + x) 0) = [194, 183] by rw [hgd]; unfold cellBytes; rw [if_neg z1])
            have m1 : (z == 1) = false := by simp [z1]
            have NB := hide' (World.news_of_block (w := wr.alloc (.cells #[.int .u8 194, .int .u8 183] 5)) (cs := #[.int .u8 194, .int .u8 183]) (t := 5) (fr := (0, 0)) (heap_alloc_new wr _))
            clear hgd z1
            go_wp2_with (at_builtin; refine wpList_append_own _ rfl _ _ 95 rfl w1.heap.size 5 i0 (.int .u8 0) 1 1 Tryd.underlying95 hi hz0 hz1 hz2 rfl (by decide) (.slice ta tn tc) _ _ rfl (HO.out.alloc _) ⟨wr.heap.size, 0, none⟩ 2 2 [.int .u8 194, .int .u8 183] rfl rfl NB.out (fun x hx => by simp at hx; rcases hx with rfl | rfl <;> rfl) (by unfold maxLen; omega) (by omega) (by simp; omega) ?_; intro v' w4 hown' hgrow3 hnil3; have G3 := hide' hgrow3; have O3 := hide' hown'; clear hgrow3 hown' hnil3)
            refine ⟨⟨x + 1, by go_num, by omega, ?_⟩, by simp [intOf]; omega⟩
            rw [STEP.out, CB.out, ← List.append_assoc]
            exact RX.out.pushL G3.out O3.out
        · have X := hide' (show x = W by omega)
          have STEP := hide' (drawRows_succ W xs y)
          go_wp2_with (at_builtin; refine wpList_append_own _ rfl _ _ 95 rfl w1.heap.size 5 i0 (.int .u8 0) 1 1 Tryd.underlying95 hi hz0 hz1 hz2 rfl (by decide) (.slice ta tn tc) _ _ rfl (HO.out.alloc _) ⟨wr.heap.size, 0, none⟩ 1 1 [.int .u8 10] rfl rfl (cell_one_new _ _ _) (fun x hx => by simp at hx; subst hx; rfl) (by unfold maxLen; omega) (by omega) (by simp; omega) ?_; intro v' w4 hown' hgrow3 hnil3; have G3 := hide' hgrow3; have O3 := hide' hown'; clear hgrow3 hown' hnil3)
          refine ⟨⟨y + 1, by go_num, by omega, ?_⟩, by simp [intOf]; omega⟩
          rw [STEP.out]
          have hd := RX.out.pushL (m := [10]) G3.out O3.out
          rw [X.out] at hd
          exact hd
    · have Y := hide' (show y = H by omega)
      go_wp2
      go_ret
      have B4 := BB.out.trans (RR.out.below.mono (by omega))
      rw [Y.out]
      exact ⟨rfl, B4⟩
end Go.Proofs.YtjngjnkecnnmeaaDoor

namespace Go.Proofs.YtjngjnkecnnmeaaDoor
open Go.RowKit
set_option linter.unusedVariables false

/-- The table read as a number, low bit first. -/
def tabNum (xs : List Int) : Nat → Nat
  | 0 => 0
  | k + 1 => tabNum xs k + (xs.getD k 0).toNat * 2 ^ k
theorem tabNum_lt (xs : List Int) (h : ∀ k, k < xs.length → 0 ≤ xs.getD k 0 ∧ xs.getD k 0 < 2) : ∀ k, k ≤ xs.length → tabNum xs k < 2 ^ k
  | 0, _ => by simp [tabNum]
  | k + 1, hk => by
    have ih := tabNum_lt xs h k (by omega)
    have hx := h k (by omega)
    have : (xs.getD k 0).toNat = 0 ∨ (xs.getD k 0).toNat = 1 := by omega
    unfold tabNum
    rw [Nat.pow_succ]
    rcases this with e | e <;> rw [e] <;> omega

theorem wrapsum (t k : Nat) (x : Int) (ht : t ≤ 255) (hx : x = 0 ∨ x = 1) (hk : k ≤ 7) : wrap64 ((t : Int) + wrap64 (x * 2 ^ k)) = ((t + x.toNat * 2 ^ k : Nat) : Int) := by
  have hp : 2 ^ k ≤ 2 ^ 7 := Nat.pow_le_pow_right (by omega) hk
  have e : ((2 : Int) ^ k) = ((2 ^ k : Nat) : Int) := by simp
  rw [e]
  generalize 2 ^ k = p at *
  rcases hx with rfl | rfl
  · simp [wrap64]; omega
  · simp [wrap64]; omega

set_option maxHeartbeats 1600000 in
theorem numberOf_any (o : Out) (a : Option Addr) (n c : Nat) (w : World) (hR : ArgR w o a n c) (h8 : n = 8) (hb : ∀ k, k < o.table.length → 0 ≤ o.table.getD k 0 ∧ o.table.getD k 0 < 2) :
    Calls Tryd.prog 115 #[.slice a n c] w fun e w' => e = .returned (.int .i64 (tabNum o.table 8 : Int)) ∧ w' = w := by
  have hlen := hR.len
  have HR := hide' hR
  have HB := hide' hb
  have H8 := hide' h8
  have n8 : n ≤ 8 := by omega
  have HL := hide' hlen
  clear hR hb h8 hlen
  go_enter Tryd.func115, Tryd.ntmps115
  go_wp2
  go_loop [3, 8] (fun sv kv => ∃ k t : Nat, kv = .int .i64 (k : Int) ∧ sv = .int .i64 (t : Int) ∧ k ≤ n ∧ t ≤ 255 ∧ t = tabNum o.table k) (fun _ kv => n - (intOf kv).toNat)
  case atStart => exact ⟨0, 0, rfl, rfl, by omega, by omega, rfl⟩
  case round =>
    obtain ⟨k, t, rfl, rfl, hk, ht, hte⟩ := hrel
    have HT := hide' hte
    clear hte
    by_cases d : (k : Int) < (n : Int)
    · have hkl : k < o.table.length := by have := HL.out; omega
      obtain ⟨g, off, rfl, hg, hc⟩ := HR.out.cells k hkl
      have hx := HB.out k hkl
      have hget : o.table.getD k 0 = o.table[k] := by simp [List.getD, hkl]
      rw [hget] at hx
      have hlt := tabNum_lt o.table HB.out (k + 1) (by omega)
      have hp8 : 2 ^ (k + 1) ≤ 2 ^ 8 := Nat.pow_le_pow_right (by omega) (by omega)
      have T2 := hide' (show tabNum o.table (k + 1) = t + (o.table[k]).toNat * 2 ^ k by unfold tabNum; rw [hget, ← HT.out])
      have L2 := hide' (show tabNum o.table (k + 1) ≤ 255 by omega)
      have hcase : o.table[k] = 0 ∨ o.table[k] = 1 := by omega
      clear hlt hp8 hget hx
      have hk7 : (k : Int) ≤ 7 := by omega
      go_wp2
      rw [wrapsum t k o.table[k] ht hcase (by omega)]
      exact ⟨⟨k + 1, _, by go_num, rfl, by omega, by have := L2.out; rw [T2.out] at this; exact this, T2.out.symm⟩, by simp [intOf]; omega⟩
    · go_wp2
      go_ret
      have : k = 8 := by have := H8.out; omega
      rw [HT.out, this]
      exact ⟨rfl, rfl⟩

/-- At block g a list of n bytes of the call's own, the first k of which are f's. -/
structure FillB (w0 w : World) (g n k : Nat) (f : Nat → UInt8) : Prop where
  below : Below w0.heap.size w0 w
  ge : w0.heap.size ≤ g
  lt : g < w.heap.size
  cells : ∀ j, j < n → ∃ v, w.cell? ⟨g, j, none⟩ = some v ∧ (j < k → v = bval (f j))
  fz : ∀ j, w.frozen? ⟨g, j, none⟩ = false
theorem FillB.start (w : World) (n : Nat) (f : Nat → UInt8) (z : Value) (t : TypeId) : FillB w (w.alloc (.cells (madeCells #[z] n) t)) w.heap.size n 0 f := by
  refine ⟨(Below.refl _ _).alloc (Nat.le_refl _) _, Nat.le_refl _, by simp, fun j hj => ⟨(madeCells #[z] n)[j]'(by rw [size_madeCells]; exact hj), ?_, by omega⟩, fun j => by simp⟩
  rw [World.cell?_alloc_at _ _ _ _ rfl]
  exact Array.getElem?_eq_getElem (by rw [size_madeCells]; exact hj)
theorem FillB.step {w0 w : World} {g n k : Nat} {f : Nat → UInt8} (h : FillB w0 w g n k f) (hk : k < n) {x : Value} (hx : bval (f k) = x) : FillB w0 (w.setCell ⟨g, k, none⟩ x) g n (k + 1) f := by
  refine ⟨h.below.setCell h.ge _, h.ge, by rw [World.size_setCell]; exact h.lt, fun j hj => ?_, fun j => by rw [World.frozen?_setCell]; exact h.fz j⟩
  by_cases e : j = k
  · subst e
    obtain ⟨v, hv, -⟩ := h.cells j hj
    exact ⟨_, World.cell?_setCell_same _ _ _ hv, fun _ => hx.symm⟩
  · obtain ⟨v, hv, hv'⟩ := h.cells j hj
    refine ⟨v, ?_, fun _ => hv' (by omega)⟩
    exact (World.cell?_setCell_other _ ⟨g, k, none⟩ ⟨g, j, none⟩ _ (fun q => e (congrArg Addr.off q).symm)).trans hv
theorem FillB.string {w0 w : World} {g n cap : Nat} {f : Nat → UInt8} (h : FillB w0 w g n n f) :
    (convert 95 9 (.slice (some ⟨g, 0, none⟩) n cap)).run Tryd.prog w = .ok (.string ⟨((List.range n).map f).toArray⟩) w := by
  have := run_convert_bytes_back (P := Tryd.prog) w 95 9 5 ⟨g, 0, none⟩ cap ((List.range n).map f) Tryd.underlying95 Tryd.underlying5 Tryd.underlying9 (fun j hj => by
    have hadd : (⟨g, 0, none⟩ : Addr).add j = ⟨g, j, none⟩ := by unfold Addr.add; split <;> simp_all
    simp at hj
    obtain ⟨v, hv, hv'⟩ := h.cells j hj
    rw [hadd, hv, hv' hj]
    simp [bval])
  simpa using this

def stB (xs : List Int) (i : Nat) : UInt8 := UInt8.ofNat (48 + (xs.getD i 0).toNat)

set_option maxHeartbeats 1600000 in
theorem statesOf_any (o : Out) (a : Option Addr) (n c : Nat) (w : World) (hR : ArgR w o a n c) (hn4 : n ≤ 4096) (hb : ∀ k, k < o.table.length → 0 ≤ o.table.getD k 0 ∧ o.table.getD k 0 < 4) :
    Calls Tryd.prog 116 #[.slice a n c] w fun e w' => e = .returned (.string ⟨((List.range n).map (stB o.table)).toArray⟩) ∧ Below w.heap.size w w' := by
  have hlen := hR.len
  have HR := hide' hR
  have HB := hide' hb
  have HL := hide' hlen
  have hmk := run_make_row' (P := Tryd.prog) 95 5 (.int .u8 0) 1 Tryd.underlying95 info_u8 rfl .i64 .i64 n (by omega) (by omega)
  have S := hide' (FillB.start w n (stB o.table) (.int .u8 0) 5)
  clear hR hb hlen
  go_enter Tryd.func116, Tryd.ntmps116
  go_wp2
  go_loopw [11] (fun kv wr => ∃ k : Nat, kv = .int .i64 (k : Int) ∧ k ≤ n ∧ FillB w wr w.heap.size n k (stB o.table)) (fun kv _ => n - (intOf kv).toNat)
  case atStart => exact ⟨0, rfl, by omega, S.out⟩
  case round =>
    obtain ⟨k, rfl, hk, fk⟩ := hrel
    have FK := hide' fk
    clear hmk S
    by_cases d : (k : Int) < (n : Int)
    · have hkl : k < o.table.length := by have := HL.out; omega
      obtain ⟨g, off, rfl, hg, hc⟩ := (HR.out.below fk.below).cells k hkl
      obtain ⟨v, hv, -⟩ := fk.cells k (by omega)
      have hf := fk.fz k
      have hx := HB.out k hkl
      have hget : o.table.getD k 0 = o.table[k] := by simp [List.getD, hkl]
      have X := hide' (show bval (stB o.table k) = .int .u8 (48 + o.table[k]) by
        unfold stB
        rw [bval_dig _ (by omega), hget]
        rw [hget] at hx
        congr 1
        omega)
      rw [hget] at hx
      clear fk hget
      go_wp2
      exact ⟨⟨k + 1, by go_num, by omega, FK.out.step (by omega) X.out⟩, by simp [intOf]; omega⟩
    · have K := hide' (show k = n by omega)
      have ff := FK.out
      rw [K.out] at ff
      have hcv := ff.string (cap := n)
      clear fk ff
      go_wp2
      go_ret
      exact ⟨rfl, FK.out.below⟩
end Go.Proofs.YtjngjnkecnnmeaaDoor

