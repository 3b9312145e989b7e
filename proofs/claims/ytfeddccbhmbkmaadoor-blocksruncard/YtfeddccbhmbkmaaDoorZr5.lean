/-
  What the last text of this claim leans on, part 5: Bk4.
-/
import Derived.Test.YtfeddccbhmbkmaaDoorZr4
import Derived.OwnWalk
import Derived.Deep.DeepAppendRoom
namespace Go.Proofs.YtfeddccbhmbkmaaDoor
open Go.RowKit
set_option linter.unusedVariables false
/-- Where the cells of all blocks stand, one behind another. -/
def stG (W H ph k : Nat) : Value := .int .i64 ((plc W H ph (k / 4) (k % 4) : Nat) : Int)
def stL (W H ph m : Nat) : List Value := (List.range (m * 4)).map (stG W H ph)
theorem stL_next (W H ph m : Nat) : stL W H ph m ++ [.int .i64 ((plc W H ph m 0 : Nat) : Int), .int .i64 ((plc W H ph m 1 : Nat) : Int), .int .i64 ((plc W H ph m 2 : Nat) : Int), .int .i64 ((plc W H ph m 3 : Nat) : Int)] = stL W H ph (m + 1) := by
  unfold stL
  rw [show (m + 1) * 4 = m * 4 + 1 + 1 + 1 + 1 by omega, List.range_succ, List.range_succ, List.range_succ, List.range_succ]
  simp only [List.map_append, List.map_cons, List.map_nil, List.append_assoc, List.cons_append, List.nil_append]
  unfold stG
  rw [show (m * 4) / 4 = m by omega, show (m * 4) % 4 = 0 by omega, show (m * 4 + 1) / 4 = m by omega, show (m * 4 + 1) % 4 = 1 by omega, show (m * 4 + 1 + 1) / 4 = m by omega, show (m * 4 + 1 + 1) % 4 = 2 by omega, show (m * 4 + 1 + 1 + 1) / 4 = m by omega, show (m * 4 + 1 + 1 + 1) % 4 = 3 by omega]
theorem cells_new4 (w : World) (x0 x1 x2 x3 : Value) (T : TypeId) : ∀ j u, [x0, x1, x2, x3][j]? = some u → (w.alloc (.cells #[x0, x1, x2, x3] T)).cell? ((⟨w.heap.size, 0, none⟩ : Addr).add j) = some u := by
  intro j u h
  have g := heap_alloc_new w (.cells #[x0, x1, x2, x3] T (0, 0))
  have : j = 0 ∨ j = 1 ∨ j = 2 ∨ j = 3 ∨ 4 ≤ j := by omega
  rcases this with rfl | rfl | rfl | rfl | h4
  · simp at h; subst h; exact cell_of_row _ _ 0 _ _ _ g
  · simp at h; subst h; exact cell_of_row _ _ 1 _ _ _ g
  · simp at h; subst h; exact cell_of_row _ _ 2 _ _ _ g
  · simp at h; subst h; exact cell_of_row _ _ 3 _ _ _ g
  · rw [List.getElem?_eq_none (by simpa using h4)] at h; cases h
theorem wrap_nB (n : Nat) (h : n ≤ 1000000) : IntKind.i64.wrap (n : Int) = (n : Int) := by simp [IntKind.wrap, IntKind.bits, IntKind.signed]; omega
structure Stn (w wr : World) (W H ph : Nat) (v : Value) (N m : Nat) : Prop where
  pat : wr.heap[w.heap.size]? = some (.cells #[.int .i64 (W : Int), .int .i64 (H : Int), v] 26 (0, 0))
  own : wr.ownsRow (w.heap.size + 1) 189 4 (.slice (some ⟨w.heap.size + 1, 0, none⟩) m N) m (stL W H ph m)
  below : Below w.heap.size w wr
  size : w.heap.size + 1 + 1 ≤ wr.heap.size
theorem Stn.push {w wr w' : World} {W H ph : Nat} {v : Value} {N m : Nat} (h : Stn w wr W H ph v N m) (o : Obj) (hg : (wr.alloc o).grownBy w' (some (w.heap.size + 1))) (ho : w'.ownsRow (w.heap.size + 1) 189 4 (.slice (some ⟨w.heap.size + 1, 0, none⟩) (m + 1) N) (m + 1) (stL W H ph m ++ [.int .i64 ((plc W H ph m 0 : Nat) : Int), .int .i64 ((plc W H ph m 1 : Nat) : Int), .int .i64 ((plc W H ph m 2 : Nat) : Int), .int .i64 ((plc W H ph m 3 : Nat) : Int)])) : Stn w w' W H ph v N (m + 1) := by
  have sz := h.size
  refine ⟨?_, by rw [← stL_next]; exact ho, ?_, by have := hg.size; simp at this; omega⟩
  · rw [hg.block _ (by simp; omega) (by simp), Below.heap_alloc _ _ _ (by omega)]; exact h.pat
  · exact ⟨hg.os.trans h.below.os, hg.tape.trans h.below.tape, hg.output.trans h.below.output, by have := hg.size; simp at this; omega, fun k hk => by
      rw [hg.block _ (by simp; omega) (by simp; omega), Below.heap_alloc _ _ _ (by omega)]; exact h.below.block k hk⟩
theorem Stn.drewN {w wr : World} {W H ph : Nat} {v : Value} {N m : Nat} (h : Stn w wr W H ph v N m) (n : Nat) : Stn w (wr.drewN n) W H ph v N m := ⟨h.pat, h.own, below_drewN h.below n, h.size⟩
def StandPost (W H ph N : Nat) (w : World) (e : Ending) (w' : World) : Prop := ∃ g, w.heap.size ≤ g ∧ e = .returned (.slice (some ⟨g, 0, none⟩) N N) ∧ w'.heap[g]? = some (.cells (arrF (N * 4) (stG W H ph)) 189 (0, 0)) ∧ Below w.heap.size w w'
theorem stn_done {w wr : World} {W H ph : Nat} {v : Value} {N : Nat} (h : Stn w wr W H ph v N N) : StandPost W H ph N w (.returned (.slice (some ⟨w.heap.size + 1, 0, none⟩) N N)) wr := by
  refine ⟨w.heap.size + 1, by omega, rfl, ?_, h.below⟩
  rcases h.own.2 with ⟨h0, _⟩ | ⟨g', cap', cur, hv, hbg, hg, hnc, hcm, hcs, htake⟩
  · cases h0
  · cases hv
    rw [hg]
    have e : cur.toList = stL W H ph N := by rw [← htake, List.take_of_length_le (by rw [Array.length_toList, hcs]; exact Nat.le_refl _)]
    have e2 : cur = arrF (N * 4) (stG W H ph) := by
      unfold arrF
      rw [← show stL W H ph N = (List.range (N * 4)).map (stG W H ph) from rfl, ← e]
    rw [e2]
set_option maxRecDepth 100000 in
set_option maxHeartbeats 6400000 in
theorem standing_any (W H V U ph : Nat) (a : Option Addr) (c : Nat) (w : World) (e : Evn W H V U) (hp : ph ≤ 1) (hW : W ≤ 100) (hH : H ≤ 100) :
    Calls Tryd.prog 64 #[.agg #[.int .i64 (W : Int), .int .i64 (H : Int), .slice a (W * H) c], .int .i64 (ph : Int)] w (StandPost W H ph (U * V) w) := by
  obtain ⟨n, hn⟩ : ∃ n, W * H = n := ⟨_, rfl⟩
  rw [hn]
  obtain ⟨N, hN⟩ : ∃ N, U * V = N := ⟨_, rfl⟩
  rw [hN]
  have nN : n = 4 * N := by rw [← hn, ← hN, e.w, e.h, Nat.mul_mul_mul_comm, Nat.mul_comm V U]
  have N2 : N ≤ 2500 := by have := Nat.mul_le_mul (show U ≤ 50 by have := e.h; omega) (show V ≤ 50 by have := e.w; omega); omega
  have q4 : wrap64 ((n : Int) / 4) = (N : Int) := by rw [show (n : Int) / 4 = (N : Int) by omega]; simp [wrap64]; omega
  have i0 : (Tryd.prog.info? 189).map (fun i => (i.zero, i.size, i.bytes)) = some (some (.agg #[.int .i64 0, .int .i64 0, .int .i64 0, .int .i64 0]), 4, 32) := by kernel_rfl
  obtain ⟨it, hi, hz, hs, hb⟩ := info_parts i0
  have EV := hide' e
  have HN := hide' hN
  have w2 : W = 2 * V := e.w
  have h2 : H = 2 * U := e.h
  have G0 := hide' (show (w.alloc (.cells #[.int .i64 (W : Int), .int .i64 (H : Int), .slice a n c] 26)).heap[w.heap.size]? = some (.cells #[.int .i64 (W : Int), .int .i64 (H : Int), .slice a n c] 26 (0, 0)) from heap_alloc_new _ _)
  have B0 := hide' ((Below.refl w.heap.size w).alloc (Nat.le_refl _) (.cells #[.int .i64 (W : Int), .int .i64 (H : Int), .slice a n c] 26))
  have W2 := hide' w2
  have H2 := hide' h2
  clear hn hN nN e w2 h2 i0
  go_enter Tryd.func64, Tryd.ntmps64
  go_wp2_with (refine wpList_make_own _ rfl _ _ 127 rfl (w.heap.size + 1) 189 it (.agg #[.int .i64 0, .int .i64 0, .int .i64 0, .int .i64 0]) 4 Tryd.underlying127 hi hz hs .i64 .i64 (N : Int) N rfl (by simp [Act.eval, q4]) rfl (by rw [hb]; omega) (by unfold maxLen; omega) (by simp) ?_; intro w1 hown1 hg1)
  have ST0 := hide' (show Stn w w1 W H ph (.slice a n c) N 0 from ⟨by rw [hg1.block _ (by simp) (by simp)]; exact G0.out, by simpa [stL] using hown1, ⟨hg1.os.trans B0.out.os, hg1.tape.trans B0.out.tape, hg1.output.trans B0.out.output, by have := hg1.size; simp at this; omega, fun k hk => (hg1.block k (by simp; omega) (by simp)).trans (B0.out.block k hk)⟩, by
    rcases hown1.2 with ⟨h0, _⟩ | ⟨g', cap', cur, hv, hbg, hg, _⟩
    · cases h0
    · cases hv
      have := lt_of_block hg
      simp at this
      omega⟩)
  clear hown1 hg1
  try rw [World.size_alloc]
  go_loopw [5, 6] (fun ov iv wr => ∃ (Y : Nat), iv = .int .i64 ((ph + 2 * Y : Nat) : Int) ∧ Y ≤ U ∧ ov = .slice (some ⟨w.heap.size + 1, 0, none⟩) (Y * V) N ∧ Hid (Stn w wr W H ph (.slice a n c) N (Y * V))) (fun _ iv _ => H + 2 - (intOf iv).toNat)
  case atStart => exact ⟨0, rfl, by omega, by rw [Nat.zero_mul], by rw [Nat.zero_mul]; exact ST0⟩
  case round =>
    obtain ⟨Y, rfl, hY, rfl, HS⟩ := hrel
    obtain ⟨y, hy⟩ : ∃ y, ph + 2 * Y = y := ⟨_, rfl⟩
    rw [hy]
    have c0 := cell_of_row wr _ 0 _ _ _ HS.out.pat
    have c1 := cell_of_row wr _ 1 _ _ _ HS.out.pat
    simp at c0 c1
    by_cases d : (y : Int) < (H : Int)
    · have y100 : y < 100 := by omega
      obtain ⟨P, hP⟩ : ∃ P, y * W = P := ⟨_, rfl⟩
      obtain ⟨r, hr⟩ : ∃ r, (y + 1) % H = r := ⟨_, rfl⟩
      obtain ⟨Q, hQ⟩ : ∃ Q, r * W = Q := ⟨_, rfl⟩
      have r100 : r < 100 := by rw [← hr]; exact Nat.lt_of_lt_of_le (Nat.mod_lt _ (by omega)) hH
      have P5 : P ≤ 10000 := by rw [← hP]; exact Nat.mul_le_mul (show y ≤ 100 by omega) hW
      have Q5 : Q ≤ 10000 := by rw [← hQ]; exact Nat.mul_le_mul (show r ≤ 100 by omega) hW
      have f1 : IntKind.i64.wrap ((y : Int) * (W : Int)) = (P : Int) := by rw [← Int.natCast_mul, hP]; exact wrap_nB P (by omega)
      have f2 : IntKind.i64.wrap ((y : Int) + 1) = ((y + 1 : Nat) : Int) := by rw [show (y : Int) + 1 = ((y + 1 : Nat) : Int) by omega]; exact wrap_nB _ (by omega)
      have f3 : ((H : Int) == 0) = false := by simp; omega
      have f4 : IntKind.i64.wrap (((y + 1 : Nat) : Int).tmod (H : Int)) = (r : Int) := by rw [← Int.ofNat_tmod, hr]; exact wrap_nB _ (by omega)
      have f5 : IntKind.i64.wrap ((r : Int) * (W : Int)) = (Q : Int) := by rw [← Int.natCast_mul, hQ]; exact wrap_nB _ (by omega)
      have HYY := hide' hy
      have HPP := hide' hP
      have HRR := hide' hr
      have HQQ := hide' hQ
      clear hy hP hr hQ
      have fA : ((y : Int) + 1) % (H : Int) = (r : Int) := by have := HRR.out; rw [show (y : Int) + 1 = ((y + 1 : Nat) : Int) by omega, ← Int.natCast_emod, this]
      have fB : wrap64 ((r : Int) * (W : Int)) = (Q : Int) := by have := HQQ.out; rw [← Int.natCast_mul, this]; simp [wrap64]; omega
      go_wp2
      go_region
      have HS5 := hide' (show Stn w wr.drew W H ph (.slice a n c) N (Y * V) from ⟨HS.out.pat, HS.out.own, ⟨HS.out.below.os, HS.out.below.tape, HS.out.below.output, HS.out.below.size, HS.out.below.block⟩, HS.out.size⟩)
      have YU := hide' (show Y < U by have := HYY.out; have := H2.out; omega)
      go_wp2
      clear c0 c1 fA fB f1 f2 f3 f4 f5
      obtain ⟨VV, hVV⟩ : ∃ VV, VV = wr.drew := ⟨_, rfl⟩
      rw [← hVV] at HS5 ⊢
      clear hVV HS
      go_loopw [5, 9] (fun ov iv wr => ∃ (X : Nat), iv = .int .i64 ((ph + 2 * X : Nat) : Int) ∧ X ≤ V ∧ ov = .slice (some ⟨w.heap.size + 1, 0, none⟩) (Y * V + X) N ∧ Hid (Stn w wr W H ph (.slice a n c) N (Y * V + X))) (fun _ iv _ => W + 2 - (intOf iv).toNat)
      case atStart => exact ⟨0, rfl, by omega, rfl, HS5⟩
      case round =>
        obtain ⟨X, rfl, hX, rfl, HV⟩ := hrel
        obtain ⟨x, hx⟩ : ∃ x, ph + 2 * X = x := ⟨_, rfl⟩
        rw [hx]
        have c0 := cell_of_row wr _ 0 _ _ _ HV.out.pat
        simp at c0
        by_cases dx : (x : Int) < (W : Int)
        · have x100 : x < 100 := by omega
          have XV : X < V := by have := W2.out; omega
          obtain ⟨t, ht⟩ : ∃ t, (x + 1) % W = t := ⟨_, rfl⟩
          have t100 : t < 100 := by rw [← ht]; exact Nat.lt_of_lt_of_le (Nat.mod_lt _ (by omega)) hW
          have fA : ((x : Int) + 1) % (W : Int) = (t : Int) := by rw [show (x : Int) + 1 = ((x + 1 : Nat) : Int) by omega, ← Int.natCast_emod, ht]
          have f3 : ((W : Int) == 0) = false := by simp; omega
          obtain ⟨m, hm⟩ : ∃ m, Y * V + X = m := ⟨_, rfl⟩
          have mN : m + 1 ≤ N := by
            have h1 := Nat.mul_le_mul_right V (show Y + 1 ≤ U from YU.out)
            rw [HN.out, Nat.add_mul] at h1
            omega
          have dv : m / (W / 2) = Y := by rw [(EV.out.half).1, ← hm, Nat.mul_comm, Nat.mul_add_div (by omega), Nat.div_eq_of_lt XV, Nat.add_zero]
          have md : m % (W / 2) = X := by rw [(EV.out.half).1, ← hm, Nat.mul_comm, Nat.mul_add_mod, Nat.mod_eq_of_lt XV]
          have p0 : P + x = plc W H ph m 0 := by
            unfold plc
            rw [dv, md, show ph + 2 * Y + 0 / 2 = y by have := HYY.out; omega, show ph + 2 * X + 0 % 2 = x by omega, Nat.mod_eq_of_lt (by omega), Nat.mod_eq_of_lt (by omega), HPP.out]
          have p1 : P + t = plc W H ph m 1 := by
            unfold plc
            rw [dv, md, show ph + 2 * Y + 1 / 2 = y by have := HYY.out; omega, show ph + 2 * X + 1 % 2 = x + 1 by omega, Nat.mod_eq_of_lt (by omega), HPP.out, ht]
          have p2 : Q + x = plc W H ph m 2 := by
            unfold plc
            rw [dv, md, show ph + 2 * Y + 2 / 2 = y + 1 by have := HYY.out; omega, show ph + 2 * X + 2 % 2 = x by omega, HRR.out, Nat.mod_eq_of_lt (show x < W by omega), HQQ.out]
          have p3 : Q + t = plc W H ph m 3 := by
            unfold plc
            rw [dv, md, show ph + 2 * Y + 3 / 2 = y + 1 by have := HYY.out; omega, show ph + 2 * X + 3 % 2 = x + 1 by omega, HRR.out, ht, HQQ.out]
          obtain ⟨q0, h0⟩ : ∃ q, plc W H ph m 0 = q := ⟨_, rfl⟩
          obtain ⟨q1, h1⟩ : ∃ q, plc W H ph m 1 = q := ⟨_, rfl⟩
          obtain ⟨q2, h2⟩ : ∃ q, plc W H ph m 2 = q := ⟨_, rfl⟩
          obtain ⟨q3, h3⟩ : ∃ q, plc W H ph m 3 = q := ⟨_, rfl⟩
          rw [h0] at p0
          rw [h1] at p1
          rw [h2] at p2
          rw [h3] at p3
          have e0 : (P : Int) + (x : Int) = (q0 : Int) := by omega
          have e1 : (P : Int) + (t : Int) = (q1 : Int) := by omega
          have e2 : (Q : Int) + (x : Int) = (q2 : Int) := by omega
          have e3 : (Q : Int) + (t : Int) = (q3 : Int) := by omega
          rw [hm] at HV ⊢
          have OW := hide' HV.out.own
          have PU := hide' (fun (w' : World) (hg : (wr.alloc (.cells #[.int .i64 (q0 : Int), .int .i64 (q1 : Int), .int .i64 (q2 : Int), .int .i64 (q3 : Int)] 189)).grownBy w' (some (w.heap.size + 1))) (ho : w'.ownsRow (w.heap.size + 1) 189 4 (.slice (some ⟨w.heap.size + 1, 0, none⟩) (m + 1) N) (m + 1) (stL W H ph m ++ [.int .i64 (q0 : Int), .int .i64 (q1 : Int), .int .i64 (q2 : Int), .int .i64 (q3 : Int)])) => show Stn w w' W H ph (.slice a n c) N (Y * V + (X + 1)) from by
            rw [show Y * V + (X + 1) = m + 1 by omega]
            refine HV.out.push _ hg ?_
            rw [h0, h1, h2, h3]
            exact ho)
          have HM := hide' hm
          have HXX := hide' hx
          clear p0 p1 p2 p3 h0 h1 h2 h3 dv md hm hx ht
          go_wp2_with (at_builtin; refine wpList_append_own_spare _ rfl _ _ 127 rfl (w.heap.size + 1) 189 it 4 Tryd.underlying127 hi hs (w.heap.size + 1) m N _ rfl (OW.out.alloc _) ⟨wr.heap.size, 0, none⟩ 1 1 [.int .i64 (q0 : Int), .int .i64 (q1 : Int), .int .i64 (q2 : Int), .int .i64 (q3 : Int)] rfl rfl (cells_new4 _ _ _ _ _ _) (fun x hx => by simp at hx; rcases hx with rfl | rfl | rfl | rfl <;> rfl) mN ?_; intro w3 hown3 hg3; have H3 := hide' (PU.out w3 hg3 hown3); clear hown3 hg3)
          exact ⟨⟨X + 1, by have := HXX.out; go_num, by omega, by rw [← HM.out, Nat.add_assoc], H3⟩, by simp [intOf]; omega⟩
        · have XV : X = V := by have := W2.out; omega
          have HE := hide' (show Stn w wr W H ph (.slice a n c) N ((Y + 1) * V) from by rw [Nat.add_mul, Nat.one_mul]; have := HV.out; rw [XV] at this; exact this)
          have HL := hide' (show Y * V + X = (Y + 1) * V by rw [XV, Nat.add_mul, Nat.one_mul])
          rw [HL.out]
          clear hx XV HV
          go_wp2
          exact ⟨⟨Y + 1, by have := HYY.out; go_num, by have := YU.out; omega, rfl, HE⟩, by simp [intOf]; omega⟩
    · have YU : Y = U := by have := H2.out; omega
      have HE := hide' (show Stn w wr W H ph (.slice a n c) N N from by have := HS.out; rw [YU, HN.out] at this; exact this)
      have HL := hide' (show Y * V = N by rw [YU]; exact HN.out)
      rw [HL.out]
      clear hy YU HS
      go_wp2
      go_ret
      exact stn_done HE.out
end Go.Proofs.YtfeddccbhmbkmaaDoor

