/-
  What the last text of this claim leans on, part 42: Pq4, Gv1.
-/
import Derived.Test.YtlpdobfjgpedaaaDoorZe41
import Derived.Test.YtlpdobfjgpedaaaDoorZe38
namespace Go.Proofs.YtlpdobfjgpedaaaDoor
open Go.RowKit
set_option linter.unusedVariables false
/-- Does one step make the middle of the one what the other is? -/
def MadeP (born stay W H : Nat) (xs : List Int) (W' H' : Nat) (ys : List Int) : Prop := W' = W + 2 ∧ H' = H + 2 ∧ ∀ x y, x < W → y < H → ((midP born stay (gL ys) (W + 2) x y : Nat) : Int) = xs.getD (y * W + x) 0
def MadeOut (P : Prop) (w : World) (e : Ending) (w' : World) : Prop := (∃ b : Bool, e = .returned (.bool b) ∧ (b = true ↔ P)) ∧ Below w.heap.size w w'
set_option maxRecDepth 100000 in
set_option maxHeartbeats 12800000 in
theorem made_any (kd st ra : Int) (born stay : Nat) (ta : Option Addr) (tn tc : Nat) (s : ByteArray) (W H : Nat) (xs : List Int) (a : Option Addr) (n c : Nat) (W' H' : Nat) (ys : List Int) (a' : Option Addr) (n' c' : Nat) (w : World) (hP : ArgP w xs a n c) (hQ : ArgP w ys a' n' c') (hn : xs.length = W * H) (hn' : ys.length = W' * H') (hy : ∀ k, 0 ≤ ys.getD k 0 ∧ ys.getD k 0 ≤ 1) (W5 : W ≤ 100) (H5 : H ≤ 100) (W100 : W' ≤ 100) (H100 : H' ≤ 100) (hb : born ≤ 511) (hs : stay ≤ 511) :
    Calls Tryd.prog 12 #[.agg #[.int .i64 kd, .int .i64 (born : Int), .int .i64 (stay : Int), .int .i64 st, .int .i64 ra, .slice ta tn tc, .string s], .agg #[.int .i64 (W' : Int), .int .i64 (H' : Int), .slice a' n' c'], .agg #[.int .i64 (W : Int), .int .i64 (H : Int), .slice a n c]] w (MadeOut (MadeP born stay W H xs W' H' ys) w) := by
  obtain ⟨w1, hw1⟩ : ∃ w1, ((w.alloc (.cells #[.int .i64 kd, .int .i64 (born : Int), .int .i64 (stay : Int), .int .i64 st, .int .i64 ra, .slice ta tn tc, .string s] 24)).alloc (.cells #[.int .i64 (W' : Int), .int .i64 (H' : Int), .slice a' n' c'] 26)).alloc (.cells #[.int .i64 (W : Int), .int .i64 (H : Int), .slice a n c] 26) = w1 := ⟨_, rfl⟩
  have R0 := hide' (show w1.heap[w.heap.size]? = some (.cells #[.int .i64 kd, .int .i64 (born : Int), .int .i64 (stay : Int), .int .i64 st, .int .i64 ra, .slice ta tn tc, .string s] 24 (0, 0)) by rw [← hw1]; exact (heap_alloc_old _ _ (by simp; try omega)).trans ((heap_alloc_old (w.alloc _) _ (by simp)).trans (heap_alloc_new w _)))
  have R1 := hide' (show w1.heap[w.heap.size + 1]? = some (.cells #[.int .i64 (W' : Int), .int .i64 (H' : Int), .slice a' n' c'] 26 (0, 0)) by rw [← hw1]; exact (heap_alloc_old _ _ (by simp; try omega)).trans (heap_alloc2_new w _ _))
  have R2 := hide' (show w1.heap[w.heap.size + 2]? = some (.cells #[.int .i64 (W : Int), .int .i64 (H : Int), .slice a n c] 26 (0, 0)) by
    rw [← hw1]
    have := heap_alloc_new ((w.alloc (.cells #[.int .i64 kd, .int .i64 (born : Int), .int .i64 (stay : Int), .int .i64 st, .int .i64 ra, .slice ta tn tc, .string s] 24)).alloc (.cells #[.int .i64 (W' : Int), .int .i64 (H' : Int), .slice a' n' c'] 26)) (.cells #[.int .i64 (W : Int), .int .i64 (H : Int), .slice a n c] 26)
    simpa using this)
  have B1 := hide' (show Below w.heap.size w w1 by rw [← hw1]; repeat (first | exact Below.refl _ _ | refine Below.alloc ?_ (by simp; try omega) _))
  have HW1 := hide' hw1
  have n2 : n' = W' * H' := hQ.len.trans hn'
  have n1 : n = W * H := hP.len.trans hn
  have MA := hide' (fun (V : World) (hV : Below w.heap.size w V) (x y : Nat) (xl : x + 2 < W') (yl : y + 2 < H') => middle_any kd st ra born stay ta tn tc s W' H' ys a' n' c' x y V (hQ.below hV) hn' hy xl yl (by omega) (by omega) hb hs)
  have HP := hide' (fun (V : World) (hV : Below w.heap.size w V) => hP.below hV)
  have HMP := hide' (show MadeP born stay W H xs W' H' ys ↔ (W' = W + 2 ∧ H' = H + 2 ∧ ∀ x y, x < W → y < H → ((midP born stay (gL ys) (W + 2) x y : Nat) : Int) = xs.getD (y * W + x) 0) from Iff.rfl)
  obtain ⟨PP, hPP⟩ : ∃ PP, MadeP born stay W H xs W' H' ys = PP := ⟨_, rfl⟩
  rw [hPP] at HMP ⊢
  have N1 := hide' n1
  have nb1 : W' * H' ≤ 10000 := Nat.mul_le_mul W100 H100
  have nb2 : W * H ≤ 10000 := Nat.mul_le_mul W5 H5
  have nlI : (n' : Int) = (W' : Int) * (H' : Int) := by rw [n2]; simp
  have NLI := hide' nlI
  clear hP hQ hn hn' hy hw1 hPP n1 n2 nlI hb hs
  go_enter Tryd.func12, Tryd.ntmps12
  go_upto_region 1 with fail
  rw [HW1.out]
  have q0 := cell_of_row w1 _ 0 _ _ _ R1.out
  have q1 := cell_of_row w1 _ 1 _ _ _ R1.out
  have q2 := cell_of_row w1 _ 2 _ _ _ R1.out
  have p0 := cell_of_row w1 _ 0 _ _ _ R2.out
  have p1 := cell_of_row w1 _ 1 _ _ _ R2.out
  have p2 := cell_of_row w1 _ 2 _ _ _ R2.out
  simp at q0 q1 q2 p0 p1 p2
  by_cases eW : W' = W + 2
  · by_cases eH : H' = H + 2
    · have e1 : (W : Int) + 2 = (W' : Int) := by omega
      have e2 : (H : Int) + 2 = (H' : Int) := by omega
      have e3 : (W' : Int) * (H' : Int) = (n' : Int) := NLI.out.symm
      have EW := hide' (And.intro eW eH)
      clear eW eH
      go_wp2
      clear e1 e2 e3
      go_loopw [7] (fun yv wr => ∃ (y : Nat), yv = .int .i64 (y : Int) ∧ y ≤ H ∧ Hid (Below w1.heap.size w1 wr) ∧ Hid (∀ x y', x < W → y' < y → ((midP born stay (gL ys) (W + 2) x y' : Nat) : Int) = xs.getD (y' * W + x) 0)) (fun yv _ => H - (intOf yv).toNat)
      case atStart => exact ⟨0, rfl, by omega, hide' (Below.refl _ _), hide' (fun x y' _ h => by omega)⟩
      case round =>
        obtain ⟨y, rfl, hy, BW, KY⟩ := hrel
        have pp1 := cell_of_row wr _ 1 _ _ _ ((BW.out.block _ (lt_of_block R2.out)).trans R2.out)
        simp at pp1
        by_cases dy : (y : Int) < (H : Int)
        · go_wp2
          obtain ⟨VV, hVV⟩ : ∃ VV, VV = wr := ⟨_, rfl⟩
          rw [← hVV] at BW pp1 ⊢
          clear hVV pp1
          go_loopw [8] (fun xv wr => ∃ (x : Nat), xv = .int .i64 (x : Int) ∧ x ≤ W ∧ Hid (Below w1.heap.size w1 wr) ∧ Hid (∀ x', x' < x → ((midP born stay (gL ys) (W + 2) x' y : Nat) : Int) = xs.getD (y * W + x') 0)) (fun xv _ => W - (intOf xv).toNat)
          case atStart => exact ⟨0, rfl, by omega, BW, hide' (fun x' h => by omega)⟩
          case round =>
            obtain ⟨x, rfl, hx, BX, KX⟩ := hrel
            have pp0 := cell_of_row wr _ 0 _ _ _ ((BX.out.block _ (lt_of_block R2.out)).trans R2.out)
            simp at pp0
            by_cases dx : (x : Int) < (W : Int)
            · obtain ⟨b, hbb⟩ : ∃ b, y * W = b := ⟨_, rfl⟩
              obtain ⟨p, hp⟩ : ∃ p, b + x = p := ⟨_, rfl⟩
              have pn : p < n := by
                rw [N1.out, ← hp, ← hbb]
                have := Nat.mul_le_mul_right W (show y + 1 ≤ H by omega)
                rw [Nat.add_mul, Nat.one_mul, Nat.mul_comm H W] at this
                omega
              obtain ⟨g, off, rfl, -⟩ := (HP.out wr (B1.out.trans (BX.out.mono B1.out.size))).atP pn
              obtain ⟨u, hu⟩ : ∃ u, xs.getD p 0 = u := ⟨_, rfl⟩
              have e1 : (y : Int) * (W : Int) = (b : Int) := by rw [← hbb]; simp
              have e2 : (b : Int) + (x : Int) = (p : Int) := by omega
              have bn : b ≤ 10000 := by have := N1.out; omega
              have f1 : IntKind.i64.wrap (b : Int) = (b : Int) := by simp [IntKind.wrap, IntKind.bits, IntKind.signed]; omega
              have f2 : IntKind.i64.wrap (p : Int) = (p : Int) := by have := N1.out; simp [IntKind.wrap, IntKind.bits, IntKind.signed]; omega
              have g1 : (0 : Int) ≤ (p : Int) := by omega
              have g2 : (p : Int) < (n : Int) := by omega
              have CV := hide' (fun (V : World) (hV : Below w1.heap.size w1 V) => show V.cell? ⟨w.heap.size, 0, none⟩ = some (.int .i64 kd) ∧ V.cell? ⟨w.heap.size, 1, none⟩ = some (.int .i64 (born : Int)) ∧ V.cell? ⟨w.heap.size, 2, none⟩ = some (.int .i64 (stay : Int)) ∧ V.cell? ⟨w.heap.size, 3, none⟩ = some (.int .i64 st) ∧ V.cell? ⟨w.heap.size, 4, none⟩ = some (.int .i64 ra) ∧ V.cell? ⟨w.heap.size, 5, none⟩ = some (.slice ta tn tc) ∧ V.cell? ⟨w.heap.size, 6, none⟩ = some (.string s) ∧ V.cell? ⟨w.heap.size + 1, 0, none⟩ = some (.int .i64 (W' : Int)) ∧ V.cell? ⟨w.heap.size + 1, 1, none⟩ = some (.int .i64 (H' : Int)) ∧ V.cell? ⟨w.heap.size + 1, 2, none⟩ = some (.slice a' n' c') ∧ V.cell? ⟨w.heap.size + 2, 0, none⟩ = some (.int .i64 (W : Int)) ∧ V.cell? ⟨w.heap.size + 2, 2, none⟩ = some (.slice (some ⟨g, off, none⟩) n c) ∧ V.cell? ⟨g, off + p, none⟩ = some (.int .i64 u) from
                ⟨cell_of_row V _ 0 _ _ _ ((hV.block _ (lt_of_block R0.out)).trans R0.out), cell_of_row V _ 1 _ _ _ ((hV.block _ (lt_of_block R0.out)).trans R0.out), cell_of_row V _ 2 _ _ _ ((hV.block _ (lt_of_block R0.out)).trans R0.out), cell_of_row V _ 3 _ _ _ ((hV.block _ (lt_of_block R0.out)).trans R0.out), cell_of_row V _ 4 _ _ _ ((hV.block _ (lt_of_block R0.out)).trans R0.out), cell_of_row V _ 5 _ _ _ ((hV.block _ (lt_of_block R0.out)).trans R0.out), cell_of_row V _ 6 _ _ _ ((hV.block _ (lt_of_block R0.out)).trans R0.out), cell_of_row V _ 0 _ _ _ ((hV.block _ (lt_of_block R1.out)).trans R1.out), cell_of_row V _ 1 _ _ _ ((hV.block _ (lt_of_block R1.out)).trans R1.out), cell_of_row V _ 2 _ _ _ ((hV.block _ (lt_of_block R1.out)).trans R1.out), cell_of_row V _ 0 _ _ _ ((hV.block _ (lt_of_block R2.out)).trans R2.out), cell_of_row V _ 2 _ _ _ ((hV.block _ (lt_of_block R2.out)).trans R2.out), by
                  obtain ⟨g', off', e, h⟩ := (HP.out V (B1.out.trans (hV.mono B1.out.size))).atP pn
                  cases e; rw [h, hu]⟩)
              have ME := hide' (fun (V : World) (hV : Below w1.heap.size w1 V) => MA.out V (B1.out.trans (hV.mono B1.out.size)) x y (by have := EW.out; omega) (by have := EW.out; omega))
              have MV := hide' (show midP born stay (gL ys) W' x y = midP born stay (gL ys) (W + 2) x y by rw [EW.out.1])
              have UV := hide' (show xs.getD (y * W + x) 0 = u by rw [hbb, hp, hu])
              obtain ⟨r, hr⟩ : ∃ r, midP born stay (gL ys) W' x y = r := ⟨_, rfl⟩
              rw [hr] at ME MV
              clear hbb hp hu hr
              by_cases ru : (r : Int) = u
              · subst ru
                go_wp2
                go_region_held3 (fun V => V.cell? ⟨w.heap.size, 0, none⟩ = some (.int .i64 kd) ∧ V.cell? ⟨w.heap.size, 1, none⟩ = some (.int .i64 (born : Int)) ∧ V.cell? ⟨w.heap.size, 2, none⟩ = some (.int .i64 (stay : Int)) ∧ V.cell? ⟨w.heap.size, 3, none⟩ = some (.int .i64 st) ∧ V.cell? ⟨w.heap.size, 4, none⟩ = some (.int .i64 ra) ∧ V.cell? ⟨w.heap.size, 5, none⟩ = some (.slice ta tn tc) ∧ V.cell? ⟨w.heap.size, 6, none⟩ = some (.string s) ∧ V.cell? ⟨w.heap.size + 1, 0, none⟩ = some (.int .i64 (W' : Int)) ∧ V.cell? ⟨w.heap.size + 1, 1, none⟩ = some (.int .i64 (H' : Int)) ∧ V.cell? ⟨w.heap.size + 1, 2, none⟩ = some (.slice a' n' c') ∧ V.cell? ⟨w.heap.size + 2, 0, none⟩ = some (.int .i64 (W : Int)) ∧ V.cell? ⟨w.heap.size + 2, 2, none⟩ = some (.slice (some ⟨g, off, none⟩) n c) ∧ V.cell? ⟨g, off + p, none⟩ = some (.int .i64 (r : Int))) (first | exact CV.out _ B6.out | exact CV.out _ BX.out | exact CV.out _ BX.out.drew | fail)
                  (first
                    | (go_at_call 28; refine (ME.out _ BX.out.drew).mono ?_; rintro e w6 ⟨rfl, b6⟩; have B6 := hide' (BX.out.drew.trans (b6.mono BX.out.drew.size)); clear b6)
                    | fail)
                go_wp2
                exact ⟨⟨x + 1, by go_num, by omega, B6, hide' (fun x' h => by
                  by_cases e : x' = x
                  · subst e; rw [← MV.out, UV.out]
                  · exact KX.out x' (by omega))⟩, by simp [intOf]; omega⟩
              · have ru' : ((r : Int) == u) = false := by rw [beq_eq_false_iff_ne]; exact ru
                have NO := hide' (show ¬ PP from fun q => by
                  have := (HMP.out.1 q).2.2 x y (by omega) (by omega)
                  rw [← MV.out, UV.out] at this
                  exact ru this)
                clear ru
                go_wp2
                go_region_held3 (fun V => V.cell? ⟨w.heap.size, 0, none⟩ = some (.int .i64 kd) ∧ V.cell? ⟨w.heap.size, 1, none⟩ = some (.int .i64 (born : Int)) ∧ V.cell? ⟨w.heap.size, 2, none⟩ = some (.int .i64 (stay : Int)) ∧ V.cell? ⟨w.heap.size, 3, none⟩ = some (.int .i64 st) ∧ V.cell? ⟨w.heap.size, 4, none⟩ = some (.int .i64 ra) ∧ V.cell? ⟨w.heap.size, 5, none⟩ = some (.slice ta tn tc) ∧ V.cell? ⟨w.heap.size, 6, none⟩ = some (.string s) ∧ V.cell? ⟨w.heap.size + 1, 0, none⟩ = some (.int .i64 (W' : Int)) ∧ V.cell? ⟨w.heap.size + 1, 1, none⟩ = some (.int .i64 (H' : Int)) ∧ V.cell? ⟨w.heap.size + 1, 2, none⟩ = some (.slice a' n' c') ∧ V.cell? ⟨w.heap.size + 2, 0, none⟩ = some (.int .i64 (W : Int)) ∧ V.cell? ⟨w.heap.size + 2, 2, none⟩ = some (.slice (some ⟨g, off, none⟩) n c) ∧ V.cell? ⟨g, off + p, none⟩ = some (.int .i64 u)) (first | exact CV.out _ B6.out | exact CV.out _ BX.out | exact CV.out _ BX.out.drew | fail)
                  (first
                    | (go_at_call 28; refine (ME.out _ BX.out.drew).mono ?_; rintro e w6 ⟨rfl, b6⟩; have B6 := hide' (BX.out.drew.trans (b6.mono BX.out.drew.size)); clear b6)
                    | fail)
                go_wp2
                go_ret
                exact ⟨⟨false, rfl, by simp [NO.out]⟩, B1.out.trans (B6.out.mono B1.out.size)⟩
            · have NX := hide' (show ∀ x' y', x' < W → y' < y + 1 → ((midP born stay (gL ys) (W + 2) x' y' : Nat) : Int) = xs.getD (y' * W + x') 0 from fun x' y' h1 h2 => by
                by_cases e : y' = y
                · subst e; exact KX.out x' (by omega)
                · exact KY.out x' y' h1 (by omega))
              go_wp2
              exact ⟨⟨y + 1, by go_num, by omega, BX, NX⟩, by simp [intOf]; omega⟩
        · have YES := hide' (show PP from HMP.out.2 ⟨EW.out.1, EW.out.2, fun x y' h1 h2 => KY.out x y' h1 (by omega)⟩)
          go_wp2
          go_ret
          exact ⟨⟨true, rfl, by simp [YES.out]⟩, B1.out.trans (BW.out.mono B1.out.size)⟩
    · have NO := hide' (show ¬ PP from fun q => eH (HMP.out.1 q).2.1)
      have e1 : (W : Int) + 2 = (W' : Int) := by omega
      have e2 : ((H' : Int) == (H : Int) + 2) = false := by rw [beq_eq_false_iff_ne]; omega
      have e2' : ¬ (H' : Int) = (H : Int) + 2 := by omega
      clear eW eH
      go_wp2
      go_ret
      exact ⟨⟨false, rfl, by simp [NO.out]⟩, B1.out⟩
  · have NO := hide' (show ¬ PP from fun q => eW (HMP.out.1 q).1)
    have e1 : ((W' : Int) == (W : Int) + 2) = false := by rw [beq_eq_false_iff_ne]; omega
    have e1' : ¬ (W' : Int) = (W : Int) + 2 := by omega
    clear eW
    go_wp2
    go_ret
    exact ⟨⟨false, rfl, by simp [NO.out]⟩, B1.out⟩
end Go.Proofs.YtlpdobfjgpedaaaDoor

namespace Go.Proofs.YtlpdobfjgpedaaaDoor
open Go.RowKit
set_option linter.unusedVariables false
theorem wrap_near {x : Int} (h1 : -1000000000 ≤ x) (h2 : x ≤ 1000000000) : IntKind.i64.wrap x = x := by simp [IntKind.wrap, IntKind.bits, IntKind.signed]; omega
def sameP (a b : Pat) : Bool := decide (a.W = b.W) && decide (a.H = b.H) && decide (a.xs = b.xs)
/-- A state as boxG makes it. -/
def Bxd (s : Gst) : Prop := s = noG ∨ (BoxP (cellP s.P) 0 0 s.P.W s.P.H ∧ GOk s)
theorem box_bxd {q : Pat} (h : ∀ k, 0 ≤ q.xs.getD k 0 ∧ q.xs.getD k 0 ≤ 1) (R D : Int) : Bxd (boxG q R D) := by
  have ok := box_ok h R D
  unfold boxG at ok ⊢
  rcases trim_cases q with ⟨h0, h1⟩ | ⟨l, t, r, b, hB, h1⟩
  · left; rw [h1, if_pos rfl]
  · right
    rw [h1] at ok ⊢
    dsimp only at ok ⊢
    obtain ⟨y1, x1, c1, e1⟩ := hB.le
    obtain ⟨y2, x2, c2, e2⟩ := hB.ri
    obtain ⟨y3, x3, c3, e3⟩ := hB.up
    obtain ⟨y4, x4, c4, e4⟩ := hB.lo
    have i1 := hB.inn _ _ c1
    have i2 := hB.inn _ _ c2
    have i3 := hB.inn _ _ c3
    have i4 := hB.inn _ _ c4
    rw [if_neg (by omega)] at ok ⊢
    refine ⟨⟨fun y x hc => ?_, ⟨y1 - t, 0, ?_, rfl⟩, ⟨y2 - t, x2 - l, ?_, by dsimp only; omega⟩, ⟨0, x3 - l, ?_, rfl⟩, ⟨y4 - t, x4 - l, ?_, by dsimp only; omega⟩⟩, ok⟩
    · rw [trim_cell hB] at hc
      simp at hc
      dsimp only
      omega
    · rw [trim_cell hB, show t + (y1 - t) = y1 by omega, show l + 0 = x1 by omega, c1]; simp; omega
    · rw [trim_cell hB, show t + (y2 - t) = y2 by omega, show l + (x2 - l) = x2 by omega, c2]; simp; omega
    · rw [trim_cell hB, show t + 0 = y3 by omega, show l + (x3 - l) = x3 by omega, c3]; simp; omega
    · rw [trim_cell hB, show t + (y4 - t) = y4 by omega, show l + (x4 - l) = x4 by omega, c4]; simp; omega
theorem cellP_words {a b : Pat} (aW : a.W ≤ 128) (aH : a.H ≤ 102) (bW : b.W ≤ 128) (bH : b.H ≤ 102) (h : ∀ k, k < 204 → wX a k = wX b k) : cellP a = cellP b := by
  funext y x
  by_cases hx : x < 128
  · by_cases hy : y < 102
    · rw [← wX_rb a y x hx, ← wX_rb b y x hx, h _ (by omega), h _ (by omega)]
    · unfold cellP
      rw [decide_eq_false (show ¬ y < a.H by omega), decide_eq_false (show ¬ y < b.H by omega)]; simp
  · unfold cellP
    rw [decide_eq_false (show ¬ x < a.W by omega), decide_eq_false (show ¬ x < b.W by omega)]; simp
theorem words_same {s t : Gst} (hs : Bxd s) (ht : Bxd t) (sW : s.P.W ≤ 102) (sH : s.P.H ≤ 102) (tW : t.P.W ≤ 102) (tH : t.P.H ≤ 102) : (∀ k, k < 204 → wX s.P k = wX t.P k) ↔ sameP s.P t.P = true := by
  constructor
  · intro h
    have e := cellP_words (by omega) sH (by omega) tH h
    rcases hs with rfl | ⟨bs, os⟩
    · rcases ht with rfl | ⟨bt, ot⟩
      · simp [sameP]
      · obtain ⟨y, x, c, -⟩ := bt.le
        rw [← e] at c
        simp [cellP, noG] at c
    · rcases ht with rfl | ⟨bt, ot⟩
      · obtain ⟨y, x, c, -⟩ := bs.le
        rw [e] at c
        simp [cellP, noG] at c
      · rw [e] at bs
        obtain ⟨-, -, eW, eH⟩ := bs.same bt
        have el : s.P.xs = t.P.xs := by
          refine List.ext_getElem (by rw [os.len, ot.len, eW, eH]) (fun i h1 h2 => ?_)
          have hi : i < s.P.W * s.P.H := by rw [← os.len]; exact h1
          have hj : i < t.P.W * t.P.H := by rw [← ot.len]; exact h2
          have c1 := cellP_of hi
          have c2 := cellP_of hj
          rw [e, eW, c2] at c1
          have b1 := os.bits i
          have b2 := ot.bits i
          have g1 : s.P.xs.getD i 0 = s.P.xs[i] := by simp [List.getD, h1]
          have g2 : t.P.xs.getD i 0 = t.P.xs[i] := by simp [List.getD, h2]
          rw [g1] at b1 c1
          rw [g2] at b2 c1
          rw [decide_eq_decide] at c1
          omega
        unfold sameP
        rw [decide_eq_true eW, decide_eq_true eH, decide_eq_true el]; rfl
  · intro h k _
    unfold sameP at h
    simp at h
    obtain ⟨⟨h1, h2⟩, h3⟩ := h
    have : s.P = t.P := by
      cases hs : s.P; cases ht : t.P
      rw [hs, ht] at h1 h2 h3
      dsimp only at h1 h2 h3
      rw [h1, h2, h3]
    rw [this]
theorem grow_bxd {born stay : Nat} {s : Gst} (hs : Bxd s) : ∀ n u, growG born stay s n = some u → Bxd u
  | 0, u, h => by rw [growG] at h; injection h with h; rw [← h]; exact hs
  | n + 1, u, h => by
    rw [growG] at h
    cases hg : growG born stay s n with
    | none => rw [hg] at h; cases h
    | some t =>
      rw [hg] at h
      dsimp only at h
      split at h
      · cases h
      · injection h with h; rw [← h]; exact box_bxd (next_bits born stay t.P) _ _
/-- What Again answers: so many rounds more, behind i of them; a period, how far right and down, and what is wrong. -/
structure AgR where
  n : Nat
  r : Int
  d : Int
  f : Nat
def agn (born stay : Nat) (s0 : Gst) : Nat → Nat → Gst → AgR
  | 0, _, _ => ⟨0, 0, 0, 5⟩
  | k + 1, i, u => if 100 < (nextG born stay u).P.W ∨ 100 < (nextG born stay u).P.H then ⟨0, 0, 0, 4⟩ else if sameP (nextG born stay u).P s0.P then ⟨i + 1, (nextG born stay u).r - s0.r, (nextG born stay u).d - s0.d, 0⟩ else agn born stay s0 k (i + 1) (nextG born stay u)
def agA (born stay : Nat) (s0 : Gst) (m : Nat) : AgR := if s0.P.W = 0 then ⟨0, 0, 0, 5⟩ else agn born stay s0 m 0 s0
theorem agn_noG {born stay : Nat} {s0 : Gst} (b0 : born.testBit 0 = false) (h : s0.P.W ≠ 0) : ∀ k i, agn born stay s0 k i noG = ⟨0, 0, 0, 5⟩
  | 0, i => rfl
  | k + 1, i => by
    rw [agn, noG_next b0, if_neg (by simp [noG]), if_neg (by unfold sameP; rw [decide_eq_false (show ¬ noG.P.W = s0.P.W from fun e => h e.symm)]; simp)]
    exact agn_noG b0 h k (i + 1)
theorem bxd_wide {s : Gst} (h : Bxd s) : s.P.W = 0 ↔ s.P.H = 0 := by
  rcases h with rfl | ⟨b, -⟩
  · simp [noG]
  · obtain ⟨y, x, c, -⟩ := b.le
    have := b.inn _ _ c
    omega
end Go.Proofs.YtlpdobfjgpedaaaDoor

