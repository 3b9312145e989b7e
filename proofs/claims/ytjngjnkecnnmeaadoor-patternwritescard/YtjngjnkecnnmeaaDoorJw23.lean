/-
  What the last text of this claim leans on, part 23: Wc3.
-/
import Derived.Test.YtjngjnkecnnmeaaDoorJw22
namespace Go.Proofs.YtjngjnkecnnmeaaDoor
open Go.RowKit
set_option linter.unusedVariables false

/-- The first cells of the turned pattern. -/
def refPre (p : Pat) (k m : Nat) : List Int := (List.range m).map fun q => atP p.W p.xs (srcX p k (q % turnW p k) (q / turnW p k)) (srcY p k (q % turnW p k) (q / turnW p k))
theorem refPre_length (p : Pat) (k m : Nat) : (refPre p k m).length = m := by simp [refPre]
theorem refPre_succ (p : Pat) (k m : Nat) : refPre p k (m + 1) = refPre p k m ++ [atP p.W p.xs (srcX p k (m % turnW p k) (m / turnW p k)) (srcY p k (m % turnW p k) (m / turnW p k))] := by
  unfold refPre
  rw [List.range_succ, List.map_append]
  rfl
theorem refPre_val (p : Pat) (k x y : Nat) (hx : x < turnW p k) (hy : y < turnH p k) : atP p.W p.xs (srcX p k ((y * turnW p k + x) % turnW p k) ((y * turnW p k + x) / turnW p k)) (srcY p k ((y * turnW p k + x) % turnW p k) ((y * turnW p k + x) / turnW p k)) = atP p.W p.xs (srcX p k x y) (srcY p k x y) := by
  obtain ⟨d, m⟩ := divmod_mk (turnW p k) y x hx
  rw [d, m]
theorem refPre_step (p : Pat) (k x y : Nat) (hx : x < turnW p k) (hy : y < turnH p k) (m : Nat) (hm : m = y * turnW p k + x) : refPre p k (m + 1) = refPre p k m ++ [atP p.W p.xs (srcX p k x y) (srcY p k x y)] := by
  rw [refPre_succ, hm, refPre_val p k x y hx hy]
theorem refPre_full (p : Pat) (k : Nat) {m : Nat} (h : m = turnW p k * turnH p k) : refPre p k m = refTurn p k := by rw [h]; rfl

def TurnPost (p : Pat) (k : Nat) (w : World) (e : Ending) (w' : World) : Prop :=
  ∃ v, e = .returned (.agg #[.int .i64 (turnW p k : Int), .int .i64 (turnH p k : Int), v]) ∧ Tab w' v (refTurn p k) ∧ Fresh w v ∧ Below w.heap.size w w'

set_option maxRecDepth 100000 in
set_option maxHeartbeats 1600000 in
theorem refTurn_0 (W H : Nat) (xs : List Int) (a : Option Addr) (n c : Nat) (w : World) (hP : ArgP w xs a n c) (lW : W ≤ 100) (lH : H ≤ 100) (hn : n = W * H) :
    Calls Tryd.prog 38 #[.agg #[.int .i64 (W : Int), .int .i64 (H : Int), .slice a n c], .int .i64 0] w (TurnPost ⟨W, H, xs⟩ 0 w) := by
  have hN4 : n ≤ 10000 := by rw [hn]; exact Nat.mul_le_mul lW lH
  have HP := hide' hP
  have HN := hide' hn
  have HM := hide' (show n = W * H by rw [hn])
  have S0 := hide' (RT.start w W H W H a n c 51 51 51)
  obtain ⟨i0, hi, hz0, hz1, hz2⟩ := info_parts info_int
  clear hP hn
  go_enter Tryd.func38, Tryd.ntmps38
  go_wp2
  go_loopw [6] (fun yv wr => ∃ (y : Nat) (v : Value), yv = .int .i64 (y : Int) ∧ y ≤ H ∧ RT w wr W H W H a n c v (refPre ⟨W, H, xs⟩ 0 (y * W))) (fun yv _ => H - (intOf yv).toNat)
  case atStart => exact ⟨0, .slice none 0 0, rfl, by omega, by rw [Nat.zero_mul]; exact S0.out⟩
  case round =>
    obtain ⟨y, v, rfl, hy, rt⟩ := hrel
    have R := hide' rt
    have c1 := rt.q.c1
    clear rt S0
    by_cases d : (y : Int) < (H : Int)
    · go_wp2
      go_loopw [7] (fun xv wx => ∃ (x : Nat) (v : Value), xv = .int .i64 (x : Int) ∧ x ≤ W ∧ RT w wx W H W H a n c v (refPre ⟨W, H, xs⟩ 0 (y * W + x))) (fun xv _ => W - (intOf xv).toNat)
      case atStart => exact ⟨0, v, rfl, by omega, R.out⟩
      case round =>
        obtain ⟨x, v, rfl, hx, rt⟩ := hrel
        have S := hide' rt
        have d0 := rt.q.c0
        have b0 := rt.box.c0
        have b1 := rt.box.c1
        have b2 := rt.box.c2
        have hsz := rt.sz
        have ho := rt.own
        obtain ⟨sa, sn, sc, rfl⟩ := ownsRow_slice ho
        clear rt ho R c1
        by_cases e : (x : Int) < (W : Int)
        · have hx' : x < W := by omega
          have hy' : y < H := by omega
          go_wp2_with fail
          refine (At_in W H xs a n c x y _ _ wr (HP.out.below S.out.below) lW lH HN.out (by omega) (by omega) (by omega) (by omega)).mono ?_
          rintro e' w2 ⟨rfl, b2'⟩
          have S2 := hide' (S.out.next b2')
          have d2 := S2.out.q.c2
          have z2 := S2.out.sz
          have OW := hide' S2.out.own
          obtain ⟨x0, hx0⟩ : ∃ x0, x0 = atP W xs x y := ⟨_, rfl⟩
          rw [← hx0]
          have X0 := hide' hx0
          have hlen : y * W + x < 10000 := by have := mk_lt hx' hy'; rw [← HM.out] at this; omega
          have HLE := hide' (refPre_length ⟨W, H, xs⟩ 0 (y * W + x))
          clear hx0 b2' d0 b0 b1 b2
          go_wp2_with (at_builtin; refine wpList_append_own _ rfl _ _ 22 rfl (w.heap.size + 3) 3 i0 (.int .i64 0) 1 8 Tryd.underlying22 hi hz0 hz1 hz2 rfl (by decide) (.slice sa sn sc) _ _ rfl (OW.out.alloc _) ⟨w2.heap.size, 0, none⟩ 1 1 [.int .i64 x0] rfl rfl (cell_one_new _ _ _) (fun x hx => by simp at hx; subst hx; rfl) (by rw [HLE.out]; unfold maxLen; omega) (by rw [HLE.out]; omega) (by simp; omega) ?_; intro v' w3 hown' hgrow3 hnil3; obtain ⟨ta, tn, tc, rfl⟩ := ownsRow_slice hown'; obtain ⟨x5, x6⟩ := S2.out.mid x0 hgrow3; have G3 := hide' hgrow3; have O3 := hide' hown'; clear hgrow3 hown' hnil3)
          refine ⟨⟨x + 1, .slice ta tn tc, by go_num, by omega, ?_⟩, by simp [intOf]; omega⟩
          have hp := S2.out.push x0 G3.out O3.out
          rw [X0.out] at hp
          rw [← Nat.add_assoc, refPre_step ⟨W, H, xs⟩ 0 x y hx' hy' (y * W + x) rfl]
          exact hp
        · have X := hide' (show x = W by omega)
          go_wp2
          refine ⟨⟨y + 1, .slice sa sn sc, by go_num, by omega, ?_⟩, by simp [intOf]; omega⟩
          have := S.out
          rw [X.out] at this
          rw [Nat.add_mul, Nat.one_mul]
          exact this
    · have Y := hide' (show y = H by omega)
      obtain ⟨sa, sn, sc, rfl⟩ := ownsRow_slice R.out.own
      obtain ⟨q0, q1, q2, -⟩ := R.out.q
      obtain ⟨r0, r1, r2, rf⟩ := R.out.res
      have f0 := rf 0
      have f1 := rf 1
      have f2 := rf 2
      clear rf c1
      go_wp2
      refine bodyPost_ret (v := .agg #[.int .i64 (W : Int), .int .i64 (H : Int), .slice sa sn sc]) (by simp [results, Tryd.results38, go_sem, r0, r1, r2]) rfl ?_
      refine ⟨_, rfl, ?_, ?_, ((R.out.below.setCell (by simp) _).setCell (by simp) _).setCell (by simp) _⟩
      · have h := R.out.own
        rw [Y.out, refPre_full ⟨W, H, xs⟩ 0 (show H * W = W * H from Nat.mul_comm _ _)] at h
        exact ownsRow_tab (ownsRow_setCell_below (ownsRow_setCell_below (ownsRow_setCell_below h (a := ⟨w.heap.size + 1, 0, none⟩) (by simp) _) (a := ⟨w.heap.size + 1, 1, none⟩) (by simp) _) (a := ⟨w.heap.size + 1, 2, none⟩) (by simp) _)
      · exact fresh_own R.out.own (by omega)

set_option maxRecDepth 100000 in
set_option maxHeartbeats 1600000 in
theorem refTurn_1 (W H : Nat) (xs : List Int) (a : Option Addr) (n c : Nat) (w : World) (hP : ArgP w xs a n c) (lW : W ≤ 100) (lH : H ≤ 100) (hn : n = W * H) :
    Calls Tryd.prog 38 #[.agg #[.int .i64 (W : Int), .int .i64 (H : Int), .slice a n c], .int .i64 1] w (TurnPost ⟨W, H, xs⟩ 1 w) := by
  have hN4 : n ≤ 10000 := by rw [hn]; exact Nat.mul_le_mul lW lH
  have HP := hide' hP
  have HN := hide' hn
  have HM := hide' (show n = H * W by rw [hn, Nat.mul_comm])
  have S0 := hide' (RT.start w W H H W a n c 51 51 51)
  obtain ⟨i0, hi, hz0, hz1, hz2⟩ := info_parts info_int
  clear hP hn
  go_enter Tryd.func38, Tryd.ntmps38
  go_wp2
  go_loopw [6] (fun yv wr => ∃ (y : Nat) (v : Value), yv = .int .i64 (y : Int) ∧ y ≤ W ∧ RT w wr W H H W a n c v (refPre ⟨W, H, xs⟩ 1 (y * H))) (fun yv _ => W - (intOf yv).toNat)
  case atStart => exact ⟨0, .slice none 0 0, rfl, by omega, by rw [Nat.zero_mul]; exact S0.out⟩
  case round =>
    obtain ⟨y, v, rfl, hy, rt⟩ := hrel
    have R := hide' rt
    have c1 := rt.q.c1
    clear rt S0
    by_cases d : (y : Int) < (W : Int)
    · go_wp2
      go_loopw [7] (fun xv wx => ∃ (x : Nat) (v : Value), xv = .int .i64 (x : Int) ∧ x ≤ H ∧ RT w wx W H H W a n c v (refPre ⟨W, H, xs⟩ 1 (y * H + x))) (fun xv _ => H - (intOf xv).toNat)
      case atStart => exact ⟨0, v, rfl, by omega, R.out⟩
      case round =>
        obtain ⟨x, v, rfl, hx, rt⟩ := hrel
        have S := hide' rt
        have d0 := rt.q.c0
        have b0 := rt.box.c0
        have b1 := rt.box.c1
        have b2 := rt.box.c2
        have hsz := rt.sz
        have ho := rt.own
        obtain ⟨sa, sn, sc, rfl⟩ := ownsRow_slice ho
        clear rt ho R c1
        by_cases e : (x : Int) < (H : Int)
        · have hx' : x < H := by omega
          have hy' : y < W := by omega
          go_wp2_with fail
          refine (At_in W H xs a n c y (H - 1 - x) _ _ wr (HP.out.below S.out.below) lW lH HN.out (by omega) (by omega) (by omega) (by omega)).mono ?_
          rintro e' w2 ⟨rfl, b2'⟩
          have S2 := hide' (S.out.next b2')
          have d2 := S2.out.q.c2
          have z2 := S2.out.sz
          have OW := hide' S2.out.own
          obtain ⟨x0, hx0⟩ : ∃ x0, x0 = atP W xs y (H - 1 - x) := ⟨_, rfl⟩
          rw [← hx0]
          have X0 := hide' hx0
          have hlen : y * H + x < 10000 := by have := mk_lt hx' hy'; rw [← HM.out] at this; omega
          have HLE := hide' (refPre_length ⟨W, H, xs⟩ 1 (y * H + x))
          clear hx0 b2' d0 b0 b1 b2
          go_wp2_with (at_builtin; refine wpList_append_own _ rfl _ _ 22 rfl (w.heap.size + 3) 3 i0 (.int .i64 0) 1 8 Tryd.underlying22 hi hz0 hz1 hz2 rfl (by decide) (.slice sa sn sc) _ _ rfl (OW.out.alloc _) ⟨w2.heap.size, 0, none⟩ 1 1 [.int .i64 x0] rfl rfl (cell_one_new _ _ _) (fun x hx => by simp at hx; subst hx; rfl) (by rw [HLE.out]; unfold maxLen; omega) (by rw [HLE.out]; omega) (by simp; omega) ?_; intro v' w3 hown' hgrow3 hnil3; obtain ⟨ta, tn, tc, rfl⟩ := ownsRow_slice hown'; obtain ⟨x5, x6⟩ := S2.out.mid x0 hgrow3; have G3 := hide' hgrow3; have O3 := hide' hown'; clear hgrow3 hown' hnil3)
          refine ⟨⟨x + 1, .slice ta tn tc, by go_num, by omega, ?_⟩, by simp [intOf]; omega⟩
          have hp := S2.out.push x0 G3.out O3.out
          rw [X0.out] at hp
          rw [← Nat.add_assoc, refPre_step ⟨W, H, xs⟩ 1 x y hx' hy' (y * H + x) rfl]
          exact hp
        · have X := hide' (show x = H by omega)
          go_wp2
          refine ⟨⟨y + 1, .slice sa sn sc, by go_num, by omega, ?_⟩, by simp [intOf]; omega⟩
          have := S.out
          rw [X.out] at this
          rw [Nat.add_mul, Nat.one_mul]
          exact this
    · have Y := hide' (show y = W by omega)
      obtain ⟨sa, sn, sc, rfl⟩ := ownsRow_slice R.out.own
      obtain ⟨q0, q1, q2, -⟩ := R.out.q
      obtain ⟨r0, r1, r2, rf⟩ := R.out.res
      have f0 := rf 0
      have f1 := rf 1
      have f2 := rf 2
      clear rf c1
      go_wp2
      refine bodyPost_ret (v := .agg #[.int .i64 (H : Int), .int .i64 (W : Int), .slice sa sn sc]) (by simp [results, Tryd.results38, go_sem, r0, r1, r2]) rfl ?_
      refine ⟨_, rfl, ?_, ?_, ((R.out.below.setCell (by simp) _).setCell (by simp) _).setCell (by simp) _⟩
      · have h := R.out.own
        rw [Y.out, refPre_full ⟨W, H, xs⟩ 1 (show W * H = H * W from Nat.mul_comm _ _)] at h
        exact ownsRow_tab (ownsRow_setCell_below (ownsRow_setCell_below (ownsRow_setCell_below h (a := ⟨w.heap.size + 1, 0, none⟩) (by simp) _) (a := ⟨w.heap.size + 1, 1, none⟩) (by simp) _) (a := ⟨w.heap.size + 1, 2, none⟩) (by simp) _)
      · exact fresh_own R.out.own (by omega)

set_option maxRecDepth 100000 in
set_option maxHeartbeats 1600000 in
theorem refTurn_2 (W H : Nat) (xs : List Int) (a : Option Addr) (n c : Nat) (w : World) (hP : ArgP w xs a n c) (lW : W ≤ 100) (lH : H ≤ 100) (hn : n = W * H) :
    Calls Tryd.prog 38 #[.agg #[.int .i64 (W : Int), .int .i64 (H : Int), .slice a n c], .int .i64 2] w (TurnPost ⟨W, H, xs⟩ 2 w) := by
  have hN4 : n ≤ 10000 := by rw [hn]; exact Nat.mul_le_mul lW lH
  have HP := hide' hP
  have HN := hide' hn
  have HM := hide' (show n = W * H by rw [hn])
  have S0 := hide' (RT.start w W H W H a n c 51 51 51)
  obtain ⟨i0, hi, hz0, hz1, hz2⟩ := info_parts info_int
  clear hP hn
  go_enter Tryd.func38, Tryd.ntmps38
  go_wp2
  go_loopw [6] (fun yv wr => ∃ (y : Nat) (v : Value), yv = .int .i64 (y : Int) ∧ y ≤ H ∧ RT w wr W H W H a n c v (refPre ⟨W, H, xs⟩ 2 (y * W))) (fun yv _ => H - (intOf yv).toNat)
  case atStart => exact ⟨0, .slice none 0 0, rfl, by omega, by rw [Nat.zero_mul]; exact S0.out⟩
  case round =>
    obtain ⟨y, v, rfl, hy, rt⟩ := hrel
    have R := hide' rt
    have c1 := rt.q.c1
    clear rt S0
    by_cases d : (y : Int) < (H : Int)
    · go_wp2
      go_loopw [7] (fun xv wx => ∃ (x : Nat) (v : Value), xv = .int .i64 (x : Int) ∧ x ≤ W ∧ RT w wx W H W H a n c v (refPre ⟨W, H, xs⟩ 2 (y * W + x))) (fun xv _ => W - (intOf xv).toNat)
      case atStart => exact ⟨0, v, rfl, by omega, R.out⟩
      case round =>
        obtain ⟨x, v, rfl, hx, rt⟩ := hrel
        have S := hide' rt
        have d0 := rt.q.c0
        have b0 := rt.box.c0
        have b1 := rt.box.c1
        have b2 := rt.box.c2
        have hsz := rt.sz
        have ho := rt.own
        obtain ⟨sa, sn, sc, rfl⟩ := ownsRow_slice ho
        clear rt ho R c1
        by_cases e : (x : Int) < (W : Int)
        · have hx' : x < W := by omega
          have hy' : y < H := by omega
          go_wp2_with fail
          refine (At_in W H xs a n c (W - 1 - x) (H - 1 - y) _ _ wr (HP.out.below S.out.below) lW lH HN.out (by omega) (by omega) (by omega) (by omega)).mono ?_
          rintro e' w2 ⟨rfl, b2'⟩
          have S2 := hide' (S.out.next b2')
          have d2 := S2.out.q.c2
          have z2 := S2.out.sz
          have OW := hide' S2.out.own
          obtain ⟨x0, hx0⟩ : ∃ x0, x0 = atP W xs (W - 1 - x) (H - 1 - y) := ⟨_, rfl⟩
          rw [← hx0]
          have X0 := hide' hx0
          have hlen : y * W + x < 10000 := by have := mk_lt hx' hy'; rw [← HM.out] at this; omega
          have HLE := hide' (refPre_length ⟨W, H, xs⟩ 2 (y * W + x))
          clear hx0 b2' d0 b0 b1 b2
          go_wp2_with (at_builtin; refine wpList_append_own _ rfl _ _ 22 rfl (w.heap.size + 3) 3 i0 (.int .i64 0) 1 8 Tryd.underlying22 hi hz0 hz1 hz2 rfl (by decide) (.slice sa sn sc) _ _ rfl (OW.out.alloc _) ⟨w2.heap.size, 0, none⟩ 1 1 [.int .i64 x0] rfl rfl (cell_one_new _ _ _) (fun x hx => by simp at hx; subst hx; rfl) (by rw [HLE.out]; unfold maxLen; omega) (by rw [HLE.out]; omega) (by simp; omega) ?_; intro v' w3 hown' hgrow3 hnil3; obtain ⟨ta, tn, tc, rfl⟩ := ownsRow_slice hown'; obtain ⟨x5, x6⟩ := S2.out.mid x0 hgrow3; have G3 := hide' hgrow3; have O3 := hide' hown'; clear hgrow3 hown' hnil3)
          refine ⟨⟨x + 1, .slice ta tn tc, by go_num, by omega, ?_⟩, by simp [intOf]; omega⟩
          have hp := S2.out.push x0 G3.out O3.out
          rw [X0.out] at hp
          rw [← Nat.add_assoc, refPre_step ⟨W, H, xs⟩ 2 x y hx' hy' (y * W + x) rfl]
          exact hp
        · have X := hide' (show x = W by omega)
          go_wp2
          refine ⟨⟨y + 1, .slice sa sn sc, by go_num, by omega, ?_⟩, by simp [intOf]; omega⟩
          have := S.out
          rw [X.out] at this
          rw [Nat.add_mul, Nat.one_mul]
          exact this
    · have Y := hide' (show y = H by omega)
      obtain ⟨sa, sn, sc, rfl⟩ := ownsRow_slice R.out.own
      obtain ⟨q0, q1, q2, -⟩ := R.out.q
      obtain ⟨r0, r1, r2, rf⟩ := R.out.res
      have f0 := rf 0
      have f1 := rf 1
      have f2 := rf 2
      clear rf c1
      go_wp2
      refine bodyPost_ret (v := .agg #[.int .i64 (W : Int), .int .i64 (H : Int), .slice sa sn sc]) (by simp [results, Tryd.results38, go_sem, r0, r1, r2]) rfl ?_
      refine ⟨_, rfl, ?_, ?_, ((R.out.below.setCell (by simp) _).setCell (by simp) _).setCell (by simp) _⟩
      · have h := R.out.own
        rw [Y.out, refPre_full ⟨W, H, xs⟩ 2 (show H * W = W * H from Nat.mul_comm _ _)] at h
        exact ownsRow_tab (ownsRow_setCell_below (ownsRow_setCell_below (ownsRow_setCell_below h (a := ⟨w.heap.size + 1, 0, none⟩) (by simp) _) (a := ⟨w.heap.size + 1, 1, none⟩) (by simp) _) (a := ⟨w.heap.size + 1, 2, none⟩) (by simp) _)
      · exact fresh_own R.out.own (by omega)

set_option maxRecDepth 100000 in
set_option maxHeartbeats 1600000 in
theorem refTurn_3 (W H : Nat) (xs : List Int) (a : Option Addr) (n c : Nat) (w : World) (hP : ArgP w xs a n c) (lW : W ≤ 100) (lH : H ≤ 100) (hn : n = W * H) :
    Calls Tryd.prog 38 #[.agg #[.int .i64 (W : Int), .int .i64 (H : Int), .slice a n c], .int .i64 3] w (TurnPost ⟨W, H, xs⟩ 3 w) := by
  have hN4 : n ≤ 10000 := by rw [hn]; exact Nat.mul_le_mul lW lH
  have HP := hide' hP
  have HN := hide' hn
  have HM := hide' (show n = H * W by rw [hn, Nat.mul_comm])
  have S0 := hide' (RT.start w W H H W a n c 51 51 51)
  obtain ⟨i0, hi, hz0, hz1, hz2⟩ := info_parts info_int
  clear hP hn
  go_enter Tryd.func38, Tryd.ntmps38
  go_wp2
  go_loopw [6] (fun yv wr => ∃ (y : Nat) (v : Value), yv = .int .i64 (y : Int) ∧ y ≤ W ∧ RT w wr W H H W a n c v (refPre ⟨W, H, xs⟩ 3 (y * H))) (fun yv _ => W - (intOf yv).toNat)
  case atStart => exact ⟨0, .slice none 0 0, rfl, by omega, by rw [Nat.zero_mul]; exact S0.out⟩
  case round =>
    obtain ⟨y, v, rfl, hy, rt⟩ := hrel
    have R := hide' rt
    have c1 := rt.q.c1
    clear rt S0
    by_cases d : (y : Int) < (W : Int)
    · go_wp2
      go_loopw [7] (fun xv wx => ∃ (x : Nat) (v : Value), xv = .int .i64 (x : Int) ∧ x ≤ H ∧ RT w wx W H H W a n c v (refPre ⟨W, H, xs⟩ 3 (y * H + x))) (fun xv _ => H - (intOf xv).toNat)
      case atStart => exact ⟨0, v, rfl, by omega, R.out⟩
      case round =>
        obtain ⟨x, v, rfl, hx, rt⟩ := hrel
        have S := hide' rt
        have d0 := rt.q.c0
        have b0 := rt.box.c0
        have b1 := rt.box.c1
        have b2 := rt.box.c2
        have hsz := rt.sz
        have ho := rt.own
        obtain ⟨sa, sn, sc, rfl⟩ := ownsRow_slice ho
        clear rt ho R c1
        by_cases e : (x : Int) < (H : Int)
        · have hx' : x < H := by omega
          have hy' : y < W := by omega
          go_wp2_with fail
          refine (At_in W H xs a n c (W - 1 - y) x _ _ wr (HP.out.below S.out.below) lW lH HN.out (by omega) (by omega) (by omega) (by omega)).mono ?_
          rintro e' w2 ⟨rfl, b2'⟩
          have S2 := hide' (S.out.next b2')
          have d2 := S2.out.q.c2
          have z2 := S2.out.sz
          have OW := hide' S2.out.own
          obtain ⟨x0, hx0⟩ : ∃ x0, x0 = atP W xs (W - 1 - y) x := ⟨_, rfl⟩
          rw [← hx0]
          have X0 := hide' hx0
          have hlen : y * H + x < 10000 := by have := mk_lt hx' hy'; rw [← HM.out] at this; omega
          have HLE := hide' (refPre_length ⟨W, H, xs⟩ 3 (y * H + x))
          clear hx0 b2' d0 b0 b1 b2
          go_wp2_with (at_builtin; refine wpList_append_own _ rfl _ _ 22 rfl (w.heap.size + 3) 3 i0 (.int .i64 0) 1 8 Tryd.underlying22 hi hz0 hz1 hz2 rfl (by decide) (.slice sa sn sc) _ _ rfl (OW.out.alloc _) ⟨w2.heap.size, 0, none⟩ 1 1 [.int .i64 x0] rfl rfl (cell_one_new _ _ _) (fun x hx => by simp at hx; subst hx; rfl) (by rw [HLE.out]; unfold maxLen; omega) (by rw [HLE.out]; omega) (by simp; omega) ?_; intro v' w3 hown' hgrow3 hnil3; obtain ⟨ta, tn, tc, rfl⟩ := ownsRow_slice hown'; obtain ⟨x5, x6⟩ := S2.out.mid x0 hgrow3; have G3 := hide' hgrow3; have O3 := hide' hown'; clear hgrow3 hown' hnil3)
          refine ⟨⟨x + 1, .slice ta tn tc, by go_num, by omega, ?_⟩, by simp [intOf]; omega⟩
          have hp := S2.out.push x0 G3.out O3.out
          rw [X0.out] at hp
          rw [← Nat.add_assoc, refPre_step ⟨W, H, xs⟩ 3 x y hx' hy' (y * H + x) rfl]
          exact hp
        · have X := hide' (show x = H by omega)
          go_wp2
          refine ⟨⟨y + 1, .slice sa sn sc, by go_num, by omega, ?_⟩, by simp [intOf]; omega⟩
          have := S.out
          rw [X.out] at this
          rw [Nat.add_mul, Nat.one_mul]
          exact this
    · have Y := hide' (show y = W by omega)
      obtain ⟨sa, sn, sc, rfl⟩ := ownsRow_slice R.out.own
      obtain ⟨q0, q1, q2, -⟩ := R.out.q
      obtain ⟨r0, r1, r2, rf⟩ := R.out.res
      have f0 := rf 0
      have f1 := rf 1
      have f2 := rf 2
      clear rf c1
      go_wp2
      refine bodyPost_ret (v := .agg #[.int .i64 (H : Int), .int .i64 (W : Int), .slice sa sn sc]) (by simp [results, Tryd.results38, go_sem, r0, r1, r2]) rfl ?_
      refine ⟨_, rfl, ?_, ?_, ((R.out.below.setCell (by simp) _).setCell (by simp) _).setCell (by simp) _⟩
      · have h := R.out.own
        rw [Y.out, refPre_full ⟨W, H, xs⟩ 3 (show W * H = H * W from Nat.mul_comm _ _)] at h
        exact ownsRow_tab (ownsRow_setCell_below (ownsRow_setCell_below (ownsRow_setCell_below h (a := ⟨w.heap.size + 1, 0, none⟩) (by simp) _) (a := ⟨w.heap.size + 1, 1, none⟩) (by simp) _) (a := ⟨w.heap.size + 1, 2, none⟩) (by simp) _)
      · exact fresh_own R.out.own (by omega)
end Go.Proofs.YtjngjnkecnnmeaaDoor

