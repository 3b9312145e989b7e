/-
  What the last text of this claim leans on, part 15: Wc3, Wc4, Wi3, In1, LawBb0, LawBb1.
-/
import Derived.Test.YtfeddccbhmbkmaaZb14
import Derived.Test.YtfeddccbhmbkmaaZb4
import Derived.Deep.CutRange
namespace Go.Proofs.Ytfeddccbhmbkmaa
open Go.RowKit
set_option linter.unusedVariables false

/-- The first cells of the turned pattern. -/
def refPre (p : Pat) (k m : Nat) : List Int := (List.range m).map fun q => atP p.W p.xs (srcX p k (q % turnW p k) (q / turnW p k)) (srcY p k (q % turnW p k) (q / turnW p k))
theorem refPre_length (p : Pat) (k m : Nat) : (refPre p k m).length = m := by simp [refPre]
theorem refPre_succ (p : Pat) (k m : Nat) : refPre p k (m + 1) = refPre p k m ++ [atP p.W p.xs (srcX p k (m % turnW p k) (m / turnW p k)) (srcY p k (m % turnW p k) (m / turnW p k))] := by
  unfold refPre
  rw [List.range_succ, List.map_append]
  rfl
theorem refPre_val (p : Pat) (k x y : Nat) (hx : x < turnW p k) (hy : y < turnH p k) : atP p.W p.xs (srcX p k ((y * turnW p k + x) % turnW p k) ((y * turnW p k + x) / turnW p k)) (srcY p k ((y * turnW p k + x) % turnW p k) ((y * turnW p k + x) / turnW p k)) = atP p.W p.xs (srcX p k x y) (srcY p k x y) := by
  obtain ⟨d, m⟩ := divmod_mk (turnW p k) y x hx
  rw [d, m]
theorem refPre_step (p : Pat) (k x y : Nat) (hx : x < turnW p k) (hy : y < turnH p k) (m : Nat) (hm : m = y * turnW p k + x) : refPre p k (m + 1) = refPre p k m ++ [atP p.W p.xs (srcX p k x y) (srcY p k x y)] := by
  rw [refPre_succ, hm, refPre_val p k x y hx hy]
theorem refPre_full (p : Pat) (k : Nat) {m : Nat} (h : m = turnW p k * turnH p k) : refPre p k m = refTurn p k := by rw [h]; rfl

def TurnPost (p : Pat) (k : Nat) (w : World) (e : Ending) (w' : World) : Prop :=
  ∃ v, e = .returned (.agg #[.int .i64 (turnW p k : Int), .int .i64 (turnH p k : Int), v]) ∧ Tab w' v (refTurn p k) ∧ Fresh w v ∧ Below w.heap.size w w'

set_option maxRecDepth 100000 in
set_option maxHeartbeats 1600000 in
theorem refTurn_1 (W H : Nat) (xs : List Int) (a : Option Addr) (n c : Nat) (w : World) (hP : ArgP w xs a n c) (lW : W ≤ 100) (lH : H ≤ 100) (hn : n = W * H) :
    Calls Try.prog 10 #[.agg #[.int .i64 (W : Int), .int .i64 (H : Int), .slice a n c], .int .i64 1] w (TurnPost ⟨W, H, xs⟩ 1 w) := by
  have hN4 : n ≤ 10000 := by rw [hn]; exact Nat.mul_le_mul lW lH
  have HP := hide' hP
  have HN := hide' hn
  have HM := hide' (show n = H * W by rw [hn, Nat.mul_comm])
  have S0 := hide' (RT.start w W H H W a n c 24 24 24)
  obtain ⟨i0, hi, hz0, hz1, hz2⟩ := info_parts info_int
  clear hP hn
  go_enter Try.func10, Try.ntmps10
  go_wp2
  go_loopw [6] (fun yv wr => ∃ (y : Nat) (v : Value), yv = .int .i64 (y : Int) ∧ y ≤ W ∧ RT w wr W H H W a n c v (refPre ⟨W, H, xs⟩ 1 (y * H))) (fun yv _ => W - (intOf yv).toNat)
  case atStart => exact ⟨0, .slice none 0 0, rfl, by omega, by rw [Nat.zero_mul]; exact S0.out⟩
  case round =>
    obtain ⟨y, v, rfl, hy, rt⟩ := hrel
    have R := hide' rt
    have c1 := rt.q.c1
    clear rt S0
    by_cases d : (y : Int) < (W : Int)
    · go_wp2
      go_loopw [7] (fun xv wx => ∃ (x : Nat) (v : Value), xv = .int .i64 (x : Int) ∧ x ≤ H ∧ RT w wx W H H W a n c v (refPre ⟨W, H, xs⟩ 1 (y * H + x))) (fun xv _ => H - (intOf xv).toNat)
      case atStart => exact ⟨0, v, rfl, by omega, R.out⟩
      case round =>
        obtain ⟨x, v, rfl, hx, rt⟩ := hrel
        have S := hide' rt
        have d0 := rt.q.c0
        have b0 := rt.box.c0
        have b1 := rt.box.c1
        have b2 := rt.box.c2
        have hsz := rt.sz
        have ho := rt.own
        obtain ⟨sa, sn, sc, rfl⟩ := ownsRow_slice ho
        clear rt ho R c1
        by_cases e : (x : Int) < (H : Int)
        · have hx' : x < H := by omega
          have hy' : y < W := by omega
          go_wp2_with fail
          refine (At_in W H xs a n c y (H - 1 - x) _ _ wr (HP.out.below S.out.below) lW lH HN.out (by omega) (by omega) (by omega) (by omega)).mono ?_
          rintro e' w2 ⟨rfl, b2'⟩
          have S2 := hide' (S.out.next b2')
          have d2 := S2.out.q.c2
          have z2 := S2.out.sz
          have OW := hide' S2.out.own
          obtain ⟨x0, hx0⟩ : ∃ x0, x0 = atP W xs y (H - 1 - x) := ⟨_, rfl⟩
          rw [← hx0]
          have X0 := hide' hx0
          have hlen : y * H + x < 10000 := by have := mk_lt hx' hy'; rw [← HM.out] at this; omega
          have HLE := hide' (refPre_length ⟨W, H, xs⟩ 1 (y * H + x))
          clear hx0 b2' d0 b0 b1 b2
          go_wp2_with (at_builtin; refine wpList_append_own _ rfl _ _ 22 rfl (w.heap.size + 3) 3 i0 (.int .i64 0) 1 8 Try.underlying22 hi hz0 hz1 hz2 rfl (by decide) (.slice sa sn sc) _ _ rfl (OW.out.alloc _) ⟨w2.heap.size, 0, none⟩ 1 1 [.int .i64 x0] rfl rfl (cell_one_new _ _ _) (fun x hx => by simp at hx; subst hx; rfl) (by rw [HLE.out]; unfold maxLen; omega) (by rw [HLE.out]; omega) (by simp; omega) ?_; intro v' w3 hown' hgrow3 hnil3; obtain ⟨ta, tn, tc, rfl⟩ := ownsRow_slice hown'; obtain ⟨x5, x6⟩ := S2.out.mid x0 hgrow3; have G3 := hide' hgrow3; have O3 := hide' hown'; clear hgrow3 hown' hnil3)
          refine ⟨⟨x + 1, .slice ta tn tc, by go_num, by omega, ?_⟩, by simp [intOf]; omega⟩
          have hp := S2.out.push x0 G3.out O3.out
          rw [X0.out] at hp
          rw [← Nat.add_assoc, refPre_step ⟨W, H, xs⟩ 1 x y hx' hy' (y * H + x) rfl]
          exact hp
        · have X := hide' (show x = H by omega)
          go_wp2
          refine ⟨⟨y + 1, .slice sa sn sc, by go_num, by omega, ?_⟩, by simp [intOf]; omega⟩
          have := S.out
          rw [X.out] at this
          rw [Nat.add_mul, Nat.one_mul]
          exact this
    · have Y := hide' (show y = W by omega)
      obtain ⟨sa, sn, sc, rfl⟩ := ownsRow_slice R.out.own
      obtain ⟨q0, q1, q2, -⟩ := R.out.q
      obtain ⟨r0, r1, r2, rf⟩ := R.out.res
      have f0 := rf 0
      have f1 := rf 1
      have f2 := rf 2
      clear rf c1
      go_wp2
      refine bodyPost_ret (v := .agg #[.int .i64 (H : Int), .int .i64 (W : Int), .slice sa sn sc]) (by simp [results, Try.results10, go_sem, r0, r1, r2]) rfl ?_
      refine ⟨_, rfl, ?_, ?_, ((R.out.below.setCell (by simp) _).setCell (by simp) _).setCell (by simp) _⟩
      · have h := R.out.own
        rw [Y.out, refPre_full ⟨W, H, xs⟩ 1 (show W * H = H * W from Nat.mul_comm _ _)] at h
        exact ownsRow_tab (ownsRow_setCell_below (ownsRow_setCell_below (ownsRow_setCell_below h (a := ⟨w.heap.size + 1, 0, none⟩) (by simp) _) (a := ⟨w.heap.size + 1, 1, none⟩) (by simp) _) (a := ⟨w.heap.size + 1, 2, none⟩) (by simp) _)
      · exact fresh_own R.out.own (by omega)

end Go.Proofs.Ytfeddccbhmbkmaa

namespace Go.Proofs.Ytfeddccbhmbkmaa
open Go.RowKit
set_option linter.unusedVariables false

end Go.Proofs.Ytfeddccbhmbkmaa

namespace Go.Proofs.Ytfeddccbhmbkmaa
open Go.RowKit
set_option linter.unusedVariables false

end Go.Proofs.Ytfeddccbhmbkmaa

namespace Go.Proofs.Ytfeddccbhmbkmaa
open Go.RowKit
set_option linter.unusedVariables false

theorem list_ne_len {xs ys : List Int} (h : xs.length ≠ ys.length) : decide (xs = ys) = false := by
  simp; intro e; exact h (by rw [e])
theorem list_ne_at {xs ys : List Int} {k : Nat} (hx : k < xs.length) (hy : k < ys.length) (h : xs[k] ≠ ys[k]) : decide (xs = ys) = false := by
  simp; intro e; subst e; exact h rfl

set_option maxHeartbeats 1600000 in
theorem Ints_any (xs ys : List Int) (a b : Option Addr) (n c m d : Nat) (w : World) (hA : ArgP w xs a n c) (hB : ArgP w ys b m d) :
    Calls Try.prog 27 #[.slice a n c, .slice b m d] w fun e w' => e = .returned (.bool (decide (xs = ys))) ∧ ∃ q, w' = w.drewN q := by
  have HA := hide' hA
  have HB := hide' hB
  have hlx := hA.len
  have hly := hB.len
  have hma := hA.max
  have hmb := hB.max
  have LX := hide' hlx
  have LY := hide' hly
  unfold maxLen at hma hmb
  by_cases hnm : n = m
  · subst hnm
    clear hA hB hlx hly
    have EQ := hide' (fun (h : ∀ j (h1 : j < xs.length) (h2 : j < ys.length), xs[j] = ys[j]) => show decide (xs = ys) = true by
      simp; exact List.ext_getElem (by rw [← LX.out, ← LY.out]) fun j h1 h2 => h j h1 h2)
    go_enter Try.func27, Try.ntmps27
    go_wp2
    go_loopw [5] (fun iv wr => ∃ k q : Nat, iv = .int .i64 (k : Int) ∧ k ≤ n ∧ wr = w.drewN q ∧ Hid (∀ j (h1 : j < xs.length) (h2 : j < ys.length), j < k → xs[j] = ys[j])) (fun iv _ => n - (intOf iv).toNat)
    case atStart => exact ⟨0, 0, rfl, by omega, rfl, fun j h1 h2 h => by omega⟩
    case round =>
      obtain ⟨k, q, rfl, hk, rfl, HK⟩ := hrel
      by_cases hkn : (k : Int) < (n : Int)
      · have l1 : k < xs.length := by have := LX.out; omega
        have l2 : k < ys.length := by have := LY.out; omega
        obtain ⟨ga, oa, rfl, -, c1⟩ := HA.out.cells k l1
        obtain ⟨gb, ob, rfl, -, c2⟩ := HB.out.cells k l2
        obtain ⟨x, hx⟩ : ∃ x, xs[k] = x := ⟨_, rfl⟩
        obtain ⟨y, hy⟩ : ∃ y, ys[k] = y := ⟨_, rfl⟩
        rw [hx] at c1
        rw [hy] at c2
        have HX := hide' hx
        have HY := hide' hy
        clear hx hy
        by_cases e : x = y
        · subst e
          have m1 : (x != x) = false := by simp
          go_wp2
          go_quiet (fail)
          go_wp2
          refine ⟨⟨k + 1, q + nq, by go_num, by omega, rfl, fun j h1 h2 h => ?_⟩, by simp [intOf]; omega⟩
          by_cases ej : j = k
          · subst ej; rw [HX.out, HY.out]
          · exact HK.out j h1 h2 (by omega)
        · have m1 : (x != y) = true := by simp [e]
          have F := hide' (list_ne_at l1 l2 (by rw [HX.out, HY.out]; exact e))
          clear e
          go_wp2
          go_quiet (fail)
          go_wp2
          go_ret
          exact ⟨by rw [F.out]; rfl, q + nq, by simp [World.drewN, Nat.add_assoc]⟩
      · have F := hide' (EQ.out fun j h1 h2 => HK.out j h1 h2 (by have := LX.out; omega))
        go_wp2
        go_ret
        exact ⟨by rw [F.out]; rfl, q, rfl⟩
  · have m1 : ((n : Int) != (m : Int)) = true := by simp; omega
    have F := hide' (list_ne_len (xs := xs) (ys := ys) (by rw [← hlx, ← hly]; exact hnm))
    clear hA hB hlx hly hnm
    go_enter Try.func27, Try.ntmps27
    go_wp2
    go_ret
    exact ⟨by rw [F.out]; rfl, 0, rfl⟩

set_option maxHeartbeats 1600000 in
theorem Alike_any (W H W' H' : Int) (xs ys : List Int) (a b : Option Addr) (n c m d : Nat) (w : World) (hA : ArgP w xs a n c) (hB : ArgP w ys b m d) :
    Calls Try.prog 11 #[.agg #[.int .i64 W, .int .i64 H, .slice a n c], .agg #[.int .i64 W', .int .i64 H', .slice b m d]] w fun e w' => e = .returned (.bool (decide (xs = ys) && (W == W') && (H == H'))) ∧ Below w.heap.size w w' := by
  have B := hide' (((Below.refl w.heap.size w).alloc (Nat.le_refl _) (.cells #[.int .i64 W, .int .i64 H, .slice a n c] 24)).alloc (by simp) (.cells #[.int .i64 W', .int .i64 H', .slice b m d] 24))
  have AA := hide' (hA.below B.out)
  have AB := hide' (hB.below B.out)
  obtain ⟨r, hr⟩ : ∃ r, decide (xs = ys) = r := ⟨_, rfl⟩
  have HR := hide' hr
  clear hA hB hr
  cases r
  · go_enter Try.func11, Try.ntmps11
    go_wp2_with fail
    refine (Ints_any xs ys a b n c m d _ AA.out AB.out).mono ?_
    rw [HR.out]
    rintro e w1 ⟨rfl, q, rfl⟩
    go_wp2
    go_ret
    exact ⟨by rw [HR.out]; simp, below_drewN B.out q⟩
  · cases e1 : (W == W')
    · go_enter Try.func11, Try.ntmps11
      go_wp2_with fail
      refine (Ints_any xs ys a b n c m d _ AA.out AB.out).mono ?_
      rw [HR.out]
      rintro e w1 ⟨rfl, q, rfl⟩
      go_wp2
      go_ret
      exact ⟨by rw [HR.out]; simp, below_drewN B.out q⟩
    · go_enter Try.func11, Try.ntmps11
      go_wp2_with fail
      refine (Ints_any xs ys a b n c m d _ AA.out AB.out).mono ?_
      rw [HR.out]
      rintro e w1 ⟨rfl, q, rfl⟩
      go_wp2
      go_ret
      exact ⟨by rw [HR.out]; simp, below_drewN B.out q⟩
end Go.Proofs.Ytfeddccbhmbkmaa

namespace Go.Proofs.Ytfeddccbhmbkmaa
open Go.RowKit
set_option linter.unusedVariables false
def ballsL : List Int := [0, 8, 4, 3, 2, 5, 9, 7, 1, 6, 10, 11, 12, 13, 14, 15]
theorem balls_inj : ∀ a b : Fin 16, tvF ballsL a.val = tvF ballsL b.val → a = b := by decide +kernel
theorem fact_back (V : World) (g : Nat) (hg : V.heap[g]? = some (.cells #[.int .i64 0, .int .i64 8, .int .i64 4, .int .i64 3, .int .i64 2, .int .i64 5, .int .i64 9, .int .i64 7, .int .i64 1, .int .i64 6, .int .i64 10, .int .i64 11, .int .i64 12, .int .i64 13, .int .i64 14, .int .i64 15] 3 (0, 0))) : Calls Try.prog 5 #[.slice (some ⟨g, 0, none⟩) 16 16] V fun e w' => (∃ g', e = .returned (.tuple #[.slice (some ⟨g', 0, none⟩) 16 16, .nilIface]) ∧ w'.heap[g']? = some (.cells (arrF 16 (fun v => .int .i64 (backF (tvF ballsL) 16 v : Int))) 3 (0, 0))) ∧ Below V.heap.size V w' := by
  have hP : ArgP V ballsL (some ⟨g, 0, none⟩) 16 16 := ⟨rfl, by unfold maxLen; omega, fun k hk => ⟨g, 0, rfl, lt_of_block hg, by
    rw [cell_of_row V _ _ _ _ _ hg, Nat.zero_add]
    have : k < 16 := hk
    have : k = 0 ∨ k = 1 ∨ k = 2 ∨ k = 3 ∨ k = 4 ∨ k = 5 ∨ k = 6 ∨ k = 7 ∨ k = 8 ∨ k = 9 ∨ k = 10 ∨ k = 11 ∨ k = 12 ∨ k = 13 ∨ k = 14 ∨ k = 15 := by omega
    rcases this with rfl | rfl | rfl | rfl | rfl | rfl | rfl | rfl | rfl | rfl | rfl | rfl | rfl | rfl | rfl | rfl <;> rfl⟩⟩
  have t0 : tabE ballsL = 0 := by decide +kernel
  refine (back_good ballsL _ 16 (tvF ballsL) V hP t0 (tab_TbB hP t0).2).mono ?_
  rintro e w' (⟨i, j, h1, h2, h3, _⟩ | ⟨_, g', rfl, _, h, b⟩)
  · have := congrArg Fin.val (balls_inj ⟨i, by omega⟩ ⟨j, h2⟩ h3)
    simp at this
    omega
  · exact ⟨⟨g', rfl, h⟩, b⟩
end Go.Proofs.Ytfeddccbhmbkmaa

namespace Go.Proofs.Ytfeddccbhmbkmaa
open Go.RowKit
set_option linter.unusedVariables false
theorem wrap_nB' {n : Int} (h : 0 ≤ n ∧ n ≤ 1000000) : IntKind.i64.wrap n = n := by simp [IntKind.wrap, IntKind.bits, IntKind.signed]; omega
theorem fact8 (V : World) (g : Nat) (hg : V.heap[g]? = some (.cells #[.int .i64 0, .int .i64 8, .int .i64 4, .int .i64 3, .int .i64 2, .int .i64 5, .int .i64 9, .int .i64 7, .int .i64 1, .int .i64 6, .int .i64 10, .int .i64 11, .int .i64 12, .int .i64 13, .int .i64 14, .int .i64 15] 3 (0, 0))) : Calls Try.prog 5 #[.slice (some ⟨g, 0, none⟩) 16 16] V fun e w' => (∃ g', e = .returned (.tuple #[.slice (some ⟨g', 0, none⟩) 16 16, .nilIface]) ∧ w'.cell? ⟨g', 8, none⟩ = some (.int .i64 1)) ∧ Below V.heap.size V w' := by
  refine (fact_back V g hg).mono ?_
  rintro e w' ⟨⟨g', rfl, h2⟩, b⟩
  refine ⟨⟨g', rfl, ?_⟩, b⟩
  rw [cell_of_row w' _ _ _ _ _ h2, arrF_get _ (by omega)]
  exact congrArg (fun z : Nat => some (Value.int .i64 (z : Int))) (by decide +kernel)
def CountOut (x : Int) (w : World) (e : Ending) (w' : World) : Prop := e = .returned (.int .i64 x) ∧ Below w.heap.size w w'
def TurnOut (W H : Nat) (ys : List Int) (w : World) (e : Ending) (w' : World) : Prop := ∃ a n c, e = .returned (.agg #[.int .i64 (W : Int), .int .i64 (H : Int), .slice a n c]) ∧ ArgP w' ys a n c ∧ Below w.heap.size w w'
def BackErr (w : World) (e : Ending) (w' : World) : Prop := e = .returned (.tuple #[.slice none 0 0, .iface 50 (.int .i64 5)]) ∧ Below w.heap.size w w'
def BackOk (bl : List Int) (w : World) (e : Ending) (w' : World) : Prop := ∃ g, e = .returned (.tuple #[.slice (some ⟨g, 0, none⟩) 16 16, .nilIface]) ∧ ArgP w' bl (some ⟨g, 0, none⟩) 16 16 ∧ Below w.heap.size w w'
theorem tab_argB {w : World} {v : Value} {xs : List Int} (h : Tab w v xs) (hm : xs.length ≤ maxLen) : ∃ a c, v = .slice a xs.length c ∧ ArgP w xs a xs.length c := by
  rcases h with ⟨rfl, rfl⟩ | ⟨g, cap, rfl, hg, hc⟩
  · exact ⟨none, 0, rfl, rfl, by simp [maxLen], fun k hk => by simp at hk⟩
  · exact ⟨some ⟨g, 0, none⟩, cap, rfl, rfl, hm, fun k hk => ⟨g, 0, rfl, hg, by rw [Nat.zero_add]; exact hc k hk⟩⟩
theorem turn1_any (W H : Nat) (xs : List Int) (a : Option Addr) (n c : Nat) (w : World) (hP : ArgP w xs a n c) (hn : xs.length = W * H) (hW : W ≤ 100) (hH : H ≤ 100) :
    Calls Try.prog 10 #[.agg #[.int .i64 (W : Int), .int .i64 (H : Int), .slice a n c], .int .i64 1] w (TurnOut H W (qtrP W H xs) w) := by
  have e := hP.len
  subst e
  refine (refTurn_1 W H xs a _ c w hP hW hH hn).mono ?_
  rintro e w' ⟨v, h1, t, -, b⟩
  obtain ⟨a', c', e', ap⟩ := tab_argB t (by show (qtrP W H xs).length ≤ maxLen; have := Nat.mul_le_mul hH hW; simp [qtrP, maxLen]; omega)
  rw [e'] at h1
  exact ⟨a', _, c', h1, ap, b⟩
theorem shape_ofB {W H : Nat} {xs : List Int} (hW : W ≤ 100) (hH : H ≤ 100) (hn : xs.length = W * H) (hx : ∀ k, 0 ≤ xs.getD k 0 ∧ xs.getD k 0 ≤ 1) : shapeF (W : Int) (H : Int) xs = 0 := by
  unfold shapeF
  rw [if_pos (by unfold sideB; simp; omega), if_pos (by rw [hn]; push_cast; rfl), if_pos]
  refine List.all_eq_true.2 fun x hm => ?_
  obtain ⟨k, hk, rfl⟩ := List.getElem_of_mem hm
  have := hx k
  have e : xs.getD k 0 = xs[k] := by simp [List.getD, hk]
  rw [e] at this
  unfold cellB
  simp
  omega
theorem runE_swap {t xs ys : List Int} {W H : Int} {ph k : Int} (h : runE t W H xs ph k = 0) (s : shapeF H W ys = 0) : runE t H W ys ph k = 0 := by
  unfold runE at h ⊢
  by_cases h1 : tabE t ≠ 0
  · rw [if_pos h1] at h; exact absurd h h1
  · rw [if_neg h1] at h ⊢
    rw [if_neg (by omega)]
    by_cases h2 : shapeF W H xs ≠ 0
    · rw [if_pos h2] at h; exact absurd h h2
    · rw [if_neg h2] at h
      by_cases h3 : W % 2 ≠ 0 ∨ H % 2 ≠ 0
      · rw [if_pos h3] at h; omega
      · rw [if_neg h3] at h
        rw [if_neg (by omega)]
        exact h
theorem runE_back {t u xs ys : List Int} {W H : Int} {ph k ph' : Int} (h : runE t W H xs ph k = 0) (tu : tabE u = 0) (s : shapeF W H ys = 0) (hp : ph' = 0 ∨ ph' = 1) : runE u W H ys ph' k = 0 := by
  unfold runE at h ⊢
  by_cases h1 : tabE t ≠ 0
  · rw [if_pos h1] at h; exact absurd h h1
  · rw [if_neg h1] at h
    rw [if_neg (by omega), if_neg (by omega)]
    by_cases h2 : shapeF W H xs ≠ 0
    · rw [if_pos h2] at h; exact absurd h h2
    · rw [if_neg h2] at h
      by_cases h3 : W % 2 ≠ 0 ∨ H % 2 ≠ 0
      · rw [if_pos h3] at h; omega
      · rw [if_neg h3] at h ⊢
        by_cases h4 : ph ≠ 0 ∧ ph ≠ 1
        · rw [if_pos h4] at h; omega
        · rw [if_neg h4] at h
          rw [if_neg (by omega)]
          exact h
theorem runL8_shape {t xs : List Int} {W H ph n : Nat} (hW : W ≤ 100) (hH : H ≤ 100) (hx : ∀ i, 0 ≤ xs.getD i 0 ∧ xs.getD i 0 ≤ 1) : shapeF (W : Int) (H : Int) (runL8 t W H ph xs n) = 0 ∧ (∀ i, 0 ≤ (runL8 t W H ph xs n).getD i 0 ∧ (runL8 t W H ph xs n).getD i 0 ≤ 1) ∧ (runL8 t W H ph xs n).length = W * H := by
  have l : (runL8 t W H ph xs n).length = W * H := by simp [runL8]
  have b : ∀ i, 0 ≤ (runL8 t W H ph xs n).getD i 0 ∧ (runL8 t W H ph xs n).getD i 0 ≤ 1 := map_bits (fun i => runB_le (cf_le hx) n i)
  exact ⟨shape_ofB hW hH l b, b, l⟩
theorem runE_turned {t xs : List Int} {W H : Nat} {ph k : Int} (h : runE t (W : Int) (H : Int) xs ph k = 0) (hW : W ≤ 100) (hH : H ≤ 100) (hx : ∀ i, 0 ≤ xs.getD i 0 ∧ xs.getD i 0 ≤ 1) : runE t (H : Int) (W : Int) (qtrP W H xs) ph k = 0 := by
  have s : shapeF (H : Int) (W : Int) (qtrP W H xs) = 0 := shape_ofB hH hW (by simp [qtrP]) (fun i => by
    unfold qtrP
    by_cases hi : i < H * W
    · rw [getD_map _ hi]; exact hx _
    · rw [getD_far _ hi]; omega)
  exact runE_swap h s
set_option maxRecDepth 100000 in
set_option maxHeartbeats 6400000 in
theorem law_bb_bad (t : List Int) (b : Option Addr) (m d : Nat) (W H : Int) (xs : List Int) (a : Option Addr) (n c : Nat) (ph k : Int) (w : World) (hT : ArgP w t b m d) (hP : ArgP w xs a n c) (f0 : runE t W H xs ph k ≠ 0) :
    Calls Try.prog 3 #[.slice b m d, .agg #[.int .i64 W, .int .i64 H, .slice a n c], .int .i64 ph, .int .i64 k] w fun e w' => e = .returned (.bool true) ∧ Below w.heap.size w w' := by
  obtain ⟨w1, hw1⟩ : ∃ w1, w.alloc (.cells #[.int .i64 W, .int .i64 H, .slice a n c] 24) = w1 := ⟨_, rfl⟩
  have BB := hide' (show Below w.heap.size w w1 by rw [← hw1]; exact (Below.refl _ _).alloc (Nat.le_refl _) _)
  have g1 : w1.heap[w.heap.size]? = some (.cells #[.int .i64 W, .int .i64 H, .slice a n c] 24 (0, 0)) := by rw [← hw1]; exact heap_alloc_new _ _
  have SV := hide' (fun (V : World) (h : Below w1.heap.size w1 V) => show V.cell? ⟨w.heap.size, 0, none⟩ = some (.int .i64 W) ∧ V.cell? ⟨w.heap.size, 1, none⟩ = some (.int .i64 H) ∧ V.cell? ⟨w.heap.size, 2, none⟩ = some (.slice a n c) from by
    have e1 := (h.block _ (lt_of_block g1)).trans g1
    exact ⟨cell_of_row V _ 0 _ _ _ e1, cell_of_row V _ 1 _ _ _ e1, cell_of_row V _ 2 _ _ _ e1⟩)
  have BW := hide' (fun (V : World) (h : Below w1.heap.size w1 V) => BB.out.trans (h.mono BB.out.size))
  have C0 := hide' ((Below.refl w1.heap.size w1).alloc (Nat.le_refl _) (.cells #[.int .i64 0, .int .i64 8, .int .i64 4, .int .i64 3, .int .i64 2, .int .i64 5, .int .i64 9, .int .i64 7, .int .i64 1, .int .i64 6, .int .i64 10, .int .i64 11, .int .i64 12, .int .i64 13, .int .i64 14, .int .i64 15] 3))
  have GB := hide' (show (w1.alloc (.cells #[.int .i64 0, .int .i64 8, .int .i64 4, .int .i64 3, .int .i64 2, .int .i64 5, .int .i64 9, .int .i64 7, .int .i64 1, .int .i64 6, .int .i64 10, .int .i64 11, .int .i64 12, .int .i64 13, .int .i64 14, .int .i64 15] 3)).heap[w1.heap.size]? = some (.cells #[.int .i64 0, .int .i64 8, .int .i64 4, .int .i64 3, .int .i64 2, .int .i64 5, .int .i64 9, .int .i64 7, .int .i64 1, .int .i64 6, .int .i64 10, .int .i64 11, .int .i64 12, .int .i64 13, .int .i64 14, .int .i64 15] 3 (0, 0)) from heap_alloc_new _ _)
  have RB := hide' (fun (V : World) (h : Below w1.heap.size w1 V) => run_bad t b m d W H xs a n c ph k V (hT.below (BW.out V h)) (hP.below (BW.out V h)) f0)
  have ER := hide' (errOf_posB f0)
  clear hT hP f0
  clear g1
  go_enter Try.func3, Try.ntmps3
  go_upto_region 1 with fail
  clear hw1
  go_wp2_with fail
  refine (fact8 _ _ GB.out).mono ?_
  rintro e w2 ⟨⟨g2, rfl, k8⟩, b⟩
  have C1 := hide' (C0.out.trans (b.mono C0.out.size))
  clear b C0 GB
  go_upto_region 4 with fail
  clear k8
  obtain ⟨x0, x1, x2⟩ := SV.out _ C1.out
  go_wp2_with fail
  refine (RB.out w2 C1.out).mono ?_
  unfold RunBad
  rw [ER.out]
  rintro e w3 ⟨rfl, b3⟩
  have C2 := hide' ((C1.out.trans (b3.mono C1.out.size)).alloc (by have := C1.out.size; have := b3.size; omega) (.cells #[.int .i64 0, .int .i64 0, .slice none 0 0] 24))
  clear b3 x0 x1 x2
  go_wp2
  go_ret
  exact ⟨rfl, BW.out _ C2.out⟩
end Go.Proofs.Ytfeddccbhmbkmaa

