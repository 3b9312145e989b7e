/-
  What the last text of this claim leans on, part 37: Wf4.
-/
import Derived.Test.YtemhcpldflcfbaaGreatDoorZj36
namespace Go.Proofs.YtemhcpldflcfbaaGreatDoor
open Go.RowKit
set_option linter.unusedVariables false
theorem wrap_big (n : Nat) (h : n ≤ 1000000000) : IntKind.i64.wrap (n : Int) = (n : Int) := by
 rw [IntKind.wrap_i64]; omega
set_option maxRecDepth 100000 in
set_option maxHeartbeats 6400000 in
theorem refTrimL (W H : Nat) (xs : List Int) (a : Option Addr) (n c : Nat) (w : World) (hP : ArgP w xs a n c) (lW : W ≤ 8400) (lH : H ≤ 8400) (hn : n = W * H) :
  Calls Tryz.prog 63 #[.agg #[.int .i64 (W : Int), .int .i64 (H : Int), .slice a n c]] w (RefTrimPost ⟨W, H, xs⟩ w) := by
 have hN4 : n ≤ 70560000 := by rw [hn]; exact Nat.mul_le_mul lW lH
 have HP := hide' hP
 have HL := hide' hP.len
 have HN := hide' hn
 have AP := hide' ((hP.alloc (.cells #[.int .i64 (W : Int), .int .i64 (H : Int), .slice a n c] 26)).alloc (.cells #[.int .i64 0, .int .i64 0, .slice none 0 0] 26))
 clear hP hn
 go_enter Tryz.func63, Tryz.ntmps63
 go_wp2
 go_loop [5, 6, 7, 8, 9] (fun lv rv tv bv yv => ∃ y : Nat, yv = .int .i64 (y : Int) ∧ y ≤ H ∧ lv = .int .i64 ((bbx W H xs (y * W)).l : Int) ∧ rv = .int .i64 (((bbx W H xs (y * W)).r : Int) - 1) ∧ tv = .int .i64 ((bbx W H xs (y * W)).t : Int) ∧ bv = .int .i64 (((bbx W H xs (y * W)).b : Int) - 1)) (fun _ _ _ _ yv => H - (intOf yv).toNat)
 case atStart => exact ⟨0, rfl, by omega, by rw [Nat.zero_mul]; rfl, by rw [Nat.zero_mul]; rfl, by rw [Nat.zero_mul]; rfl, by rw [Nat.zero_mul]; rfl⟩
 case round =>
  obtain ⟨y, rfl, hy, rfl, rfl, rfl, rfl⟩ := hrel
  by_cases d : (y : Int) < (H : Int)
  ·go_wp2
   go_loop [5, 6, 7, 8, 10] (fun lv rv tv bv xv => ∃ x : Nat, xv = .int .i64 (x : Int) ∧ x ≤ W ∧ lv = .int .i64 ((bbx W H xs (y * W + x)).l : Int) ∧ rv = .int .i64 (((bbx W H xs (y * W + x)).r : Int) - 1) ∧ tv = .int .i64 ((bbx W H xs (y * W + x)).t : Int) ∧ bv = .int .i64 (((bbx W H xs (y * W + x)).b : Int) - 1)) (fun _ _ _ _ xv => W - (intOf xv).toNat)
   case atStart => exact ⟨0, rfl, by omega, rfl, rfl, rfl, rfl⟩
   case round =>
    obtain ⟨x, rfl, hx, rfl, rfl, rfl, rfl⟩ := hrel
    by_cases e : (x : Int) < (W : Int)
    ·have hm : y * W + x < W * H := mk_lt (by omega) (by omega)
     obtain ⟨PP, hPP⟩ : ∃ PP, y * W = PP := ⟨_, rfl⟩
     have q1 : (y : Int) * (W : Int) = (PP : Int) := by rw [← hPP]; simp
     have hxl : PP + x < xs.length := by rw [← HL.out, HN.out, ← hPP]; exact hm
     have hxn : PP + x < n := by rw [HN.out, ← hPP]; exact hm
     obtain ⟨ga, off, rfl, hga, hc⟩ := AP.out.cells (PP + x) hxl
     obtain ⟨z, hz⟩ : ∃ z, xs[PP + x] = z := ⟨_, rfl⟩
     rw [hz] at hc
     have HZ := hide' (show xs.getD (y * W + x) 0 = z by rw [hPP, ← hz]; simp [List.getD, hxl])
     obtain ⟨dd, mm⟩ := divmod_mk W y x (by omega)
     have DM := hide' (And.intro dd mm)
     have BL := hide' (bbx_le W H xs (y * W + x) (by omega))
     obtain ⟨Q, hQ⟩ : ∃ Q, bbx W H xs (y * W + x) = Q := ⟨_, rfl⟩
     have HQ := hide' hQ
     obtain ⟨b1, b2, b3, b4, -⟩ := BL.out
     rw [hQ] at b1 b2 b3 b4 ⊢
     obtain ⟨L, T, R, B⟩ := Q
     dsimp only at b1 b2 b3 b4 ⊢
     clear hz hQ hPP dd mm BL
     by_cases z1 : z = 1
     ·have m1 : (z == 1) = true := by simp [z1]
      have STEP := hide' (show bbx W H xs (y * W + (x + 1)) = ⟨min L x, min T y, max R (x + 1), max B (y + 1)⟩ by rw [← Nat.add_assoc, bbx_yes (by rw [HZ.out]; exact z1), DM.out.1, DM.out.2, HQ.out])
      clear z1
      by_cases c1 : x < L <;> by_cases c2 : R ≤ x <;> by_cases c3 : y < T <;> by_cases c4 : B ≤ y
      all_goals
       (first | have i1 : (x : Int) < (L : Int) := by omega | have i1 : ¬ (x : Int) < (L : Int) := by omega)
       (first | have i2 : (R : Int) - 1 < (x : Int) := by omega | have i2 : ¬ (R : Int) - 1 < (x : Int) := by omega)
       (first | have i3 : (y : Int) < (T : Int) := by omega | have i3 : ¬ (y : Int) < (T : Int) := by omega)
       (first | have i4 : (B : Int) - 1 < (y : Int) := by omega | have i4 : ¬ (B : Int) - 1 < (y : Int) := by omega)
       go_wp2
       refine ⟨⟨x + 1, by go_num, by omega, ?_, ?_, ?_, ?_⟩, by simp [intOf]; omega⟩
       all_goals (rw [STEP.out]; dsimp only; congr 1; omega)
     ·have m1 : (z == 1) = false := by simp [z1]
      have STEP := hide' (show bbx W H xs (y * W + (x + 1)) = ⟨L, T, R, B⟩ by rw [← Nat.add_assoc, bbx_no (by rw [HZ.out]; exact z1), HQ.out])
      clear z1
      go_wp2
      refine ⟨⟨x + 1, by go_num, by omega, ?_, ?_, ?_, ?_⟩, by simp [intOf]; omega⟩
      all_goals (rw [STEP.out])
    ·have X := hide' (show x = W by omega)
     go_wp2
     refine ⟨⟨y + 1, by go_num, by omega, ?_, ?_, ?_, ?_⟩, by simp [intOf]; omega⟩
     all_goals (rw [X.out, Nat.add_mul, Nat.one_mul])
  ·have Y := hide' (show y * W = W * H by rw [show y = H by omega, Nat.mul_comm])
   have BL := hide' (bbx_le W H xs (W * H) (Nat.le_refl _))
   obtain ⟨Q, hQ⟩ : ∃ Q, bbx W H xs (W * H) = Q := ⟨_, rfl⟩
   have HQ := hide' hQ
   obtain ⟨b1, b2, b3, b4, b5⟩ := BL.out
   rw [Y.out, hQ]
   rw [hQ] at b1 b2 b3 b4 b5
   obtain ⟨L, T, R, B⟩ := Q
   dsimp only at b1 b2 b3 b4 b5 ⊢
   clear hQ BL
   by_cases r0 : R = 0
   ·have i1 : (R : Int) - 1 < 0 := by omega
    have TR := hide' (show trimP ⟨W, H, xs⟩ = (⟨0, 0, []⟩, 0, 0) by unfold trimP; dsimp only; rw [HQ.out, if_pos r0])
    clear r0 b5
    go_wp2
    refine bodyPost_ret (v := .tuple #[.agg #[.int .i64 0, .int .i64 0, .slice none 0 0], .int .i64 0, .int .i64 0]) (by simp [results, Tryz.results63, go_sem]) rfl ?_
    refine ⟨.slice none 0 0, by rw [TR.out]; rfl, by rw [TR.out]; exact Or.inl ⟨rfl, rfl⟩, Fresh.nil _, ?_⟩
    exact ((Below.refl _ _).alloc (Nat.le_refl _) _).alloc (by simp) _
   ·have i1 : ¬ (R : Int) - 1 < 0 := by omega
    obtain ⟨hLR, hTB⟩ : L < R ∧ T < B := by omega
    obtain ⟨V, hV⟩ : ∃ V, V = R - L := ⟨_, rfl⟩
    obtain ⟨U, hU⟩ : ∃ U, U = B - T := ⟨_, rfl⟩
    have q1 : (R : Int) - 1 - (L : Int) + 1 = (V : Int) := by omega
    have q2 : (B : Int) - 1 - (T : Int) + 1 = (U : Int) := by omega
    have TR := hide' (show trimP ⟨W, H, xs⟩ = (⟨V, U, winP W L T V (V * U) xs⟩, L, T) by unfold trimP; dsimp only; rw [HQ.out, if_neg r0, hV, hU])
    have hVR : L + V = R := by omega
    have hUB : T + U = B := by omega
    have HV := hide' hVR
    have HU := hide' hUB
    have S0 := hide' (RT.start w W H V U a n c 26 26 26)
    obtain ⟨i0, hi, hz0, hz1, hz2⟩ := info_parts info_int
    clear r0 b5 hV hU hVR hUB
    go_wp2
    go_loopw [12] (fun yv wr => ∃ (j Yy : Nat) (v : Value), yv = .int .i64 (Yy : Int) ∧ Hid (Yy = T + j) ∧ j ≤ U ∧ RT w wr W H V U a n c v (winPre W L T V (j * V) xs)) (fun yv _ => B - (intOf yv).toNat)
    case atStart => exact ⟨0, T, .slice none 0 0, rfl, hide' (by omega), by omega, by rw [Nat.zero_mul]; exact S0.out⟩
    case round =>
     obtain ⟨j, Yy, v, rfl, HYy, hj, rt⟩ := hrel
     have R2 := hide' rt
     clear rt S0
     by_cases d2 : (Yy : Int) ≤ (B : Int) - 1
     ·go_wp2
      go_loopw [13] (fun xv wx => ∃ (i Xx : Nat) (v : Value), xv = .int .i64 (Xx : Int) ∧ Hid (Xx = L + i) ∧ i ≤ V ∧ RT w wx W H V U a n c v (winPre W L T V (j * V + i) xs)) (fun xv _ => R - (intOf xv).toNat)
      case atStart => exact ⟨0, L, v, rfl, hide' (by omega), by omega, R2.out⟩
      case round =>
       obtain ⟨i, Xx, v, rfl, HXx, hi', rt⟩ := hrel
       have S := hide' rt
       have x0 := rt.box.c0
       have x2 := rt.box.c2
       have y2 := rt.q.c2
       have yf := rt.q.fz 2
       have hsz := rt.sz
       have ho := rt.own
       obtain ⟨sa, sn, sc, rfl⟩ := ownsRow_slice ho
       clear rt R2
       by_cases e2 : (Xx : Int) ≤ (R : Int) - 1
       ·have hiV : i < V := by have := HXx.out; have := HV.out; omega
        have hjU : j < U := by have := HYy.out; have := HU.out; omega
        obtain ⟨PP, hPP⟩ : ∃ PP, Yy * W = PP := ⟨_, rfl⟩
        have q3 : (Yy : Int) * (W : Int) = (PP : Int) := by rw [← hPP]; simp
        obtain ⟨G, hG⟩ : ∃ G, PP + Xx = G := ⟨_, rfl⟩
        have q4 : (PP : Int) + (Xx : Int) = (G : Int) := by omega
        have hGn : G < n := by
         rw [← hG, ← hPP, HN.out]
         exact mk_lt (by have := HXx.out; have := HV.out; omega) (by have := HYy.out; have := HU.out; omega)
        have hGl : G < xs.length := by rw [← HL.out]; exact hGn
        obtain ⟨ga, off, rfl, hga, hc⟩ := (HP.out.below S.out.below).cells G hGl
        obtain ⟨z, hz⟩ : ∃ z, xs[G] = z := ⟨_, rfl⟩
        rw [hz] at hc
        have HZ := hide' (show xs.getD ((T + j) * W + (L + i)) 0 = z by rw [← HYy.out, ← HXx.out, hPP, hG, ← hz]; simp [List.getD, hGl])
        have v1 : IntKind.i64.wrap (PP : Int) = (PP : Int) := wrap_big PP (by omega)
        have v2 : IntKind.i64.wrap (G : Int) = (G : Int) := wrap_big G (by omega)
        have hlen : j * V + i < 70560000 := by
         have h1 := mk_lt hiV hjU
         have h2 := Nat.mul_le_mul (show V ≤ 8400 by have := HV.out; omega) (show U ≤ 8400 by have := HU.out; omega)
         omega
        have HLE := hide' (winPre_length W L T V (j * V + i) xs)
        have OW := hide' ((ho.alloc (.cells #[.int .i64 z] 3)).drew)
        have NB := hide' (World.news_of_block (w := (wr.alloc (.cells #[.int .i64 z] 3)).drew) (cs := #[.int .i64 z]) (t := 3) (fr := (0, 0)) (heap_alloc_new wr _))
        have d6 : ∀ o, (wr.alloc o).cell? ⟨w.heap.size + 2, 2, none⟩ = some (.slice sa sn sc) := fun o => (World.cell?_alloc_lt wr o ⟨w.heap.size + 2, 2, none⟩ (by simp; omega)).trans y2
        have d7 : ∀ o, (wr.alloc o).cell? ⟨w.heap.size + 1 + 1, 2, none⟩ = some (.slice sa sn sc) := d6
        clear ho hz hG hPP
        go_wp2
        go_region_law (refine step_append_lies _ (by rfl) _ _ _ (by rfl) (w.heap.size + 3) 3 i0 _ 1 8 Tryz.underlying22 hi hz0 hz1 hz2 rfl (by omega) (.slice sa sn sc) _ _ (by rfl) OW.out ⟨wr.heap.size, 0, none⟩ 1 1 [.int .i64 z] (by rfl) (by rfl) NB.out (by simp [Value.oneCell']) (by omega) (by rw [HLE.out]; unfold maxLen; omega) (by rw [HLE.out]; omega) (by simp; omega) (wr.heap.size + 1) (by simp) ?_; intro gg cap w4 hown1 hgrow hat hlt; have x5 := (S.out.mid z (grownBy_drew hgrow)).1; have x6 := (S.out.mid z (grownBy_drew hgrow)).2; have G3 := hide' (grownBy_drew hgrow); have O3 := hide' hown1; clear hgrow hown1 hat hlt)
        all_goals
         go_wp2
         refine ⟨⟨i + 1, Xx + 1, .slice (some ⟨gg, 0, none⟩) ((winPre W L T V (j * V + i) xs).length + 1) cap, by go_num, hide' (by have := HXx.out; omega), by omega, ?_⟩, by simp [intOf]; omega⟩
         have hp := S.out.push z G3.out O3.out
         rw [winPre_step _ _ _ _ _ _ _ hiV, HZ.out]
         exact hp
       ·have X := hide' (show i = V by have := HXx.out; have := HV.out; omega)
        go_wp2
        refine ⟨⟨j + 1, Yy + 1, .slice sa sn sc, by go_num, hide' (by have := HYy.out; omega), by have := HYy.out; have := HU.out; omega, ?_⟩, by simp [intOf]; omega⟩
        have := S.out
        rw [X.out] at this
        rw [Nat.add_mul, Nat.one_mul]
        exact this
     ·have J := hide' (show j = U by have := HYy.out; have := HU.out; omega)
      obtain ⟨sa, sn, sc, rfl⟩ := ownsRow_slice R2.out.own
      obtain ⟨o0, o1, o2, -⟩ := R2.out.q
      obtain ⟨r0, r1, r2, rf⟩ := R2.out.res
      have f0 := rf 0
      have f1 := rf 1
      have f2 := rf 2
      clear rf
      go_wp2
      refine bodyPost_ret (v := .tuple #[.agg #[.int .i64 (V : Int), .int .i64 (U : Int), .slice sa sn sc], .int .i64 (L : Int), .int .i64 (T : Int)]) (by simp [results, Tryz.results63, go_sem, r0, r1, r2]) rfl ?_
      refine ⟨.slice sa sn sc, by rw [TR.out], ?_, fresh_own R2.out.own (by omega), ((R2.out.below.setCell (by simp) _).setCell (by simp) _).setCell (by simp) _⟩
      have h := R2.out.own
      rw [J.out, show winPre W L T V (U * V) xs = winP W L T V (V * U) xs by rw [Nat.mul_comm]; rfl] at h
      rw [TR.out]
      exact ownsRow_tab (ownsRow_setCell_below (ownsRow_setCell_below (ownsRow_setCell_below h (a := ⟨w.heap.size + 1, 0, none⟩) (by simp) _) (a := ⟨w.heap.size + 1, 1, none⟩) (by simp) _) (a := ⟨w.heap.size + 1, 2, none⟩) (by simp) _)
theorem refTrimB (W H : Nat) (xs : List Int) (a : Option Addr) (n c : Nat) (w : World) (hP : ArgP w xs a n c) (lW : W ≤ 102) (lH : H ≤ 102) (hn : n = W * H) :
  Calls Tryz.prog 63 #[.agg #[.int .i64 (W : Int), .int .i64 (H : Int), .slice a n c]] w (RefTrimPost ⟨W, H, xs⟩ w) := refTrimL W H xs a n c w hP (by omega) (by omega) hn
end Go.Proofs.YtemhcpldflcfbaaGreatDoor
