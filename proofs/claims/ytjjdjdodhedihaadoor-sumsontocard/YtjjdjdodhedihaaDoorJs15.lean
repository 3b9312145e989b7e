/-
  What the last text of this claim leans on, part 15: Oc8.
-/
import Derived.Test.YtjjdjdodhedihaaDoorJs13
namespace Go.Proofs.YtjjdjdodhedihaaDoor
open Go.RowKit Go.Shelf
set_option linter.unusedVariables false
attribute [local go_sem] Oper.semAt_some
attribute [local go_sem] run_store_func

/-- What rings wants, what twins wants, of a way from a pair of places. -/
def wantRf (S n x y : Nat) (u c : Nat × Nat) : Bool := wantR x y ((u.1 * S + c.1) % n) ((u.2 * S + c.2) % n) c.1 c.2
set_option maxRecDepth 100000 in
set_option maxHeartbeats 12800000 in
theorem searchR_any (S R n : Nat) (T : List Int) (ta : Option Addr) (tn tc g0 sc : Nat) (sts : List (Nat × Nat)) (x y pst : Nat) (w : World) (hn : 0 < n) (hn16 : n ≤ 16) (hS : 2 ≤ S) (hS4 : S ≤ 4) (htn : tn = n * S) (hT : ArgP w T ta tn tc) (hta : ∀ g off, ta = some ⟨g, off, none⟩ → g < w.heap.size)
    (hP : PC w g0 sts.length (prAt sts)) (hsl : sts.length ≤ 256) (hsr : ∀ u ∈ sts, u.1 < n ∧ u.2 < n) (hW : PB pst x y w) :
    Calls Tryd.prog 77 #[.agg #[.int .i64 (S : Int), .int .i64 (2 * (R : Int)), .int .i64 (n : Int), .slice ta tn tc], .slice (some ⟨g0, 0, none⟩) sts.length sc, (.func (.func 83) #[] #[.pointer (some ⟨pst, 0, none⟩)])] w (SearchPost S n T sts (wantRf S n x y) w) := by
  have hmf : ∀ (fn : Fn) (first cap : Array Value) (w : World), (Instr.makeFunc fn first cap).run Tryd.prog w = .ok (.func fn first cap) w := fun _ _ _ _ => rfl
  obtain ⟨N, hN⟩ : ∃ N, n * n = N := ⟨_, rfl⟩
  have n256 : N ≤ 256 := by rw [← hN]; exact Nat.mul_le_mul hn16 hn16
  have q1 : (n : Int) * (n : Int) = (N : Int) := by rw [← hN]; simp
  have hmk := run_make_row' (P := Tryd.prog) 90 4 (.bool false) 1 Tryd.underlying90 info_bool rfl .i64 .i64 N (by omega) (by omega)
  have S0 := hide' (SS.start w S R n (.slice ta tn tc) (.func (.func 83) #[] #[.pointer (some ⟨pst, 0, none⟩)]))
  rw [hN] at S0
  have HTN := hide' htn
  have HT := hide' hT
  have HTA := hide' hta
  have HP := hide' hP
  have HSR := hide' hsr
  have HSP := hide' (show ∀ j, j < sts.length → (prAt sts j).1 < n ∧ (prAt sts j).2 < n from fun j hj => by
    rw [show prAt sts j = sts[j] by simp [prAt, List.getD, hj]]
    exact hsr _ (List.getElem_mem hj))
  have HW := hide' hW
  clear htn hT hta hP hsr hW
  have HN := hide' hN
  clear hN
  obtain ⟨PP, hPP⟩ : ∃ PP, SearchPost S n T sts (wantRf S n x y) w = PP := ⟨_, rfl⟩
  have HPP := hide' hPP
  rw [hPP]
  clear hPP
  refine (callsIn_wide (n := 9)).1 ?_
  refine callsIn_of_wp_marks Tryd.func77 rfl trivial ?_
  simp only [Tryd.ntmps77, List.size_toArray, List.length_cons, List.length_nil, Nat.reduceAdd, Nat.reduceSub, Array.replicate_succ, Array.replicate_zero, List.push_toArray, List.append_toArray, List.nil_append, List.cons_append]
  gi_wp2
  gi_loopw [24] (fun iv wr => ∃ (k : Nat) (sn : List Bool) (st : List Stp), iv = .int .i64 (k : Int) ∧ k ≤ sts.length ∧ Hid (SS w wr S R n (.slice ta tn tc) (.func (.func 83) #[] #[.pointer (some ⟨pst, 0, none⟩)]) sn st ∧ Inv S n T sts sn st ∧ ∀ j, j < k → wasSeen n sn (prAt sts j).1 (prAt sts j).2 = true)) (fun iv _ => sts.length - (intOf iv).toNat)
  case atStart => exact ⟨0, _, _, rfl, by omega, hide' ⟨by rw [← HN.out] at S0; rw [← HN.out]; exact S0.out, Inv.start S n T sts, fun j hj => by omega⟩⟩
  case round =>
    clear S0 hmk
    obtain ⟨k, sn, st, rfl, hk, H1⟩ := hrel
    by_cases d : (k : Int) < (sts.length : Int)
    · obtain ⟨u, hu⟩ : ∃ u, prAt sts k = u := ⟨_, rfl⟩
      have UR := hide' (show u.1 < n ∧ u.2 < n by rw [← hu]; exact HSP.out k (by omega))
      have c0 := (HP.out.belowW H1.out.1.bl).c0 k (by omega)
      have c1 := (HP.out.belowW H1.out.1.bl).c1 k (by omega)
      rw [hu] at c0 c1
      have UM := hide' (show u ∈ sts by
        have hk' : k < sts.length := by omega
        have e : prAt sts k = sts[k] := by simp [prAt, List.getD, hk']
        rw [← hu, e]
        exact List.getElem_mem hk')
      have HU := hide' hu
      obtain ⟨w1, hw1⟩ : ∃ w1, wr.alloc (.cells #[.int .i64 (u.1 : Int), .int .i64 (u.2 : Int)] 127) = w1 := ⟨_, rfl⟩
      have BB := hide' (show Below wr.heap.size wr w1 by rw [← hw1]; exact (Below.refl _ _).alloc (Nat.le_refl _) _)
      have X1 := hide' (show Blk w1 wr.heap.size #[.int .i64 (u.1 : Int), .int .i64 (u.2 : Int)] 127 by rw [← hw1]; exact Blk.new _ _ _)
      have S1 := hide' (H1.out.1.next BB.out)
      have IV := hide' H1.out.2
      have d0 : w1.cell? ⟨wr.heap.size, 0, none⟩ = some (.int .i64 (u.1 : Int)) := X1.out.cell 0
      have d1 : w1.cell? ⟨wr.heap.size, 1, none⟩ = some (.int .i64 (u.2 : Int)) := X1.out.cell 1
      have v0 : w1.cell? ⟨w.heap.size + 7, 0, none⟩ = some (.func (.func 106) #[] #[.pointer (some ⟨w.heap.size, 0, none⟩), .pointer (some ⟨w.heap.size + 5, 0, none⟩), .pointer (some ⟨w.heap.size + 6, 0, none⟩)]) := S1.out.vb.cell 0
      clear hu H1
      gi_wp2_with fail
      refine ⟨trivial, (callsIn_wide.2 (visit_any S R n (.slice ta tn tc) w.heap.size (w.heap.size + 5) (w.heap.size + 4) (w.heap.size + 6) w.heap.size sn st ⟨u.1, u.2, 0, 0, -1⟩ w1 S1.out.vs (by have := S1.out.sz; omega) UR.out.1 UR.out.2 hn16 (by have := IV.out.1.bound; have := HN.out; omega))).mono ?_⟩
      unfold VisitPost
      rintro e w2 ⟨rfl, v2, k2⟩
      have H2 := hide' (show SS w w2 S R n (.slice ta tn tc) (.func (.func 83) #[] #[.pointer (some ⟨pst, 0, none⟩)]) (snAfter n sn ⟨u.1, u.2, 0, 0, -1⟩) (stAfter n sn st ⟨u.1, u.2, 0, 0, -1⟩) ∧ Inv S n T sts (snAfter n sn ⟨u.1, u.2, 0, 0, -1⟩) (stAfter n sn st ⟨u.1, u.2, 0, 0, -1⟩) ∧ ∀ j, j < k + 1 → wasSeen n (snAfter n sn ⟨u.1, u.2, 0, 0, -1⟩) (prAt sts j).1 (prAt sts j).2 = true from
        ⟨S1.out.vk v2 k2, IV.out.1.visit ⟨u.1, u.2, 0, 0, -1⟩ UR.out.1 UR.out.2 (Or.inl ⟨by show (-1 : Int) < 0; decide, UM.out⟩), fun j hj => by
          have r := HSP.out j (by omega)
          rw [seen_after IV.out.1.len ⟨u.1, u.2, 0, 0, -1⟩ UR.out.1 UR.out.2 r.1 r.2]
          by_cases q : j = k
          · rw [q, HU.out]; simp
          · rw [IV.out.2 j (by omega)]; simp⟩)
      clear v2 k2 c0 c1 d0 d1 v0 S1 IV X1 BB hw1
      gi_wp2
      exact ⟨⟨k + 1, _, _, by go_num, by omega, H2⟩, by simp [intOf]; omega⟩
    · have H2 := hide' (show SS w wr S R n (.slice ta tn tc) (.func (.func 83) #[] #[.pointer (some ⟨pst, 0, none⟩)]) sn st ∧ Inv S n T sts sn st ∧ ∀ j, j < sts.length → wasSeen n sn (prAt sts j).1 (prAt sts j).2 = true from ⟨H1.out.1, H1.out.2.1, fun j hj => H1.out.2.2 j (by omega)⟩)
      have SZ := hide' H1.out.1.sz
      clear H1
      gi_wp2
      refine wpIn_loop (fun a W => ∃ (i pi : Nat) (ds : List Nat) (sn : List Bool) (st : List Stp) (t0 t1 t2 t4 t8 t11 t12 t14 t15 t16 t17 t18 t19 t20 t21 t22 t23 t24 t25 t26 t27 t28 t29 t30 t31 t32 t33 t34 t35 t36 t37 t38 t39 t40 t41 t42 t43 t44 t45 t46 t47 t48 t49 t50 t51 t52 t53 t54 t55 t56 t57 t58 t59 t60 t61 t62 t63 t64 t65 t66 : Value), a = { tmps := #[t0, t1, t2, .pointer (some ⟨w.heap.size, 0, none⟩), t4, .pointer (some ⟨w.heap.size + 1, 0, none⟩), .pointer (some ⟨w.heap.size + 2, 0, none⟩), .pointer (some ⟨w.heap.size + 3, 0, none⟩), t8, .pointer (some ⟨w.heap.size + 6, 0, none⟩), .pointer (some ⟨w.heap.size + 7, 0, none⟩), t11, t12, .pointer (some ⟨pi, 0, none⟩), t14, t15, t16, t17, t18, t19, t20, t21, t22, t23, t24, t25, t26, t27, t28, t29, t30, t31, t32, t33, t34, t35, t36, t37, t38, t39, t40, t41, t42, t43, t44, t45, t46, t47, t48, t49, t50, t51, t52, t53, t54, t55, t56, t57, t58, t59, t60, t61, t62, t63, t64, t65, t66], defers := ds.map mkD } ∧ Hid (OL w W S R n T (.slice ta tn tc) (.func (.func 83) #[] #[.pointer (some ⟨pst, 0, none⟩)]) sts (wantRf S n x y) i pi ds sn st)) (fun a W => 300 - idxOf a W) ?start ?round
      case start =>
        refine ⟨0, wr.heap.size, [], sn, st, _, _, _, _, _, _, _, _, _, _, _, _, _, _, _, _, _, _, _, _, _, _, _, _, _, _, _, _, _, _, _, _, _, _, _, _, _, _, _, _, _, _, _, _, _, _, _, _, _, _, _, _, _, _, _, _, _, _, _, _, rfl, hide' ⟨H2.out.1.next ((Below.refl _ _).alloc (Nat.le_refl _) _), H2.out.2.1, H2.out.2.2, HSP.out, Blk.new _ _ _, SZ.out, fun j hj => by omega, by omega, fun D hD => by simp at hD, List.nodup_nil, fun D hD => by simp at hD⟩⟩
      case round =>
        clear H2 SZ
        rintro a W ⟨i, pi, ds, sn, st, t0, t1, t2, t4, t8, t11, t12, t14, t15, t16, t17, t18, t19, t20, t21, t22, t23, t24, t25, t26, t27, t28, t29, t30, t31, t32, t33, t34, t35, t36, t37, t38, t39, t40, t41, t42, t43, t44, t45, t46, t47, t48, t49, t50, t51, t52, t53, t54, t55, t56, t57, t58, t59, t60, t61, t62, t63, t64, t65, t66, rfl, O1⟩
        have i0 : W.cell? ⟨pi, 0, none⟩ = some (.int .i64 (i : Int)) := O1.out.ib.cell 0
        have MU := hide' (show idxOf { tmps := #[t0, t1, t2, .pointer (some ⟨w.heap.size, 0, none⟩), t4, .pointer (some ⟨w.heap.size + 1, 0, none⟩), .pointer (some ⟨w.heap.size + 2, 0, none⟩), .pointer (some ⟨w.heap.size + 3, 0, none⟩), t8, .pointer (some ⟨w.heap.size + 6, 0, none⟩), .pointer (some ⟨w.heap.size + 7, 0, none⟩), t11, t12, .pointer (some ⟨pi, 0, none⟩), t14, t15, t16, t17, t18, t19, t20, t21, t22, t23, t24, t25, t26, t27, t28, t29, t30, t31, t32, t33, t34, t35, t36, t37, t38, t39, t40, t41, t42, t43, t44, t45, t46, t47, t48, t49, t50, t51, t52, t53, t54, t55, t56, t57, t58, t59, t60, t61, t62, t63, t64, t65, t66], defers := ds.map mkD } W = i by
          unfold idxOf
          simp [i0])
        rw [MU.out]
        by_cases d : i < st.length
        · obtain ⟨g, cap, tb, sc', hg, hcap, hcur⟩ := O1.out.ss.vs.row (by omega)
          have TB := hide' tb
          have SCX := hide' sc'
          have L256 := hide' (show st.length ≤ 256 by have := O1.out.iv.bound; have := HN.out; omega)
          have l256 : st.length ≤ 256 := L256.out
          have di : (i : Int) < (st.length : Int) := by omega
          have p0 : W.cell? ⟨w.heap.size + 6, 0, none⟩ = some (.slice (some ⟨g, 0, none⟩) st.length cap) := TB.out.cell 0
          obtain ⟨s, hs⟩ : ∃ s, stAt st i = s := ⟨_, rfl⟩
          have HS := hide' hs
          have RG := hide' (show s.p < n ∧ s.q < n by rw [← hs]; exact O1.out.iv.rng i d)
          have s0 : W.cell? ⟨g, i * 5, none⟩ = some (.int .i64 (s.p : Int)) := by have := SCX.out.cells i 0 d (by decide); rw [hs] at this; exact this
          have s1 : W.cell? ⟨g, i * 5 + 1, none⟩ = some (.int .i64 (s.q : Int)) := by have := SCX.out.cells i 1 d (by decide); rw [hs] at this; exact this
          have g0' : W.cell? ⟨w.heap.size, 0, none⟩ = some (.int .i64 (S : Int)) := O1.out.ss.vs.gb.cell 0
          have g1' : W.cell? ⟨w.heap.size, 1, none⟩ = some (.int .i64 (2 * (R : Int))) := O1.out.ss.vs.gb.cell 1
          have g2' : W.cell? ⟨w.heap.size, 2, none⟩ = some (.int .i64 (n : Int)) := O1.out.ss.vs.gb.cell 2
          have g3' : W.cell? ⟨w.heap.size, 3, none⟩ = some (.slice ta tn tc) := O1.out.ss.vs.gb.cell 3
          have S0 := hide' (show SMs w S R n (.slice ta tn tc) g st.length cap pi i s.p s.q W.drew from ⟨g0', g1', g2', g3', p0, i0, s0, s1⟩)
          have WA := hide' (fun (W' : World) => ways_any S R n s.p s.q ta tn tc W')
          clear hs tb sc' hcur
          gi_wp2_with fail
          refine wpIn_wide.2 ?_
          go_region_held3 (fun w' => w'.cell? ⟨w.heap.size, 0, none⟩ = some (.int .i64 (S : Int)) ∧ w'.cell? ⟨w.heap.size, 1, none⟩ = some (.int .i64 (2 * (R : Int))) ∧ w'.cell? ⟨w.heap.size, 2, none⟩ = some (.int .i64 (n : Int)) ∧ w'.cell? ⟨w.heap.size, 3, none⟩ = some (.slice ta tn tc) ∧ w'.cell? ⟨w.heap.size + 6, 0, none⟩ = some (.slice (some ⟨g, 0, none⟩) st.length cap) ∧ w'.cell? ⟨pi, 0, none⟩ = some (.int .i64 (i : Int)) ∧ w'.cell? ⟨g, i * 5, none⟩ = some (.int .i64 (s.p : Int)) ∧ w'.cell? ⟨g, i * 5 + 1, none⟩ = some (.int .i64 (s.q : Int))) (first | exact S0.out | exact S0.out.next B2.out)
            ((go_at_call 107; refine (WA.out _).mono ?_; rintro e W2 ⟨rfl, gb2, pb2, b2, sz2⟩; have B2 := hide' b2; have GB2 := hide' gb2; have PB2 := hide' pb2; have SZ2 := hide' sz2; clear b2 gb2 pb2 sz2))
          have BW := hide' (show Below W.heap.size W W2 from (Below.refl W.heap.size W).drew.trans B2.out)
          have O2 := hide' (O1.out.next BW.out)
          have Sz2 : W2.heap.size = W.heap.size + 2 := SZ2.out
          have wsz := O1.out.ss.sz
          have R0 := hide' (show RI w W2 S R n T (.slice ta tn tc) (.func (.func 83) #[] #[.pointer (some ⟨pst, 0, none⟩)]) sts (wantRf S n x y) i pi W2.heap.size ds s (([] : List (WayAt S T s.p s.q)).map Subtype.val) sn st from ⟨O2.out, d, HS.out, fun c hc => by simp at hc, fun D hD => (Array.getElem?_eq_some_iff.1 (O2.out.dm D hD)).1, Nat.le_refl _, by omega, by have := O1.out.ib.lt; omega⟩)
          have GX := hide' (show Blk W2 W.heap.size #[.int .i64 (S : Int), .int .i64 (2 * (R : Int)), .int .i64 (n : Int), .slice ta tn tc] 79 ∧ Blk W2 (W.heap.size + 1) #[.int .i64 (s.p : Int), .int .i64 (s.q : Int)] 127 from ⟨GB2.out, PB2.out⟩)
          have WIX := hide' (show WI W2 S R n s.p s.q T ta tn tc W.heap.size (W.heap.size + 1) w.heap.size from ⟨GX.out.1.gb, GX.out.2.pb, HT.out.below O2.out.ss.bl⟩)
          clear i0 p0 s0 s1 g0' g1' g2' g3' S0 WA GB2 PB2 SZ2 B2 O2 TB SCX MU
          gi_wp2
          refine wpIn_rangeFunc_ownH (α := WayAt S T s.p s.q) rfl (by decide) (gf := 125) (lb := #[.pointer (some ⟨W.heap.size, 0, none⟩), .pointer (some ⟨W.heap.size + 1, 0, none⟩)]) rfl trivial (enters_of Tryd.func125 (by kernel_rfl) rfl)
            (ways_stops 8 (by decide) S R n s.p s.q T ta tn tc W.heap.size (W.heap.size + 1) w.heap.size hn hn16 hS hS4 HTN.out RG.out.1 RG.out.2 HTA.out W2 WIX.out) (fun h k => h.trans k) (KB.putObj (by omega) (by omega) (by omega)) (Below.refl _ _) (fun _ => rfl)
            (fun pre W' => ∃ sn' st', RI w W' S R n T (.slice ta tn tc) (.func (.func 83) #[] #[.pointer (some ⟨pst, 0, none⟩)]) sts (wantRf S n x y) i pi W2.heap.size ds s (pre.map Subtype.val) sn' st' ∧ Blk W' W.heap.size #[.int .i64 (S : Int), .int .i64 (2 * (R : Int)), .int .i64 (n : Int), .slice ta tn tc] 79 ∧ Blk W' (W.heap.size + 1) #[.int .i64 (s.p : Int), .int .i64 (s.q : Int)] 127)
            (fun c _ W' => c = .ret ∧ ∃ root full g c', FD w W' S n T sts (wantRf S n x y) W2.heap.size ds root full g c')
            (fun pre X Y row hs hg hr => by obtain ⟨a, b, h, h2, h3⟩ := hs; have k := KC.of_grown hg (fun r e => (hr r e).2); exact ⟨a, b, h.own hg hr, k.blk h2, k.blk h3⟩)
            (fun c pre X Y row hs hg hr => by obtain ⟨e, a, b, g', c', h⟩ := hs; exact ⟨e, a, b, g', c', h.own hg hr⟩)
            ⟨sn, st, R0.out, GX.out.1, GX.out.2⟩
            (fun z a' W' => ∃ Bx, (W2.heap.size ≤ Bx ∧ Blk W' Bx #[.int .i64 (s.p : Int), .int .i64 (s.q : Int), .int .i64 (((s.p * S + z.1.1) % n : Nat) : Int), .int .i64 (((s.q * S + z.1.2) % n : Nat) : Int), .int .i64 (z.1.1 : Int), .int .i64 (z.1.2 : Int)] 131) ∧ ∃ (t0 t1 t2 t4 t8 t11 t12 t15 t16 t17 t18 t19 t20 t21 t22 t23 t24 t25 t26 t27 t28 t29 t30 t31 t32 t33 t34 t35 t36 t37 t38 t39 t40 t41 t42 t43 t44 t45 t46 t47 t48 t49 t50 t51 t52 t53 t54 t55 t56 t57 t58 t59 t60 t61 t62 t63 t64 t65 t66 : Value), a' = { tmps := #[t0, t1, t2, .pointer (some ⟨w.heap.size, 0, none⟩), t4, .pointer (some ⟨w.heap.size + 1, 0, none⟩), .pointer (some ⟨w.heap.size + 2, 0, none⟩), .pointer (some ⟨w.heap.size + 3, 0, none⟩), t8, .pointer (some ⟨w.heap.size + 6, 0, none⟩), .pointer (some ⟨w.heap.size + 7, 0, none⟩), t11, t12, .pointer (some ⟨pi, 0, none⟩), .pointer (some ⟨Bx, 0, none⟩), t15, t16, t17, t18, t19, t20, t21, t22, t23, t24, t25, t26, t27, t28, t29, t30, t31, t32, t33, t34, t35, t36, t37, t38, t39, t40, t41, t42, t43, t44, t45, t46, t47, t48, t49, t50, t51, t52, t53, t54, t55, t56, t57, t58, t59, t60, t61, t62, t63, t64, t65, t66], defers := [] })
            (fun z a' _ X Y row hs hg hr => by obtain ⟨Bx, ⟨h1, h2⟩, h3⟩ := hs; exact ⟨Bx, ⟨h1, (KC.of_grown hg (fun r e => (hr r e).2)).blk h2⟩, h3⟩)
            ?assign ?body ?done ?stop
          case assign =>
            rintro l pre z W3 K ⟨sn3, st3, R3', hx1, hx2⟩ hK
            have R3 := hide' R3'
            have HX := hide' (And.intro hx1 hx2)
            have HK := hide' hK
            clear R3' hx1 hx2 hK
            unfold encW
            generalize hna : (s.p * S + z.1.1) % n = na
            generalize hnb : (s.q * S + z.1.2) % n = nb
            have HNA := hide' hna
            have HNB := hide' hnb
            clear hna hnb
            have AL := hide' (show Below W3.heap.size W3 (W3.alloc (.cells #[.int .i64 (s.p : Int), .int .i64 (s.q : Int), .int .i64 (na : Int), .int .i64 (nb : Int), .int .i64 (z.1.1 : Int), .int .i64 (z.1.2 : Int)] 131)) from (Below.refl _ _).alloc (Nat.le_refl _) _)
            gi_wp2
            exact HK.out _ _ (keepsFrom_below AL.out) (KB.below AL.out (by have := HX.out.1.lt; omega) (by have := HX.out.2.lt; omega) (by have := R3.out.ol.ss.sz; omega)) ⟨sn3, st3, R3.out.next AL.out, HX.out.1.of (AL.out.block _ HX.out.1.lt), HX.out.2.of (AL.out.block _ HX.out.2.lt)⟩ ⟨W3.heap.size, ⟨R3.out.sB, by rw [HNA.out, HNB.out]; exact Blk.new _ _ _⟩, _, _, _, _, _, _, _, _, _, _, _, _, _, _, _, _, _, _, _, _, _, _, _, _, _, _, _, _, _, _, _, _, _, _, _, _, _, _, _, _, _, _, _, _, _, _, _, _, _, _, _, _, _, _, _, _, _, _, _, rfl⟩
          case body =>
            rintro l pre ⟨c, hcw⟩ a' W3 hl hr ⟨sn3, st3, R3', hx1, hx2⟩ ⟨Bx, ⟨hBx, bX⟩, t0, t1, t2, t4, t8, t11, t12, t15, t16, t17, t18, t19, t20, t21, t22, t23, t24, t25, t26, t27, t28, t29, t30, t31, t32, t33, t34, t35, t36, t37, t38, t39, t40, t41, t42, t43, t44, t45, t46, t47, t48, t49, t50, t51, t52, t53, t54, t55, t56, t57, t58, t59, t60, t61, t62, t63, t64, t65, t66, rfl⟩ hlt
            have R3 := hide' R3'
            have HX := hide' (And.intro hx1 hx2)
            have BX := hide' bX
            have HC := hide' (show OkWay S T (s.p, s.q) c from hcw)
            have MP := hide' (show (pre ++ [(⟨c, hcw⟩ : WayAt S T s.p s.q)]).map Subtype.val = pre.map Subtype.val ++ [c] by simp)
            obtain ⟨L3, hL3⟩ : ∃ L, st3.length = L := ⟨_, rfl⟩
            have LI := hide' (show i < st3.length ∧ st3.length ≤ 256 from ⟨R3'.lt, by have := R3'.ol.iv.bound; have := HN.out; omega⟩)
            obtain ⟨β, hβ⟩ : ∃ β, (wantRf S n x y) (s.p, s.q) c = β := ⟨_, rfl⟩
            have HB := hide' hβ
            have WC := hide' (wantR_any x y s.p s.q ((s.p * S + c.1) % n) ((s.q * S + c.2) % n) c.1 c.2 pst W3 (HW.out.block (R3.out.ol.ss.bl.block pst HW.out.lt)))
            have WC' := hide' (show Calls Tryd.prog 83 (#[.agg #[.int .i64 (s.p : Int), .int .i64 (s.q : Int), .int .i64 (((s.p * S + c.1) % n : Nat) : Int), .int .i64 (((s.q * S + c.2) % n : Nat) : Int), .int .i64 (c.1 : Int), .int .i64 (c.2 : Int)]] ++ #[.pointer (some ⟨pst, 0, none⟩)]) W3 fun e w' => e = .returned (.bool β) ∧ Below W3.heap.size W3 w' by rw [← hβ]; exact WC.out)
            clear R3' hx1 hx2 bX hr hlt hβ WC
            generalize hna : (s.p * S + c.1) % n = na at BX WC'
            generalize hnb : (s.q * S + c.2) % n = nb at BX WC'
            have HNA := hide' hna
            have HNB := hide' hnb
            clear hna hnb hL3 L3
            have k0 : W3.cell? ⟨Bx, 0, none⟩ = some (.int .i64 (s.p : Int)) := BX.out.cell 0
            have k1 : W3.cell? ⟨Bx, 1, none⟩ = some (.int .i64 (s.q : Int)) := BX.out.cell 1
            have k2 : W3.cell? ⟨Bx, 2, none⟩ = some (.int .i64 (na : Int)) := BX.out.cell 2
            have k3 : W3.cell? ⟨Bx, 3, none⟩ = some (.int .i64 (nb : Int)) := BX.out.cell 3
            have k4 : W3.cell? ⟨Bx, 4, none⟩ = some (.int .i64 (c.1 : Int)) := BX.out.cell 4
            have k5 : W3.cell? ⟨Bx, 5, none⟩ = some (.int .i64 (c.2 : Int)) := BX.out.cell 5
            have kw : W3.cell? ⟨w.heap.size + 1, 0, none⟩ = some (.func (.func 83) #[] #[.pointer (some ⟨pst, 0, none⟩)]) := R3.out.ol.ss.wb.cell 0
            gi_wp2_with fail
            refine ⟨trivial, (CallsIn.inRound l (callsIn_wide.2 WC'.out)).mono ?_⟩
            rintro e W4 ⟨rfl, b4⟩
            have B4 := hide' b4
            have R4 := hide' (R3.out.next b4)
            have BX4 := hide' (BX.out.of (b4.block Bx BX.out.lt))
            have HX4 := hide' (show Blk W4 W.heap.size #[.int .i64 (S : Int), .int .i64 (2 * (R : Int)), .int .i64 (n : Int), .slice ta tn tc] 79 ∧ Blk W4 (W.heap.size + 1) #[.int .i64 (s.p : Int), .int .i64 (s.q : Int)] 127 from ⟨HX.out.1.of (b4.block _ HX.out.1.lt), HX.out.2.of (b4.block _ HX.out.2.lt)⟩)
            clear k0 k1 k2 k3 k4 k5 kw b4 WC' R3 BX
            have k2 : W4.cell? ⟨Bx, 2, none⟩ = some (.int .i64 (na : Int)) := BX4.out.cell 2
            have k3 : W4.cell? ⟨Bx, 3, none⟩ = some (.int .i64 (nb : Int)) := BX4.out.cell 3
            have k4 : W4.cell? ⟨Bx, 4, none⟩ = some (.int .i64 (c.1 : Int)) := BX4.out.cell 4
            have k5 : W4.cell? ⟨Bx, 5, none⟩ = some (.int .i64 (c.2 : Int)) := BX4.out.cell 5
            have ki : W4.cell? ⟨pi, 0, none⟩ = some (.int .i64 (i : Int)) := R4.out.ol.ib.cell 0
            cases β with
            | true =>
              obtain ⟨g4, cap4, tb4, sc4, hg4, hcap4, -⟩ := R4.out.ol.ss.vs.row (by have := LI.out.1; omega)
              have TT := hide' (trailTo_any st3 g4 cap4 i c.1 c.2 W4 sc4 R4.out.ol.iv.chains LI.out.1 LI.out.2)
              have p4 : W4.cell? ⟨w.heap.size + 6, 0, none⟩ = some (.slice (some ⟨g4, 0, none⟩) st3.length cap4) := tb4.cell 0
              obtain ⟨root, hroot⟩ : ∃ r, (chain st3 i).1 = r := ⟨_, rfl⟩
              obtain ⟨full, hfull⟩ : ∃ l, (chain st3 i).2 ++ [c] = l := ⟨_, rfl⟩
              have ER := hide' hroot
              have EF := hide' hfull
              have TT' := hide' (show Calls Tryd.prog 108 #[.slice (some ⟨g4, 0, none⟩) st3.length cap4, .int .i64 (i : Int), .agg #[.int .i64 (c.1 : Int), .int .i64 (c.2 : Int)]] W4 (TrailPost root full W4) by rw [← hroot, ← hfull]; exact TT.out)
              clear tb4 sc4 hroot hfull TT
              gi_wp2_with fail
              refine ⟨trivial, (CallsIn.inRound l (callsIn_wide.2 TT'.out)).mono ?_⟩
              unfold TrailPost
              rintro e W5 ⟨g5, c5, rfl, hg5, hc5, hm5, pc5, b5⟩
              have FDX := hide' (R4.out.found c HC.out HB.out ER.out.symm EF.out.symm LI.out.2 b5 hg5 hc5 hm5 pc5)
              have S5 := hide' (R4.out.ol.ss.next b5)
              clear k2 k3 k4 k5 ki p4 pc5 b5 TT'
              have r0 : W5.cell? ⟨w.heap.size + 2, 0, none⟩ = some (.int .i64 0) := S5.out.r6.cell 0
              have r1 : W5.cell? ⟨w.heap.size + 2, 1, none⟩ = some (.int .i64 0) := S5.out.r6.cell 1
              have r2 : W5.cell? ⟨w.heap.size + 3, 0, none⟩ = some (.slice none 0 0) := S5.out.r7.cell 0
              have f0 := S5.out.r6.frozen 0
              have f1 := S5.out.r6.frozen 1
              have f2 := S5.out.r7.frozen 0
              gi_wp2
              exact ⟨keepsFrom_trans (keepsFrom_below B4.out) FDX.out.2, rfl, root, full, g5, c5, FDX.out.1⟩
            | false =>
              have kv : W4.cell? ⟨w.heap.size + 7, 0, none⟩ = some (.func (.func 106) #[] #[.pointer (some ⟨w.heap.size, 0, none⟩), .pointer (some ⟨w.heap.size + 5, 0, none⟩), .pointer (some ⟨w.heap.size + 6, 0, none⟩)]) := R4.out.ol.ss.vb.cell 0
              have NL := hide' (stepP_lt (S := S) hn (s.p, s.q) c)
              have EU := hide' (show (⟨na, nb, c.1, c.2, (i : Int)⟩ : Stp) = ⟨(stepP S n (s.p, s.q) c).1, (stepP S n (s.p, s.q) c).2, c.1, c.2, (i : Int)⟩ by unfold stepP; rw [← HNA.out, ← HNB.out])
              have VC := hide' (visit_any S R n (.slice ta tn tc) w.heap.size (w.heap.size + 5) (w.heap.size + 4) (w.heap.size + 6) w.heap.size sn3 st3 ⟨na, nb, c.1, c.2, (i : Int)⟩ W4 R4.out.ol.ss.vs (by have := R4.out.ol.ss.sz; omega) (by have := NL.out.1; unfold stepP at this; rw [HNA.out] at this; exact this) (by have := NL.out.2; unfold stepP at this; rw [HNB.out] at this; exact this) hn16 (by have := LI.out.2; omega))
              gi_wp2_with fail
              refine ⟨trivial, (CallsIn.inRound l (callsIn_wide.2 VC.out)).mono ?_⟩
              unfold VisitPost
              rintro e W5 ⟨rfl, v5, K5⟩
              have RV := hide' (R4.out.visited hn c HC.out HB.out EU.out v5 K5)
              have KF := hide' (show KeepsFrom W2.heap.size W3 W5 from keepsFrom_trans (keepsFrom_below B4.out) (by obtain ⟨v, tb, _⟩ := R4.out.ol.ss.vs.tv; exact keepsFrom_vk K5 R4.out.ol.ss.vs.sc tb))
              have KBX := hide' (show KB w.heap.size W.heap.size (W.heap.size + 1) W3 W5 from (KB.below B4.out HX.out.1.lt HX.out.2.lt (by have := R4.out.ol.ss.sz; have := B4.out.size; have := R4.out.wB; have := HX.out.1.lt; omega)).trans (kb_vk K5 HX4.out.1 HX4.out.2 (by decide) (by decide) (by omega) (by omega) (by omega) (by omega)))
              have HX5 := hide' (show Blk W5 W.heap.size #[.int .i64 (S : Int), .int .i64 (2 * (R : Int)), .int .i64 (n : Int), .slice ta tn tc] 79 ∧ Blk W5 (W.heap.size + 1) #[.int .i64 (s.p : Int), .int .i64 (s.q : Int)] 127 from ⟨K5.blk HX4.out.1 (by omega) (by omega) (by decide), K5.blk HX4.out.2 (by omega) (by omega) (by decide)⟩)
              clear k2 k3 k4 k5 ki kv v5 K5 VC
              gi_wp2
              exact ⟨KF.out, KBX.out, _, _, by rw [MP.out]; exact RV.out, HX5.out.1, HX5.out.2⟩
          case done =>
            rintro D xs W5 hD hall ⟨sn5, st5, R5', -, -⟩ hK
            have R5 := hide' R5'
            have HALL := hide' (show ∀ c, OkWay S T (s.p, s.q) c → c ∈ xs.map Subtype.val from fun c hc => List.mem_map.2 ⟨⟨c, hc⟩, hall _, rfl⟩)
            have HKD := hide' hK
            have i5 : W5.cell? ⟨pi, 0, none⟩ = some (.int .i64 (i : Int)) := R5'.ol.ib.cell 0
            have ib : i < 256 := by have := R5'.lt; have := R5'.ol.iv.bound; have := HN.out; omega
            clear R5' hall hK
            have KA := hide' (show Below W5.heap.size W5 (W5.alloc (.cells #[.int .i64 ((i : Int) + 1)] 3)) from (Below.refl _ _).alloc (Nat.le_refl _) _)
            have BN := hide' (show Blk (W5.alloc (.cells #[.int .i64 ((i : Int) + 1)] 3)) W5.heap.size #[.int .i64 ((i + 1 : Nat) : Int)] 3 from Blk.new W5 _ _)
            gi_wp2
            refine ⟨⟨i + 1, W5.heap.size, D :: ds, sn5, st5, _, _, _, _, _, _, _, _, _, _, _, _, _, _, _, _, _, _, _, _, _, _, _, _, _, _, _, _, _, _, _, _, _, _, _, _, _, _, _, _, _, _, _, _, _, _, _, _, _, _, _, _, _, _, _, _, _, _, _, _, rfl, hide' (R5.out.closed HALL.out hD HKD.out KA.out BN.out)⟩, ?_⟩
            have e5 : (W5.alloc (.cells #[.int .i64 ((i : Int) + 1)] 3)).cell? ⟨W5.heap.size, 0, none⟩ = some (.int .i64 ((i : Int) + 1)) := BN.out.cell 0
            unfold idxOf
            first
              | (simp [e5]; omega)
              | (simp; omega)
          case stop =>
            rintro D c pre W5 hD _ ⟨rfl, root, full, g', c', FDx⟩ hK
            have FX := hide' FDx
            have HKD := hide' hK
            have h0 : 0 < full.length := by obtain ⟨cs, dd, e, _⟩ := FDx.wa; rw [e]; simp
            clear FDx hK
            gi_wp2
            show LeavesInM _ _ _ _ _ _ ((D :: ds).map mkD) _ _
            refine leaves_marks (v := .tuple #[.agg #[.int .i64 (root.1 : Int), .int .i64 (root.2 : Int)], .slice (some ⟨g', 0, none⟩) full.length c']) (B := w.heap.size) (D :: ds) W5 (List.nodup_cons.2 ⟨fun q => by have := FX.out.dB D q; omega, FX.out.nd⟩) (fun E hE => (List.mem_cons.1 hE).elim (fun e => by rw [e]; exact HKD.out) (FX.out.dm E)) (fun E hE => (List.mem_cons.1 hE).elim (fun e => by rw [e]; exact Nat.le_trans FX.out.wB hD) (FX.out.dw E)) (fun W' k b => ⟨?_, ?_⟩)
            · have c0 : W'.cell? ⟨w.heap.size + 2, 0, none⟩ = some (.int .i64 (root.1 : Int)) := (k.blk FX.out.r6).cell 0
              have c1 : W'.cell? ⟨w.heap.size + 2, 1, none⟩ = some (.int .i64 (root.2 : Int)) := (k.blk FX.out.r6).cell 1
              have c2 : W'.cell? ⟨w.heap.size + 3, 0, none⟩ = some (.slice (some ⟨g', 0, none⟩) full.length c') := (k.blk FX.out.r7).cell 0
              simp [results, Tryd.results77, go_sem, c0, c1, c2]
            · rw [← HPP.out]
              exact ⟨Or.inl ⟨root, full, g', c', rfl, k.pc FX.out.pc h0, FX.out.gg, FX.out.hc, FX.out.cm, FX.out.ro, FX.out.ok, FX.out.wa, FX.out.le⟩, FX.out.bl.trans b⟩
        · obtain ⟨a9, cap9, tb9⟩ := O1.out.ss.vs.anyRow
          have p0 : W.cell? ⟨w.heap.size + 6, 0, none⟩ = some (.slice a9 st.length cap9) := tb9.cell 0
          have r0 : W.cell? ⟨w.heap.size + 2, 0, none⟩ = some (.int .i64 0) := O1.out.ss.r6.cell 0
          have r1 : W.cell? ⟨w.heap.size + 2, 1, none⟩ = some (.int .i64 0) := O1.out.ss.r6.cell 1
          have r2 : W.cell? ⟨w.heap.size + 3, 0, none⟩ = some (.slice none 0 0) := O1.out.ss.r7.cell 0
          have f0 := O1.out.ss.r6.frozen 0
          have f1 := O1.out.ss.r6.frozen 1
          have f2 := O1.out.ss.r7.frozen 0
          have EQ := hide' (show i = st.length by have := O1.out.le; omega)
          have di : ¬ (i : Int) < (st.length : Int) := by omega
          clear tb9 d
          obtain ⟨W9, hW9⟩ : ∃ W9, W9 = ((W.setCell ⟨w.heap.size + 2, 0, none⟩ (.int .i64 0)).setCell ⟨w.heap.size + 2, 1, none⟩ (.int .i64 0)).setCell ⟨w.heap.size + 3, 0, none⟩ (.slice none 0 0) := ⟨_, rfl⟩
          have EN := hide' (O1.out.ends hW9)
          have NO := hide' (O1.out.nothing hn EQ.out)
          have HW9 := hide' hW9
          clear hW9
          gi_wp2
          rw [← HW9.out]
          refine leaves_marks (v := .tuple #[.agg #[.int .i64 0, .int .i64 0], .slice none 0 0]) (B := w.heap.size) ds W9 O1.out.nd EN.out.2.2.1 O1.out.dw (fun W' k b => ⟨?_, ?_⟩)
          · have c0 : W'.cell? ⟨w.heap.size + 2, 0, none⟩ = some (.int .i64 0) := (k.blk EN.out.1).cell 0
            have c1 : W'.cell? ⟨w.heap.size + 2, 1, none⟩ = some (.int .i64 0) := (k.blk EN.out.1).cell 1
            have c2 : W'.cell? ⟨w.heap.size + 3, 0, none⟩ = some (.slice none 0 0) := (k.blk EN.out.2.1).cell 0
            simp [results, Tryd.results77, go_sem, c0, c1, c2]
          · rw [← HPP.out]
            exact ⟨Or.inr ⟨rfl, NO.out⟩, EN.out.2.2.2.trans b⟩
end Go.Proofs.YtjjdjdodhedihaaDoor

