/-
  What the last text of this claim leans on, part 14: We3, Wf2, Wg1.
-/
import Derived.Test.YtjngjnkecnnmeaaDoorJb13
namespace Go.Proofs.YtjngjnkecnnmeaaDoor
open Go.RowKit
set_option linter.unusedVariables false

theorem wrap_nat (n : Nat) (h : n ≤ 1000000) : IntKind.i64.wrap (n : Int) = (n : Int) := by
  unfold IntKind.wrap
  simp [IntKind.signed, IntKind.bits]
  omega

set_option maxRecDepth 100000 in
set_option maxHeartbeats 6400000 in
theorem pwindow (W H l t r b : Nat) (xs : List Int) (a : Addr) (n c : Nat) (w : World) (hP : ArgP w xs (some a) n c) (lW : W ≤ 100) (lH : H ≤ 100) (hn : n = W * H) (hc : n ≤ c) (hcm : c ≤ maxLen) (hl : l < r) (hr : r ≤ W) (ht : t < b) (hb : b ≤ H) :
    Calls Tryd.prog 79 #[.agg #[.int .i64 (W : Int), .int .i64 (H : Int), .slice (some a) n c], .int .i64 (l : Int), .int .i64 (t : Int), .int .i64 (r : Int), .int .i64 (b : Int)] w fun e w' => ∃ g, e = .returned (.agg #[.int .i64 ((r - l : Nat) : Int), .int .i64 ((b - t : Nat) : Int), .slice (some ⟨g, 0, none⟩) ((r - l) * (b - t)) ((r - l) * (b - t))]) ∧ w.heap.size ≤ g ∧ Cel w' g (winP W l t (r - l) ((r - l) * (b - t)) xs) ∧ Below w.heap.size w w' := by
  obtain ⟨V, hV⟩ : ∃ V, V = r - l := ⟨_, rfl⟩
  obtain ⟨U, hU⟩ : ∃ U, U = b - t := ⟨_, rfl⟩
  have q1 : (r : Int) - (l : Int) = (V : Int) := by omega
  have q2 : (b : Int) - (t : Int) = (U : Int) := by omega
  have lV : V ≤ 100 := by omega
  have lU : U ≤ 100 := by omega
  rw [← hV, ← hU]
  have HV := hide' hV
  have HU := hide' hU
  have lV1 : l + V ≤ W := by omega
  have lU1 : t + U ≤ H := by omega
  have lV2 : 1 ≤ V := by omega
  clear hV hU
  have hN4 : n ≤ 10000 := by rw [hn]; exact Nat.mul_le_mul lW lH
  have HP := hide' hP
  have HN := hide' hn
  unfold maxLen at hcm
  clear hP hn
  go_enter Tryd.func79, Tryd.ntmps79
  go_wp2_with fail
  refine (pblank_row V U _ lV lU).mono ?_
  rintro e w1 ⟨g, rfl, hg, hrow, b1⟩
  obtain ⟨N, hNN⟩ : ∃ N, V * U = N := ⟨_, rfl⟩
  rw [hNN] at hrow ⊢
  have HNN := hide' hNN
  have T0 := hide' (show WW w (w1.alloc (.cells #[.int .i64 (V : Int), .int .i64 (U : Int), .slice (some ⟨g, 0, none⟩) N N] 51)) w1.heap.size g W H V U N 0 l t xs (some a) n c by
    have hz := b1.size
    simp only [World.size_alloc] at hz hg b1
    have r1 := TB.new (w.alloc (.cells #[.int .i64 (W : Int), .int .i64 (H : Int), .slice (some a) n c] 51)) (.int .i64 0) (.int .i64 0) (.slice none 0 0) 51
    rw [World.size_alloc] at r1
    have hlt := (Array.getElem?_eq_some_iff.1 hrow).1
    refine ⟨(((TB.new w _ _ _ _).alloc _).block (b1.block _ (by omega))).alloc _, (r1.block (b1.block _ (by omega))).alloc _, TB.new w1 _ _ _ _, ?_, by omega, hlt, ?_⟩
    · rw [winR_zero]; exact (Below.heap_alloc _ _ _ hlt).trans hrow
    · exact ((((Below.refl _ _).alloc (Nat.le_refl _) _).alloc (by simp) _).trans (b1.mono (by omega))).alloc (by omega) _)
  clear hg hrow b1
  go_wp2
  go_loopw [23] (fun yv wr => ∃ y : Nat, yv = .int .i64 (y : Int) ∧ y ≤ U ∧ WW w wr w1.heap.size g W H V U N (y * V) l t xs (some a) n c) (fun yv _ => U - (intOf yv).toNat)
  case atStart => exact ⟨0, rfl, by omega, by rw [Nat.zero_mul]; exact T0.out⟩
  case round =>
    obtain ⟨y, rfl, hy, ww⟩ := hrel
    have T := hide' ww
    clear ww T0
    by_cases d : (y : Int) < (U : Int)
    · obtain ⟨PP, hPP⟩ : ∃ PP, (t + y) * W = PP := ⟨_, rfl⟩
      have q3 : ((t : Int) + (y : Int)) * (W : Int) = (PP : Int) := by rw [← hPP]; simp
      obtain ⟨YV, hYV⟩ : ∃ YV, y * V = YV := ⟨_, rfl⟩
      have q4 : (y : Int) * (V : Int) = (YV : Int) := by rw [← hYV]; simp
      have hPn : PP + l + V ≤ n := by
        rw [← hPP, HN.out, Nat.mul_comm W H]
        have := Nat.mul_le_mul_right W (show t + y + 1 ≤ H by omega)
        rw [Nat.add_mul (t + y)] at this
        omega
      have hYN : YV + V ≤ N := by
        rw [← hYV, ← HNN.out, Nat.mul_comm V U]
        have := Nat.mul_le_mul_right V (show y + 1 ≤ U by omega)
        rw [Nat.add_mul] at this
        omega
      have hN5 : N ≤ 10000 := by rw [← HNN.out]; exact Nat.mul_le_mul lV lU
      have AP := HP.out.below T.out.below
      obtain ⟨ga, off, ea, hga, -⟩ := AP.cells (PP + l) (by rw [← AP.len]; omega)
      injection ea with ea
      subst ea
      have SRC := hide' (show ∀ j v, ((List.range V).map fun x => Value.int .i64 (winC W l t V xs (y * V + x)))[j]? = some v → wr.cell? ((⟨ga, off + (PP + l), none⟩ : Addr).add j) = some v by
        intro j v hv
        have hj : j < V := by
          rcases Nat.lt_or_ge j V with q | q
          · exact q
          · rw [List.getElem?_eq_none (by simpa using q)] at hv; cases hv
        obtain ⟨ga', off', ea', -, hc'⟩ := AP.cells (PP + l + j) (by rw [← AP.len]; omega)
        injection ea' with ea'
        injection ea' with e1 e2
        subst e1 e2
        have ead : (⟨ga, off + (PP + l), none⟩ : Addr).add j = ⟨ga, off + (PP + l + j), none⟩ := by
          unfold Addr.add
          split
          · rename_i hz; subst hz; rfl
          · simp; omega
        rw [ead, hc']
        simp [hj] at hv
        rw [← hv]
        obtain ⟨dd, mm⟩ := divmod_mk V y j hj
        unfold winC atP
        rw [dd, mm, hPP, show PP + (l + j) = PP + l + j by omega]
        have : PP + l + j < xs.length := by rw [← AP.len]; omega
        simp [List.getD, this])
      have b0 := T.out.box.c0
      have b2 := T.out.box.c2
      have o0 := T.out.out.c0
      have o2 := T.out.out.c2
      have ROW := hide' T.out.row
      have HY := hide' hYV
      obtain ⟨F, hF⟩ : ∃ F, PP + l = F := ⟨_, rfl⟩
      obtain ⟨G, hG⟩ : ∃ G, F + V = G := ⟨_, rfl⟩
      have q5 : (PP : Int) + (l : Int) = (F : Int) := by omega
      have q6 : (F : Int) + (V : Int) = (G : Int) := by omega
      rw [hF] at SRC
      have v1 : IntKind.i64.wrap (YV : Int) = (YV : Int) := wrap_nat YV (by omega)
      have v2 : IntKind.i64.wrap (G : Int) = (G : Int) := wrap_nat G (by omega)
      have v3 : ¬ N = YV := by omega
      have v4 : ¬ c = F := by omega
      have v5 : YV ≤ N := by omega
      have v6 : G ≤ c := by omega
      have v7 : F ≤ G := by omega
      have GF := hide' (show G - F = V by omega)
      clear hF hG
      clear hPP hYV AP
      go_wp2
      go_region_law (refine step_copy_exact (by rfl) _ _ _ _ (by rfl) 3 Tryd.underlying22 (by kernel_rfl) g YV _ _ ⟨ga, off + F, none⟩ _ _ (by rfl) (by rfl) _ 3 ROW.out ((List.range V).map fun x => Value.int .i64 (winC W l t V xs (y * V + x))) (by simp only [List.length_map, List.length_range]; rw [GF.out]; exact (Nat.min_eq_left (by omega)).symm) SRC.out (by simp only [List.length_map, List.length_range, winR_length]; omega) (fun v hv => by obtain ⟨x, -, rfl⟩ := List.mem_map.1 hv; rfl) ?_; intro w4 hr4 hb4 hs4; have R4 := hide' hr4; have B4 := hide' hb4; have S4 := hide' hs4; clear hr4 hb4 hs4)
      all_goals
        go_wp2
        refine ⟨⟨y + 1, by go_num, by omega, ?_⟩, by simp [intOf]; omega⟩
        have hr := R4.out
        rw [← HY.out, winR_step _ _ _ _ _ _ _ (by rw [HY.out]; omega)] at hr
        rw [Nat.add_mul, Nat.one_mul]
        exact T.out.step hr (fun k _ hk => B4.out k hk) (T.out.below.trans ⟨S4.out.1, S4.out.2.1, S4.out.2.2.1, by rw [S4.out.2.2.2]; exact Nat.le_refl _, fun k hk => B4.out k (by have := T.out.hg; omega)⟩)
    · have Y := hide' (show y = U by omega)
      obtain ⟨o0, o1, o2, -⟩ := T.out.out
      obtain ⟨r0, r1, r2, rf⟩ := T.out.res
      have f0 := rf 0
      have f1 := rf 1
      have f2 := rf 2
      clear rf
      go_wp2
      refine bodyPost_ret (v := .agg #[.int .i64 (V : Int), .int .i64 (U : Int), .slice (some ⟨g, 0, none⟩) N N]) (by simp [results, Tryd.results79, go_sem, r0, r1, r2]) rfl ?_
      have hgg := T.out.hg
      have hrow := T.out.row
      rw [Y.out, show U * V = N by rw [Nat.mul_comm]; exact HNN.out, show winR W l t V N N xs = (winP W l t V N xs).map (fun x => Value.int .i64 x) by unfold winR winP; rw [List.map_map]; apply List.map_congr_left; intro q hq; simp [List.mem_range.1 hq]] at hrow
      have C := row_cel hrow
      refine ⟨g, rfl, by omega, ((C.rd ((Rd.refl (w.heap.size + 1) _).set 0 _) (by omega)).rd ((Rd.refl (w.heap.size + 1) _).set 1 _) (by omega)).rd ((Rd.refl (w.heap.size + 1) _).set 2 _) (by omega), ?_⟩
      exact ((T.out.below.setCell (by simp) _).setCell (by simp) _).setCell (by simp) _
end Go.Proofs.YtjngjnkecnnmeaaDoor

namespace Go.Proofs.YtjngjnkecnnmeaaDoor
open Go.RowKit
set_option linter.unusedVariables false

def TrimPost (p : Pat) (w : World) (e : Ending) (w' : World) : Prop :=
  ∃ v, e = .returned (.tuple #[.agg #[.int .i64 ((trimP p).1.W : Int), .int .i64 ((trimP p).1.H : Int), v], .int .i64 ((trimP p).2.1 : Int), .int .i64 ((trimP p).2.2 : Int), .nilIface]) ∧ Tab w' v (trimP p).1.xs ∧ Fresh w v ∧ Below w.heap.size w w'

set_option maxRecDepth 100000 in
set_option maxHeartbeats 800000 in
theorem pTrim (W H : Nat) (xs : List Int) (a : Option Addr) (n c : Nat) (w : World) (hP : ArgP w xs a n c) (hc : n ≤ c) (hcm : c ≤ maxLen) (lW : W ≤ 100) (lH : H ≤ 100) (hs : shapeF W H xs = 0) (hn : n = W * H) :
    Calls Tryd.prog 30 #[.agg #[.int .i64 (W : Int), .int .i64 (H : Int), .slice a n c]] w (TrimPost ⟨W, H, xs⟩ w) := by
  have hN4 : n ≤ 10000 := by rw [hn]; exact Nat.mul_le_mul lW lH
  have HP := hide' hP
  have HL := hide' hP.len
  have HN := hide' hn
  have HS := hide' hs
  clear hP hn hs
  go_enter Tryd.func30, Tryd.ntmps30
  have AP0 := hide' ((HP.out.alloc (.cells #[.int .i64 (W : Int), .int .i64 (H : Int), .slice a n c] 51)).alloc (.cells #[.int .i64 0, .int .i64 0, .slice none 0 0] 51))
  have BX := hide' ((TB.new w (.int .i64 (W : Int)) (.int .i64 (H : Int)) (.slice a n c) 51).alloc (.cells #[.int .i64 0, .int .i64 0, .slice none 0 0] 51))
  have RX0 := TB.new (w.alloc (.cells #[.int .i64 (W : Int), .int .i64 (H : Int), .slice a n c] 51)) (.int .i64 0) (.int .i64 0) (.slice none 0 0) 51
  rw [World.size_alloc] at RX0
  have RX := hide' RX0
  clear RX0
  go_wp2_with fail
  refine (Check_P W H xs a n c _ AP0.out).mono ?_
  rw [HS.out]
  rintro e w2 ⟨rfl, b2⟩
  have hz2 := b2.size
  simp only [World.size_alloc] at hz2
  have BX2 := hide' (BX.out.next b2)
  have RX2 := hide' (RX.out.next b2)
  have AP2 := hide' (AP0.out.below b2)
  have BB := hide' (show Below w.heap.size w w2 from (((Below.refl _ _).alloc (Nat.le_refl _) _).alloc (by simp) _).trans (b2.mono (by simp only [World.size_alloc]; omega)))
  obtain ⟨x0, x1, x2, -⟩ := BX2.out
  have er : errOf 0 = .nilIface := rfl
  rw [er]
  clear b2 er
  go_wp2
  go_quiet (fail)
  go_wp2
  go_loopw [7, 8, 9, 10, 28] (fun lv tv rv bv kv wr => ∃ k m : Nat, kv = .int .i64 (k : Int) ∧ k ≤ n ∧ wr = w2.drewN m ∧ lv = .int .i64 ((bbx W H xs k).l : Int) ∧ tv = .int .i64 ((bbx W H xs k).t : Int) ∧ rv = .int .i64 ((bbx W H xs k).r : Int) ∧ bv = .int .i64 ((bbx W H xs k).b : Int)) (fun _ _ _ _ kv _ => n - (intOf kv).toNat)
  case atStart => exact ⟨0, _, rfl, by omega, rfl, rfl, rfl, rfl, rfl⟩
  case round =>
    obtain ⟨k, m, rfl, hk, rfl, rfl, rfl, rfl, rfl⟩ := hrel
    have BL := hide' (bbx_le W H xs k (by rw [← HN.out]; exact hk))
    obtain ⟨Q, hQ⟩ : ∃ Q, bbx W H xs k = Q := ⟨_, rfl⟩
    have HQ := hide' hQ
    obtain ⟨b1, b2, b3, b4, b5⟩ := BL.out
    rw [hQ] at b1 b2 b3 b4 b5 ⊢
    obtain ⟨L, T, R, B⟩ := Q
    dsimp only at b1 b2 b3 b4 b5 ⊢
    clear hQ BL
    by_cases d : (k : Int) < (n : Int)
    · have hkl : k < xs.length := by have := HL.out; omega
      have hkn : k < W * H := by rw [← HN.out]; omega
      obtain ⟨ga, off, rfl, hga, hcc⟩ := AP2.out.cells k hkl
      obtain ⟨z, hz⟩ : ∃ z, xs[k] = z := ⟨_, rfl⟩
      rw [hz] at hcc
      have HZ := hide' (show xs.getD k 0 = z by rw [← hz]; simp [List.getD, hkl])
      clear hz b5
      by_cases z1 : z = 1
      · have m1 : (z == 1) = true := by simp [z1]
        obtain ⟨X, Y, hX, hY, hXe, hYe, hsp⟩ := split_lt hkn
        have hW0 : ¬ (W : Int) = 0 := by omega
        have q1 : (k : Int) / (W : Int) = (Y : Int) := by rw [← hYe]; simp
        have q2 : (k : Int) % (W : Int) = (X : Int) := by rw [← hXe]; simp
        have STEP := hide' (show bbx W H xs (k + 1) = ⟨min L X, min T Y, max R (X + 1), max B (Y + 1)⟩ by rw [bbx_yes (by rw [HZ.out]; exact z1), hXe, hYe, HQ.out])
        clear z1 hXe hYe hsp
        go_wp2
        go_quiet (fail)
        go_wp2
        refine ⟨⟨k + 1, _, by go_num, by omega, rfl, ?_, ?_, ?_, ?_⟩, by simp [intOf]; omega⟩
        all_goals (rw [STEP.out]; dsimp only; congr 1; omega)
      · have m1 : (z == 1) = false := by simp [z1]
        have STEP := hide' (show bbx W H xs (k + 1) = ⟨L, T, R, B⟩ by rw [bbx_no (by rw [HZ.out]; exact z1), HQ.out])
        clear z1
        go_wp2
        refine ⟨⟨k + 1, m, by go_num, by omega, rfl, ?_, ?_, ?_, ?_⟩, by simp [intOf]; omega⟩
        all_goals (rw [STEP.out])
    · have K := hide' (show k = W * H by rw [← HN.out]; omega)
      have HQ2 := hide' (show bbx W H xs (W * H) = ⟨L, T, R, B⟩ by rw [← K.out]; exact HQ.out)
      obtain ⟨r0', r1', r2', rf⟩ := RX2.out
      have f0 := rf 0
      have f1 := rf 1
      have f2 := rf 2
      clear rf
      by_cases r0 : R = 0
      · have i1 : ((R : Int) == 0) = true := by simp; omega
        have TR := hide' (show trimP ⟨W, H, xs⟩ = (⟨0, 0, []⟩, 0, 0) by unfold trimP; dsimp only; rw [HQ2.out, if_pos r0])
        clear r0 b5
        go_wp2
        refine bodyPost_ret (v := .tuple #[.agg #[.int .i64 0, .int .i64 0, .slice none 0 0], .int .i64 0, .int .i64 0, .nilIface]) (by simp [results, Tryd.results30, go_sem, r0', r1', r2']) rfl ?_
        refine ⟨.slice none 0 0, by rw [TR.out]; rfl, by rw [TR.out]; exact Or.inl ⟨rfl, rfl⟩, Fresh.nil _, ?_⟩
        exact ((((BB.out.trans ⟨rfl, rfl, rfl, Nat.le_refl _, fun _ _ => rfl⟩ : Below w.heap.size w (w2.drewN m)).setCell (by simp) _).setCell (by simp) _).setCell (by simp) _)
      · have i1 : ((R : Int) == 0) = false := by simp; omega
        obtain ⟨hLR, hTB⟩ : L < R ∧ T < B := by omega
        have hpos : 0 < W * H := Nat.mul_pos (by omega) (by omega)
        obtain ⟨ga, off, rfl, hga, -⟩ := AP2.out.cells 0 (by rw [← HL.out, HN.out]; exact hpos)
        have TR := hide' (show trimP ⟨W, H, xs⟩ = (⟨R - L, B - T, winP W L T (R - L) ((R - L) * (B - T)) xs⟩, L, T) by unfold trimP; dsimp only; rw [HQ2.out, if_neg r0])
        clear r0 b5
        go_wp2_with fail
        refine (pwindow W H L T R B xs ⟨ga, off, none⟩ n c _ (AP2.out.below (w' := w2.drewN m) ⟨rfl, rfl, rfl, Nat.le_refl _, fun _ _ => rfl⟩) lW lH HN.out hc hcm hLR b3 hTB b4).mono ?_
        rintro e w3 ⟨g, rfl, hg, C, b3'⟩
        have hz3 := b3'.size
        obtain ⟨s0, s1, s2, sf⟩ := (RX2.out.block (w' := w2.drewN m) rfl).next b3'
        have h0 := sf 0
        have h1 := sf 1
        have h2 := sf 2
        have CC := hide' C
        have B3 := hide' (show Below w.heap.size w w3 from (BB.out.trans ⟨rfl, rfl, rfl, Nat.le_refl _, fun _ _ => rfl⟩ : Below w.heap.size w (w2.drewN m)).trans (b3'.mono (by show w.heap.size ≤ w2.heap.size; omega)))
        have hg' : w2.heap.size ≤ g := hg
        clear C b3' sf r0' r1' r2' f0 f1 f2 hg
        go_wp2
        refine bodyPost_ret (v := .tuple #[.agg #[.int .i64 ((R - L : Nat) : Int), .int .i64 ((B - T : Nat) : Int), .slice (some ⟨g, 0, none⟩) ((R - L) * (B - T)) ((R - L) * (B - T))], .int .i64 (L : Int), .int .i64 (T : Int), .nilIface]) (by simp [results, Tryd.results30, go_sem, s0, s1, s2]) rfl ?_
        refine ⟨.slice (some ⟨g, 0, none⟩) ((R - L) * (B - T)) ((R - L) * (B - T)), by rw [TR.out], ?_, Fresh.mk (by omega), ((B3.out.setCell (by simp) _).setCell (by simp) _).setCell (by simp) _⟩
        rw [TR.out]
        exact (((CC.out.rd ((Rd.refl (w.heap.size + 1) _).set 0 _) (by omega)).rd ((Rd.refl (w.heap.size + 1) _).set 1 _) (by omega)).rd ((Rd.refl (w.heap.size + 1) _).set 2 _) (by omega)).tab (by simp [winP])
end Go.Proofs.YtjngjnkecnnmeaaDoor

namespace Go.Proofs.YtjngjnkecnnmeaaDoor
open Go.RowKit
set_option linter.unusedVariables false

def ErrPost (f : Nat) (w : World) (e : Ending) (w' : World) : Prop :=
  e = .returned (.tuple #[.agg #[.int .i64 0, .int .i64 0, .slice none 0 0], .iface 87 (.int .i64 (f : Int))]) ∧ Below w.heap.size w w'
theorem errOf_pos {f : Nat} (h : f ≠ 0) : errOf f = .iface 87 (.int .i64 (f : Int)) := by unfold errOf; rw [if_neg h]

set_option maxRecDepth 100000 in
set_option maxHeartbeats 800000 in
theorem pTurn_bad (W H k : Int) (xs : List Int) (a : Option Addr) (n c : Nat) (w : World) (hP : ArgP w xs a n c) (hs : shapeF W H xs ≠ 0) :
    Calls Tryd.prog 32 #[.agg #[.int .i64 W, .int .i64 H, .slice a n c], .int .i64 k] w (ErrPost (shapeF W H xs) w) := by
  have AP0 := hide' ((hP.alloc (.cells #[.int .i64 W, .int .i64 H, .slice a n c] 51)).alloc (.cells #[.int .i64 0, .int .i64 0, .slice none 0 0] 51))
  have RX0 := TB.new (w.alloc (.cells #[.int .i64 W, .int .i64 H, .slice a n c] 51)) (.int .i64 0) (.int .i64 0) (.slice none 0 0) 51
  rw [World.size_alloc] at RX0
  have RX := hide' RX0
  obtain ⟨f, hf⟩ : ∃ f, shapeF W H xs = f := ⟨_, rfl⟩
  rw [hf] at hs ⊢
  have HF := hide' hf
  have HS := hide' hs
  clear hP RX0 hf hs
  go_enter Tryd.func32, Tryd.ntmps32
  go_wp2_with fail
  refine (Check_P W H xs a n c _ AP0.out).mono ?_
  rw [HF.out, errOf_pos HS.out]
  rintro e w2 ⟨rfl, b2⟩
  have BB := hide' (show Below w.heap.size w w2 from (((Below.refl _ _).alloc (Nat.le_refl _) _).alloc (by simp) _).trans (b2.mono (by simp only [World.size_alloc]; omega)))
  obtain ⟨r0, r1, r2, rf⟩ := RX.out.next b2
  have f0 := rf 0
  have f1 := rf 1
  have f2 := rf 2
  clear rf b2
  go_wp2
  refine bodyPost_ret (v := .tuple #[.agg #[.int .i64 0, .int .i64 0, .slice none 0 0], .iface 87 (.int .i64 (f : Int))]) (by simp [results, Tryd.results32, go_sem, r0, r1, r2]) rfl ?_
  exact ⟨rfl, ((BB.out.setCell (by simp) _).setCell (by simp) _).setCell (by simp) _⟩

set_option maxRecDepth 100000 in
set_option maxHeartbeats 800000 in
theorem pTurn_k (W H k : Int) (xs : List Int) (a : Option Addr) (n c : Nat) (w : World) (hP : ArgP w xs a n c) (hs : shapeF W H xs = 0) (hk : k < 0 ∨ 7 < k) :
    Calls Tryd.prog 32 #[.agg #[.int .i64 W, .int .i64 H, .slice a n c], .int .i64 k] w (ErrPost 1 w) := by
  have AP0 := hide' ((hP.alloc (.cells #[.int .i64 W, .int .i64 H, .slice a n c] 51)).alloc (.cells #[.int .i64 0, .int .i64 0, .slice none 0 0] 51))
  have RX0 := TB.new (w.alloc (.cells #[.int .i64 W, .int .i64 H, .slice a n c] 51)) (.int .i64 0) (.int .i64 0) (.slice none 0 0) 51
  rw [World.size_alloc] at RX0
  have RX := hide' RX0
  have HS := hide' hs
  clear hP RX0 hs
  go_enter Tryd.func32, Tryd.ntmps32
  go_wp2_with fail
  refine (Check_P W H xs a n c _ AP0.out).mono ?_
  rw [HS.out, show errOf 0 = .nilIface from rfl]
  rintro e w2 ⟨rfl, b2⟩
  have BB := hide' (show Below w.heap.size w w2 from (((Below.refl _ _).alloc (Nat.le_refl _) _).alloc (by simp) _).trans (b2.mono (by simp only [World.size_alloc]; omega)))
  obtain ⟨r0, r1, r2, rf⟩ := RX.out.next b2
  have f0 := rf 0
  have f1 := rf 1
  have f2 := rf 2
  clear rf b2
  rcases hk with h | h
  · go_wp2
    refine bodyPost_ret (v := .tuple #[.agg #[.int .i64 0, .int .i64 0, .slice none 0 0], .iface 87 (.int .i64 1)]) (by simp [results, Tryd.results32, go_sem, r0, r1, r2]) rfl ?_
    exact ⟨rfl, ((BB.out.setCell (by simp) _).setCell (by simp) _).setCell (by simp) _⟩
  · have h1 : ¬ k < 0 := by omega
    have h2 : (8 : Int) ≤ k := by omega
    go_wp2
    refine bodyPost_ret (v := .tuple #[.agg #[.int .i64 0, .int .i64 0, .slice none 0 0], .iface 87 (.int .i64 1)]) (by simp [results, Tryd.results32, go_sem, r0, r1, r2]) rfl ?_
    exact ⟨rfl, ((BB.out.setCell (by simp) _).setCell (by simp) _).setCell (by simp) _⟩

theorem pturned_any (p : Pat) (k : Nat) (a : Option Addr) (c : Nat) (w : World) (hP : ArgP w p.xs a p.xs.length c) (hp : p.ok) (lW : p.W ≤ 100) (lH : p.H ≤ 100) (hk : k < 8) :
    Calls Tryd.prog 80 #[.agg #[.int .i64 (p.W : Int), .int .i64 (p.H : Int), .slice a p.xs.length c], .int .i64 (k : Int)] w (TurnedPostC (p.turn k) w) := by
  obtain ⟨W, H, xs⟩ := p
  cases a with
  | some a => exact pturned_some W H xs k a c w hP hp lW lH hk
  | none =>
    cases xs with
    | nil => exact pturned_nil W H k c w hp lW lH hk
    | cons x xs =>
      obtain ⟨g, off, e, -⟩ := hP.cells 0 (by simp)
      cases e

set_option maxRecDepth 100000 in
set_option maxHeartbeats 800000 in
theorem pTurn_ok (p : Pat) (k : Nat) (a : Option Addr) (c : Nat) (w : World) (hP : ArgP w p.xs a p.xs.length c) (hp : p.ok) (lW : p.W ≤ 100) (lH : p.H ≤ 100) (hs : shapeF p.W p.H p.xs = 0) (hk : k < 8) :
    Calls Tryd.prog 32 #[.agg #[.int .i64 (p.W : Int), .int .i64 (p.H : Int), .slice a p.xs.length c], .int .i64 (k : Int)] w fun e w' => ∃ v, e = .returned (.tuple #[.agg #[.int .i64 ((p.turn k).W : Int), .int .i64 ((p.turn k).H : Int), v], .nilIface]) ∧ Tab w' v (p.turn k).xs ∧ FreshC w v ∧ Below w.heap.size w w' := by
  have AP0 := hide' ((hP.alloc (.cells #[.int .i64 (p.W : Int), .int .i64 (p.H : Int), .slice a p.xs.length c] 51)).alloc (.cells #[.int .i64 0, .int .i64 0, .slice none 0 0] 51))
  have BX := hide' ((TB.new w (.int .i64 (p.W : Int)) (.int .i64 (p.H : Int)) (.slice a p.xs.length c) 51).alloc (.cells #[.int .i64 0, .int .i64 0, .slice none 0 0] 51))
  have RX0 := TB.new (w.alloc (.cells #[.int .i64 (p.W : Int), .int .i64 (p.H : Int), .slice a p.xs.length c] 51)) (.int .i64 0) (.int .i64 0) (.slice none 0 0) 51
  rw [World.size_alloc] at RX0
  have RX := hide' RX0
  have HS := hide' hs
  have h1 : ¬ (k : Int) < 0 := by omega
  have h2 : ¬ (8 : Int) ≤ (k : Int) := by omega
  clear hP RX0 hs
  go_enter Tryd.func32, Tryd.ntmps32
  go_wp2_with fail
  refine (Check_P p.W p.H p.xs a p.xs.length c _ AP0.out).mono ?_
  rw [HS.out, show errOf 0 = .nilIface from rfl]
  rintro e w2 ⟨rfl, b2⟩
  have hz2 := b2.size
  simp only [World.size_alloc] at hz2
  have BB := hide' (show Below w.heap.size w w2 from (((Below.refl _ _).alloc (Nat.le_refl _) _).alloc (by simp) _).trans (b2.mono (by simp only [World.size_alloc]; omega)))
  obtain ⟨x0, x1, x2, -⟩ := BX.out.next b2
  have RX2 := hide' (RX.out.next b2)
  have AP2 := hide' (AP0.out.below b2)
  clear b2
  go_wp2_with fail
  refine (pturned_any p k a c _ AP2.out hp lW lH hk).mono ?_
  rintro e w3 ⟨v, rfl, tb, fr, b3⟩
  obtain ⟨va, vn, vc, rfl⟩ := tb.slice
  obtain ⟨r0, r1, r2, rf⟩ := RX2.out.next b3
  have f0 := rf 0
  have f1 := rf 1
  have f2 := rf 2
  have TBH := hide' tb
  have FR := hide' fr
  have B3 := hide' (BB.out.trans (b3.mono (by omega)))
  clear rf tb fr b3
  go_wp2
  refine bodyPost_ret (v := .tuple #[.agg #[.int .i64 ((p.turn k).W : Int), .int .i64 ((p.turn k).H : Int), .slice va vn vc], .nilIface]) (by simp [results, Tryd.results32, go_sem, r0, r1, r2]) rfl ?_
  refine ⟨_, rfl, ?_, fun g k c e => by have := FR.out g k c e; omega, ((B3.out.setCell (by simp) _).setCell (by simp) _).setCell (by simp) _⟩
  rcases TBH.out with h | ⟨g, cap, e, hg, hc⟩
  · exact Or.inl h
  · exact Or.inr ⟨g, cap, e, by rw [World.size_setCell, World.size_setCell, World.size_setCell]; exact hg, fun i hi => (World.cell?_of_block (w := w3) (a := ⟨g, i, none⟩) (stored_blk w3 (w.heap.size + 1) g _ _ _ (by have := FR.out g _ _ e; omega))).trans (hc i hi)⟩
end Go.Proofs.YtjngjnkecnnmeaaDoor

