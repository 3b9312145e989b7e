/-
  What the last text of this claim leans on, part 18: We2, We3, Wf2.
-/
import Derived.Test.YtjngjnkecnnmeaaDoorJw17
namespace Go.Proofs.YtjngjnkecnnmeaaDoor
open Go.RowKit
set_option linter.unusedVariables false

/-- The window's memory: the box, the result's block, the new pattern's block, its row. -/
structure WW (w wr : World) (O g W H V U N m l t : Nat) (xs : List Int) (a : Option Addr) (n c : Nat) : Prop where
  box : TB w.heap.size (.int .i64 (W : Int)) (.int .i64 (H : Int)) (.slice a n c) wr
  res : TB (w.heap.size + 1) (.int .i64 0) (.int .i64 0) (.slice none 0 0) wr
  out : TB O (.int .i64 (V : Int)) (.int .i64 (U : Int)) (.slice (some ⟨g, 0, none⟩) N N) wr
  row : wr.heap[g]? = some (.cells (winR W l t V N m xs).toArray 3 (0, 0))
  hg : w.heap.size + 2 ≤ g
  hO : g < O
  below : Below w.heap.size w wr
theorem WW.step {w wr w' : World} {O g W H V U N m l t m' : Nat} {xs : List Int} {a : Option Addr} {n c : Nat} (h : WW w wr O g W H V U N m l t xs a n c) (hr : w'.heap[g]? = some (.cells (winR W l t V N m' xs).toArray 3 (0, 0))) (hb : ∀ k, k < O + 1 → k ≠ g → w'.heap[k]? = wr.heap[k]?) (hbb : Below w.heap.size w w') : WW w w' O g W H V U N m' l t xs a n c := by
  have h1 := h.hg
  have h2 := h.hO
  exact ⟨h.box.block (hb _ (by omega) (by omega)), h.res.block (hb _ (by omega) (by omega)), h.out.block (hb _ (by omega) (by omega)), hr, h1, h2, hbb⟩

/-- copy as one step of a region that draws, the world behind it written out. -/
theorem step_copy_exact {P : Program} {ops : Array Oper} {o : Oper} {a : Act} {w : World} {K : Act → World → Prop} {Q : Exit → Act → World → Prop} {E : Prop} (hgd : o.guard = none) (d s : Operand) (dT sT : TypeId)
    (ho : o.op = .call { callee := .builtin .copy, args := #[d, s], argTypes := #[dT, sT] }) (elem : TypeId) (hu : P.underlying dT = some (.slice elem)) (hsz : (P.info? elem).map (·.size) = some 1)
    (g off dLen dCap : Nat) (ad : Addr) (sLen sCap : Nat) (hd : a.eval d = .slice (some ⟨g, off, none⟩) dLen dCap) (hs : a.eval s = .slice (some ad) sLen sCap)
    (cur : List Value) (t : TypeId) (hg : w.heap[g]? = some (.cells cur.toArray t (0, 0))) (cs : List Value) (hn : cs.length = Nat.min sLen dLen) (hsrc : ∀ j v, cs[j]? = some v → w.cell? (ad.add j) = some v)
    (hfit : off + cs.length ≤ cur.length) (h1 : ∀ v ∈ cs, v.oneCell' = true)
    (h : ∀ w', w'.heap[g]? = some (.cells (splice cur off cs).toArray t (0, 0)) → (∀ k, k ≠ g → w'.heap[k]? = w.heap[k]?) → (w'.os = w.os ∧ w'.tape = w.tape ∧ w'.output = w.output ∧ w'.heap.size = w.heap.size) → K (a.put o.dst (goInt cs.length)) w') :
    if Region.wanted o (yielded ops a.tmps) = true then Oper.wp P o a w K Q else E := by
  have hw : Region.wanted o (yielded ops a.tmps) = true := by simp [Region.wanted, hgd]
  rw [if_pos hw]
  have hrun := run_copy_row (P := P) w dT sT o.type elem g off dLen dCap ad sLen sCap cur.toArray t cs hu hsz hg hn hsrc (by simpa using hfit) h1
  unfold Oper.wp
  simp [execOp, ho, resolve, invoke, builtin, hd, hs, hrun, Result.andThen]
  exact h _ (by simpa [splice] using setRow_heap w g _ _ t _ hg) (fun k hk => setRow_other w g k _ hk) ⟨rfl, rfl, rfl, by simp [World.setRow]⟩
end Go.Proofs.YtjngjnkecnnmeaaDoor

namespace Go.Proofs.YtjngjnkecnnmeaaDoor
open Go.RowKit
set_option linter.unusedVariables false

theorem wrap_nat (n : Nat) (h : n ≤ 1000000) : IntKind.i64.wrap (n : Int) = (n : Int) := by
  unfold IntKind.wrap
  simp [IntKind.signed, IntKind.bits]
  omega

set_option maxRecDepth 100000 in
set_option maxHeartbeats 6400000 in
theorem pwindow (W H l t r b : Nat) (xs : List Int) (a : Addr) (n c : Nat) (w : World) (hP : ArgP w xs (some a) n c) (lW : W ≤ 100) (lH : H ≤ 100) (hn : n = W * H) (hc : n ≤ c) (hcm : c ≤ maxLen) (hl : l < r) (hr : r ≤ W) (ht : t < b) (hb : b ≤ H) :
    Calls Tryd.prog 79 #[.agg #[.int .i64 (W : Int), .int .i64 (H : Int), .slice (some a) n c], .int .i64 (l : Int), .int .i64 (t : Int), .int .i64 (r : Int), .int .i64 (b : Int)] w fun e w' => ∃ g, e = .returned (.agg #[.int .i64 ((r - l : Nat) : Int), .int .i64 ((b - t : Nat) : Int), .slice (some ⟨g, 0, none⟩) ((r - l) * (b - t)) ((r - l) * (b - t))]) ∧ w.heap.size ≤ g ∧ Cel w' g (winP W l t (r - l) ((r - l) * (b - t)) xs) ∧ Below w.heap.size w w' := by
  obtain ⟨V, hV⟩ : ∃ V, V = r - l := ⟨_, rfl⟩
  obtain ⟨U, hU⟩ : ∃ U, U = b - t := ⟨_, rfl⟩
  have q1 : (r : Int) - (l : Int) = (V : Int) := by omega
  have q2 : (b : Int) - (t : Int) = (U : Int) := by omega
  have lV : V ≤ 100 := by omega
  have lU : U ≤ 100 := by omega
  rw [← hV, ← hU]
  have HV := hide' hV
  have HU := hide' hU
  have lV1 : l + V ≤ W := by omega
  have lU1 : t + U ≤ H := by omega
  have lV2 : 1 ≤ V := by omega
  clear hV hU
  have hN4 : n ≤ 10000 := by rw [hn]; exact Nat.mul_le_mul lW lH
  have HP := hide' hP
  have HN := hide' hn
  unfold maxLen at hcm
  clear hP hn
  go_enter Tryd.func79, Tryd.ntmps79
  go_wp2_with fail
  refine (pblank_row V U _ lV lU).mono ?_
  rintro e w1 ⟨g, rfl, hg, hrow, b1⟩
  obtain ⟨N, hNN⟩ : ∃ N, V * U = N := ⟨_, rfl⟩
  rw [hNN] at hrow ⊢
  have HNN := hide' hNN
  have T0 := hide' (show WW w (w1.alloc (.cells #[.int .i64 (V : Int), .int .i64 (U : Int), .slice (some ⟨g, 0, none⟩) N N] 51)) w1.heap.size g W H V U N 0 l t xs (some a) n c by
    have hz := b1.size
    simp only [World.size_alloc] at hz hg b1
    have r1 := TB.new (w.alloc (.cells #[.int .i64 (W : Int), .int .i64 (H : Int), .slice (some a) n c] 51)) (.int .i64 0) (.int .i64 0) (.slice none 0 0) 51
    rw [World.size_alloc] at r1
    have hlt := (Array.getElem?_eq_some_iff.1 hrow).1
    refine ⟨(((TB.new w _ _ _ _).alloc _).block (b1.block _ (by omega))).alloc _, (r1.block (b1.block _ (by omega))).alloc _, TB.new w1 _ _ _ _, ?_, by omega, hlt, ?_⟩
    · rw [winR_zero]; exact (Below.heap_alloc _ _ _ hlt).trans hrow
    · exact ((((Below.refl _ _).alloc (Nat.le_refl _) _).alloc (by simp) _).trans (b1.mono (by omega))).alloc (by omega) _)
  clear hg hrow b1
  go_wp2
  go_loopw [23] (fun yv wr => ∃ y : Nat, yv = .int .i64 (y : Int) ∧ y ≤ U ∧ WW w wr w1.heap.size g W H V U N (y * V) l t xs (some a) n c) (fun yv _ => U - (intOf yv).toNat)
  case atStart => exact ⟨0, rfl, by omega, by rw [Nat.zero_mul]; exact T0.out⟩
  case round =>
    obtain ⟨y, rfl, hy, ww⟩ := hrel
    have T := hide' ww
    clear ww T0
    by_cases d : (y : Int) < (U : Int)
    · obtain ⟨PP, hPP⟩ : ∃ PP, (t + y) * W = PP := ⟨_, rfl⟩
      have q3 : ((t : Int) + (y : Int)) * (W : Int) = (PP : Int) := by rw [← hPP]; simp
      obtain ⟨YV, hYV⟩ : ∃ YV, y * V = YV := ⟨_, rfl⟩
      have q4 : (y : Int) * (V : Int) = (YV : Int) := by rw [← hYV]; simp
      have hPn : PP + l + V ≤ n := by
        rw [← hPP, HN.out, Nat.mul_comm W H]
        have := Nat.mul_le_mul_right W (show t + y + 1 ≤ H by omega)
        rw [Nat.add_mul (t + y)] at this
        omega
      have hYN : YV + V ≤ N := by
        rw [← hYV, ← HNN.out, Nat.mul_comm V U]
        have := Nat.mul_le_mul_right V (show y + 1 ≤ U by omega)
        rw [Nat.add_mul] at this
        omega
      have hN5 : N ≤ 10000 := by rw [← HNN.out]; exact Nat.mul_le_mul lV lU
      have AP := HP.out.below T.out.below
      obtain ⟨ga, off, ea, hga, -⟩ := AP.cells (PP + l) (by rw [← AP.len]; omega)
      injection ea with ea
      subst ea
      have SRC := hide' (show ∀ j v, ((List.range V).map fun x => Value.int .i64 (winC W l t V xs (y * V + x)))[j]? = some v → wr.cell? ((⟨ga, off + (PP + l), none⟩ : Addr).add j) = some v by
        intro j v hv
        have hj : j < V := by
          rcases Nat.lt_or_ge j V with q | q
          · exact q
          · rw [List.getElem?_eq_none (by simpa using q)] at hv; cases hv
        obtain ⟨ga', off', ea', -, hc'⟩ := AP.cells (PP + l + j) (by rw [← AP.len]; omega)
        injection ea' with ea'
        injection ea' with e1 e2
        subst e1 e2
        have ead : (⟨ga, off + (PP + l), none⟩ : Addr).add j = ⟨ga, off + (PP + l + j), none⟩ := by
          unfold Addr.add
          split
          · rename_i hz; subst hz; rfl
          · simp; omega
        rw [ead, hc']
        simp [hj] at hv
        rw [← hv]
        obtain ⟨dd, mm⟩ := divmod_mk V y j hj
        unfold winC atP
        rw [dd, mm, hPP, show PP + (l + j) = PP + l + j by omega]
        have : PP + l + j < xs.length := by rw [← AP.len]; omega
        simp [List.getD, this])
      have b0 := T.out.box.c0
      have b2 := T.out.box.c2
      have o0 := T.out.out.c0
      have o2 := T.out.out.c2
      have ROW := hide' T.out.row
      have HY := hide' hYV
      obtain ⟨F, hF⟩ : ∃ F, PP + l = F := ⟨_, rfl⟩
      obtain ⟨G, hG⟩ : ∃ G, F + V = G := ⟨_, rfl⟩
      have q5 : (PP : Int) + (l : Int) = (F : Int) := by omega
      have q6 : (F : Int) + (V : Int) = (G : Int) := by omega
      rw [hF] at SRC
      have v1 : IntKind.i64.wrap (YV : Int) = (YV : Int) := wrap_nat YV (by omega)
      have v2 : IntKind.i64.wrap (G : Int) = (G : Int) := wrap_nat G (by omega)
      have v3 : ¬ N = YV := by omega
      have v4 : ¬ c = F := by omega
      have v5 : YV ≤ N := by omega
      have v6 : G ≤ c := by omega
      have v7 : F ≤ G := by omega
      have GF := hide' (show G - F = V by omega)
      clear hF hG
      clear hPP hYV AP
      go_wp2
      go_region_law (refine step_copy_exact (by rfl) _ _ _ _ (by rfl) 3 Tryd.underlying22 (by kernel_rfl) g YV _ _ ⟨ga, off + F, none⟩ _ _ (by rfl) (by rfl) _ 3 ROW.out ((List.range V).map fun x => Value.int .i64 (winC W l t V xs (y * V + x))) (by simp only [List.length_map, List.length_range]; rw [GF.out]; exact (Nat.min_eq_left (by omega)).symm) SRC.out (by simp only [List.length_map, List.length_range, winR_length]; omega) (fun v hv => by obtain ⟨x, -, rfl⟩ := List.mem_map.1 hv; rfl) ?_; intro w4 hr4 hb4 hs4; have R4 := hide' hr4; have B4 := hide' hb4; have S4 := hide' hs4; clear hr4 hb4 hs4)
      all_goals
        go_wp2
        refine ⟨⟨y + 1, by go_num, by omega, ?_⟩, by simp [intOf]; omega⟩
        have hr := R4.out
        rw [← HY.out, winR_step _ _ _ _ _ _ _ (by rw [HY.out]; omega)] at hr
        rw [Nat.add_mul, Nat.one_mul]
        exact T.out.step hr (fun k _ hk => B4.out k hk) (T.out.below.trans ⟨S4.out.1, S4.out.2.1, S4.out.2.2.1, by rw [S4.out.2.2.2]; exact Nat.le_refl _, fun k hk => B4.out k (by have := T.out.hg; omega)⟩)
    · have Y := hide' (show y = U by omega)
      obtain ⟨o0, o1, o2, -⟩ := T.out.out
      obtain ⟨r0, r1, r2, rf⟩ := T.out.res
      have f0 := rf 0
      have f1 := rf 1
      have f2 := rf 2
      clear rf
      go_wp2
      refine bodyPost_ret (v := .agg #[.int .i64 (V : Int), .int .i64 (U : Int), .slice (some ⟨g, 0, none⟩) N N]) (by simp [results, Tryd.results79, go_sem, r0, r1, r2]) rfl ?_
      have hgg := T.out.hg
      have hrow := T.out.row
      rw [Y.out, show U * V = N by rw [Nat.mul_comm]; exact HNN.out, show winR W l t V N N xs = (winP W l t V N xs).map (fun x => Value.int .i64 x) by unfold winR winP; rw [List.map_map]; apply List.map_congr_left; intro q hq; simp [List.mem_range.1 hq]] at hrow
      have C := row_cel hrow
      refine ⟨g, rfl, by omega, ((C.rd ((Rd.refl (w.heap.size + 1) _).set 0 _) (by omega)).rd ((Rd.refl (w.heap.size + 1) _).set 1 _) (by omega)).rd ((Rd.refl (w.heap.size + 1) _).set 2 _) (by omega), ?_⟩
      exact ((T.out.below.setCell (by simp) _).setCell (by simp) _).setCell (by simp) _
end Go.Proofs.YtjngjnkecnnmeaaDoor

namespace Go.Proofs.YtjngjnkecnnmeaaDoor
open Go.RowKit
set_option linter.unusedVariables false

def TrimPost (p : Pat) (w : World) (e : Ending) (w' : World) : Prop :=
  ∃ v, e = .returned (.tuple #[.agg #[.int .i64 ((trimP p).1.W : Int), .int .i64 ((trimP p).1.H : Int), v], .int .i64 ((trimP p).2.1 : Int), .int .i64 ((trimP p).2.2 : Int), .nilIface]) ∧ Tab w' v (trimP p).1.xs ∧ Fresh w v ∧ Below w.heap.size w w'

set_option maxRecDepth 100000 in
set_option maxHeartbeats 800000 in
theorem pTrim (W H : Nat) (xs : List Int) (a : Option Addr) (n c : Nat) (w : World) (hP : ArgP w xs a n c) (hc : n ≤ c) (hcm : c ≤ maxLen) (lW : W ≤ 100) (lH : H ≤ 100) (hs : shapeF W H xs = 0) (hn : n = W * H) :
    Calls Tryd.prog 30 #[.agg #[.int .i64 (W : Int), .int .i64 (H : Int), .slice a n c]] w (TrimPost ⟨W, H, xs⟩ w) := by
  have hN4 : n ≤ 10000 := by rw [hn]; exact Nat.mul_le_mul lW lH
  have HP := hide' hP
  have HL := hide' hP.len
  have HN := hide' hn
  have HS := hide' hs
  clear hP hn hs
  go_enter Tryd.func30, Tryd.ntmps30
  have AP0 := hide' ((HP.out.alloc (.cells #[.int .i64 (W : Int), .int .i64 (H : Int), .slice a n c] 51)).alloc (.cells #[.int .i64 0, .int .i64 0, .slice none 0 0] 51))
  have BX := hide' ((TB.new w (.int .i64 (W : Int)) (.int .i64 (H : Int)) (.slice a n c) 51).alloc (.cells #[.int .i64 0, .int .i64 0, .slice none 0 0] 51))
  have RX0 := TB.new (w.alloc (.cells #[.int .i64 (W : Int), .int .i64 (H : Int), .slice a n c] 51)) (.int .i64 0) (.int .i64 0) (.slice none 0 0) 51
  rw [World.size_alloc] at RX0
  have RX := hide' RX0
  clear RX0
  go_wp2_with fail
  refine (Check_P W H xs a n c _ AP0.out).mono ?_
  rw [HS.out]
  rintro e w2 ⟨rfl, b2⟩
  have hz2 := b2.size
  simp only [World.size_alloc] at hz2
  have BX2 := hide' (BX.out.next b2)
  have RX2 := hide' (RX.out.next b2)
  have AP2 := hide' (AP0.out.below b2)
  have BB := hide' (show Below w.heap.size w w2 from (((Below.refl _ _).alloc (Nat.le_refl _) _).alloc (by simp) _).trans (b2.mono (by simp only [World.size_alloc]; omega)))
  obtain ⟨x0, x1, x2, -⟩ := BX2.out
  have er : errOf 0 = .nilIface := rfl
  rw [er]
  clear b2 er
  go_wp2
  go_quiet (fail)
  go_wp2
  go_loopw [7, 8, 9, 10, 28] (fun lv tv rv bv kv wr => ∃ k m : Nat, kv = .int .i64 (k : Int) ∧ k ≤ n ∧ wr = w2.drewN m ∧ lv = .int .i64 ((bbx W H xs k).l : Int) ∧ tv = .int .i64 ((bbx W H xs k).t : Int) ∧ rv = .int .i64 ((bbx W H xs k).r : Int) ∧ bv = .int .i64 ((bbx W H xs k).b : Int)) (fun _ _ _ _ kv _ => n - (intOf kv).toNat)
  case atStart => exact ⟨0, _, rfl, by omega, rfl, rfl, rfl, rfl, rfl⟩
  case round =>
    obtain ⟨k, m, rfl, hk, rfl, rfl, rfl, rfl, rfl⟩ := hrel
    have BL := hide' (bbx_le W H xs k (by rw [← HN.out]; exact hk))
    obtain ⟨Q, hQ⟩ : ∃ Q, bbx W H xs k = Q := ⟨_, rfl⟩
    have HQ := hide' hQ
    obtain ⟨b1, b2, b3, b4, b5⟩ := BL.out
    rw [hQ] at b1 b2 b3 b4 b5 ⊢
    obtain ⟨L, T, R, B⟩ := Q
    dsimp only at b1 b2 b3 b4 b5 ⊢
    clear hQ BL
    by_cases d : (k : Int) < (n : Int)
    · have hkl : k < xs.length := by have := HL.out; omega
      have hkn : k < W * H := by rw [← HN.out]; omega
      obtain ⟨ga, off, rfl, hga, hcc⟩ := AP2.out.cells k hkl
      obtain ⟨z, hz⟩ : ∃ z, xs[k] = z := ⟨_, rfl⟩
      rw [hz] at hcc
      have HZ := hide' (show xs.getD k 0 = z by rw [← hz]; simp [List.getD, hkl])
      clear hz b5
      by_cases z1 : z = 1
      · have m1 : (z == 1) = true := by simp [z1]
        obtain ⟨X, Y, hX, hY, hXe, hYe, hsp⟩ := split_lt hkn
        have hW0 : ¬ (W : Int) = 0 := by omega
        have q1 : (k : Int) / (W : Int) = (Y : Int) := by rw [← hYe]; simp
        have q2 : (k : Int) % (W : Int) = (X : Int) := by rw [← hXe]; simp
        have STEP := hide' (show bbx W H xs (k + 1) = ⟨min L X, min T Y, max R (X + 1), max B (Y + 1)⟩ by rw [bbx_yes (by rw [HZ.out]; exact z1), hXe, hYe, HQ.out])
        clear z1 hXe hYe hsp
        go_wp2
        go_quiet (fail)
        go_wp2
        refine ⟨⟨k + 1, _, by go_num, by omega, rfl, ?_, ?_, ?_, ?_⟩, by simp [intOf]; omega⟩
        all_goals (rw [STEP.out]; dsimp only; congr 1; omega)
      · have m1 : (z == 1) = false := by simp [z1]
        have STEP := hide' (show bbx W H xs (k + 1) = ⟨L, T, R, B⟩ by rw [bbx_no (by rw [HZ.out]; exact z1), HQ.out])
        clear z1
        go_wp2
        refine ⟨⟨k + 1, m, by go_num, by omega, rfl, ?_, ?_, ?_, ?_⟩, by simp [intOf]; omega⟩
        all_goals (rw [STEP.out])
    · have K := hide' (show k = W * H by rw [← HN.out]; omega)
      have HQ2 := hide' (show bbx W H xs (W * H) = ⟨L, T, R, B⟩ by rw [← K.out]; exact HQ.out)
      obtain ⟨r0', r1', r2', rf⟩ := RX2.out
      have f0 := rf 0
      have f1 := rf 1
      have f2 := rf 2
      clear rf
      by_cases r0 : R = 0
      · have i1 : ((R : Int) == 0) = true := by simp; omega
        have TR := hide' (show trimP ⟨W, H, xs⟩ = (⟨0, 0, []⟩, 0, 0) by unfold trimP; dsimp only; rw [HQ2.out, if_pos r0])
        clear r0 b5
        go_wp2
        refine bodyPost_ret (v := .tuple #[.agg #[.int .i64 0, .int .i64 0, .slice none 0 0], .int .i64 0, .int .i64 0, .nilIface]) (by simp [results, Tryd.results30, go_sem, r0', r1', r2']) rfl ?_
        refine ⟨.slice none 0 0, by rw [TR.out]; rfl, by rw [TR.out]; exact Or.inl ⟨rfl, rfl⟩, Fresh.nil _, ?_⟩
        exact ((((BB.out.trans ⟨rfl, rfl, rfl, Nat.le_refl _, fun _ _ => rfl⟩ : Below w.heap.size w (w2.drewN m)).setCell (by simp) _).setCell (by simp) _).setCell (by simp) _)
      · have i1 : ((R : Int) == 0) = false := by simp; omega
        obtain ⟨hLR, hTB⟩ : L < R ∧ T < B := by omega
        have hpos : 0 < W * H := Nat.mul_pos (by omega) (by omega)
        obtain ⟨ga, off, rfl, hga, -⟩ := AP2.out.cells 0 (by rw [← HL.out, HN.out]; exact hpos)
        have TR := hide' (show trimP ⟨W, H, xs⟩ = (⟨R - L, B - T, winP W L T (R - L) ((R - L) * (B - T)) xs⟩, L, T) by unfold trimP; dsimp only; rw [HQ2.out, if_neg r0])
        clear r0 b5
        go_wp2_with fail
        refine (pwindow W H L T R B xs ⟨ga, off, none⟩ n c _ (AP2.out.below (w' := w2.drewN m) ⟨rfl, rfl, rfl, Nat.le_refl _, fun _ _ => rfl⟩) lW lH HN.out hc hcm hLR b3 hTB b4).mono ?_
        rintro e w3 ⟨g, rfl, hg, C, b3'⟩
        have hz3 := b3'.size
        obtain ⟨s0, s1, s2, sf⟩ := (RX2.out.block (w' := w2.drewN m) rfl).next b3'
        have h0 := sf 0
        have h1 := sf 1
        have h2 := sf 2
        have CC := hide' C
        have B3 := hide' (show Below w.heap.size w w3 from (BB.out.trans ⟨rfl, rfl, rfl, Nat.le_refl _, fun _ _ => rfl⟩ : Below w.heap.size w (w2.drewN m)).trans (b3'.mono (by show w.heap.size ≤ w2.heap.size; omega)))
        have hg' : w2.heap.size ≤ g := hg
        clear C b3' sf r0' r1' r2' f0 f1 f2 hg
        go_wp2
        refine bodyPost_ret (v := .tuple #[.agg #[.int .i64 ((R - L : Nat) : Int), .int .i64 ((B - T : Nat) : Int), .slice (some ⟨g, 0, none⟩) ((R - L) * (B - T)) ((R - L) * (B - T))], .int .i64 (L : Int), .int .i64 (T : Int), .nilIface]) (by simp [results, Tryd.results30, go_sem, s0, s1, s2]) rfl ?_
        refine ⟨.slice (some ⟨g, 0, none⟩) ((R - L) * (B - T)) ((R - L) * (B - T)), by rw [TR.out], ?_, Fresh.mk (by omega), ((B3.out.setCell (by simp) _).setCell (by simp) _).setCell (by simp) _⟩
        rw [TR.out]
        exact (((CC.out.rd ((Rd.refl (w.heap.size + 1) _).set 0 _) (by omega)).rd ((Rd.refl (w.heap.size + 1) _).set 1 _) (by omega)).rd ((Rd.refl (w.heap.size + 1) _).set 2 _) (by omega)).tab (by simp [winP])
end Go.Proofs.YtjngjnkecnnmeaaDoor

