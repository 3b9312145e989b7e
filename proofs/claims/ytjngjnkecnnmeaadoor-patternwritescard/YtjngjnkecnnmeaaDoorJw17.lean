/-
  What the last text of this claim leans on, part 17: Wd2, We1, Wf1.
-/
import Derived.Test.YtjngjnkecnnmeaaDoorJw16
import Derived.Laws.CopyOwn
namespace Go.Proofs.YtjngjnkecnnmeaaDoor
open Go.RowKit
set_option linter.unusedVariables false

theorem TD.grown_some {w w3 : World} {b r : Obj} (hg : ((w.alloc b).alloc r).grownBy w3 none) : ∀ k, k < w.heap.size + 2 → w3.heap[k]? = ((w.alloc b).alloc r).heap[k]? := fun k hk => hg.block k (by simp; omega) (by simp)
theorem TD.mid_some {w w3 : World} {W H n c : Nat} {a : Addr} {t : TypeId} {r : Obj} (hg : ((w.alloc (.cells #[.int .i64 (W : Int), .int .i64 (H : Int), .slice (some a) n c] t)).alloc r).grownBy w3 none) : w3.cell? ⟨w.heap.size, 0, none⟩ = some (.int .i64 (W : Int)) ∧ w3.cell? ⟨w.heap.size, 1, none⟩ = some (.int .i64 (H : Int)) ∧ w3.cell? ⟨w.heap.size, 2, none⟩ = some (.slice (some a) n c) ∧ w3.frozen? ⟨w.heap.size, 2, none⟩ = false := by
  have h := ((TB.new w (.int .i64 (W : Int)) (.int .i64 (H : Int)) (.slice (some a) n c) t).alloc r).block (TD.grown_some hg _ (by omega))
  exact ⟨h.c0, h.c1, h.c2, h.fz 2⟩
theorem TD.start_some {w w3 : World} {W H c : Nat} {xs : List Int} {a : Addr} {v : Value} {t1 t2 : TypeId} (hp : Pat.ok ⟨W, H, xs⟩) (l1 : W ≤ 100) (l2 : H ≤ 100) (hg : ((w.alloc (.cells #[.int .i64 (W : Int), .int .i64 (H : Int), .slice (some a) xs.length c] t1)).alloc (.cells #[.int .i64 0, .int .i64 0, .slice none 0 0] t2)).grownBy w3 none)
    (ho : w3.ownsRow (w.heap.size + 2) 3 1 v (0 + xs.length) ([] ++ xs.map fun x => .int .i64 x)) : TD w (w3.setCell ⟨w.heap.size, 2, none⟩ v) ⟨W, H, xs⟩ v := by
  have hk := TD.grown_some hg
  have hb := ((TB.new w (.int .i64 (W : Int)) (.int .i64 (H : Int)) (.slice (some a) xs.length c) t1).alloc (.cells #[.int .i64 0, .int .i64 0, .slice none 0 0] t2)).block (hk _ (by omega))
  have r1 := TB.new (w.alloc (.cells #[.int .i64 (W : Int), .int .i64 (H : Int), .slice (some a) xs.length c] t1)) (.int .i64 0) (.int .i64 0) (.slice none 0 0) t2
  rw [World.size_alloc] at r1
  have hsz := hg.size
  simp only [World.size_alloc] at hsz
  rw [Nat.zero_add, List.nil_append] at ho
  refine ⟨⟨cell_other hb.c0 (by omega), cell_other hb.c1 (by omega), cell_same hb.c2, fun k => by rw [World.frozen?_setCell]; exact hb.fz k⟩, (r1.block (hk _ (by omega))).block (Below.heap_setCell _ _ _ _ (by simp)), ownsRow_tab (ownsRow_setCell_below ho (a := ⟨w.heap.size, 2, none⟩) (by simp) _), fun g k c e => ?_, hp, l1, l2, ?_, by rw [World.size_setCell]; omega⟩
  · rcases ho.2 with ⟨h1, -⟩ | ⟨g', cap, cur, h1, h2, -, h3, h4, -⟩
    · rw [h1] at e; cases e
    · rw [h1] at e
      injection e with e1 e2 e3
      injection e1 with e1
      injection e1 with e1
      subst e1 e2 e3
      exact ⟨h2, h3, h4⟩
  · refine Below.setCell (p := ⟨w.heap.size, 2, none⟩) ?_ (Nat.le_refl _) _
    exact (((Below.refl _ _).alloc (Nat.le_refl _) _).alloc (by simp) _).trans ⟨hg.os, hg.tape, hg.output, by simp only [World.size_alloc]; omega, fun k hkk => hk k (by omega)⟩
theorem own_form {w : World} {base : Nat} {v : Value} {xs : List Int} (h : w.ownsRow base 3 1 v (0 + xs.length) ([] ++ xs.map fun x => .int .i64 x)) : ∃ a c, v = .slice a xs.length c := by
  rw [Nat.zero_add, List.nil_append] at h
  rcases ownsRow_tab h with ⟨h1, h2⟩ | ⟨g, cap, h1, -⟩
  · subst h1; exact ⟨none, 0, h2⟩
  · exact ⟨_, cap, h1⟩
theorem TD.arg0 {w wr : World} {W H n c : Nat} {xs : List Int} {a : Option Addr} (h : TD w wr ⟨W, H, xs⟩ (.slice a n c)) : ArgP wr xs a xs.length c := by
  obtain ⟨a', c', e, ap⟩ := h.tab.arg (Nat.le_trans (small _ h.ok h.lW h.lH) (by unfold maxLen; omega))
  injection e with e1 e2 e3
  subst e1 e3
  exact ap
theorem news_arg {w : World} {xs : List Int} {a : Addr} {n c : Nat} (h : ArgP w xs (some a) n c) : ∀ (j : Nat) (u : Value), (xs.map fun x => Value.int .i64 x)[j]? = some u → w.cell? (a.add j) = some u := by
  intro j u hu
  rw [List.getElem?_map] at hu
  obtain ⟨x, hx, rfl⟩ := Option.map_eq_some_iff.1 hu
  obtain ⟨hj, he⟩ := List.getElem?_eq_some_iff.1 hx
  obtain ⟨g, off, e, hg, hc⟩ := h.cells j hj
  injection e with e1
  subst e1
  have ea : (⟨g, off, none⟩ : Addr).add j = ⟨g, off + j, none⟩ := by
    unfold Addr.add
    split
    · rename_i hz; subst hz; rfl
    · rfl
  rw [ea, hc, he]

set_option maxRecDepth 100000 in
set_option maxHeartbeats 1600000 in
theorem pturned_some (W H : Nat) (xs : List Int) (k : Nat) (a : Addr) (c : Nat) (w : World) (hP : ArgP w xs (some a) xs.length c) (hp : Pat.ok ⟨W, H, xs⟩) (lW : W ≤ 100) (lH : H ≤ 100) (hk : k < 8) :
    Calls Tryd.prog 80 #[.agg #[.int .i64 (W : Int), .int .i64 (H : Int), .slice (some a) xs.length c], .int .i64 (k : Int)] w (TurnedPostC (Pat.turn ⟨W, H, xs⟩ k) w) := by
  have hsm := small _ hp lW lH
  dsimp only at hsm
  have NW := hide' (news_arg ((hP.alloc (.cells #[.int .i64 (W : Int), .int .i64 (H : Int), .slice (some a) xs.length c] 51)).alloc (.cells #[.int .i64 0, .int .i64 0, .slice none 0 0] 51)))
  obtain ⟨i0, hi, hz0, hz1, hz2⟩ := info_parts info_int
  have OK0 := hide' (show (⟨W, H, xs⟩ : Pat).xs.length = W * H from hp)
  clear hP
  go_enter Tryd.func80, Tryd.ntmps80
  by_cases h4 : 4 ≤ k
  · have m4 : (4 : Int) ≤ (k : Int) := by omega
    go_wp2_with (at_builtin; refine wpList_append_own _ rfl _ _ 22 rfl (w.heap.size + 2) 3 i0 (.int .i64 0) 1 8 Tryd.underlying22 hi hz0 hz1 hz2 rfl (by decide) (.slice none 0 0) 0 [] rfl ⟨by simp, Or.inl ⟨rfl, by simp⟩⟩ a xs.length c (xs.map fun x => .int .i64 x) rfl (by simp) NW.out (fun x hx => by obtain ⟨y, -, rfl⟩ := List.mem_map.1 hx; rfl) (by unfold maxLen; omega) (by omega) (by simp) ?_; intro v' w3 hown' hgrow3 hnil3; obtain ⟨ta, tc, rfl⟩ := own_form hown'; have D0 := hide' (TD.start_some hp lW lH hgrow3 hown'); obtain ⟨x3, x4, x5, x6⟩ := TD.mid_some hgrow3; clear hgrow3 hown' hnil3)
    have AP0 := hide' (TD.arg0 D0.out)
    refine (pmirrored W H xs _ _ _ _ AP0.out D0.out.lW D0.out.lH OK0.out).mono ?_
    rintro e w2 ⟨g, rfl, hg, C, b2⟩
    have D := hide' (D0.out.next b2 (((⟨W, H, xs⟩ : Pat)).mir) g xs.length C (by rw [show xs.length = W * H from OK0.out]; exact mirP_length _ _ _) hg (ok_mir _) D0.out.lW D0.out.lH)
    obtain ⟨z0, z1, z2, zf⟩ := D0.out.box.next b2
    have h0 := zf 0
    have h1 := zf 1
    have h2 := zf 2
    clear hg C b2 zf
    go_wp2
    go_loopw [15] (fun jv wr => ∃ (j : Nat) (v : Value), jv = .int .i64 (j : Int) ∧ j ≤ k % 4 ∧ TD w wr ((((⟨W, H, xs⟩ : Pat)).mir).rot j) v) (fun jv _ => k % 4 - (intOf jv).toNat)
    case atStart => exact ⟨0, _, rfl, by omega, D.out⟩
    case round =>
      obtain ⟨j, v, rfl, hj, td⟩ := hrel
      have D2 := hide' td
      obtain ⟨a2, c2, rfl, ap⟩ := td.tab.arg (Nat.le_trans (small _ td.ok td.lW td.lH) (by unfold maxLen; omega))
      have AP := hide' ap
      obtain ⟨x0, x1, x2, xf⟩ := td.box
      obtain ⟨r0, r1, r2, rf⟩ := td.res
      have f0 := xf 0
      have f1 := xf 1
      have f2 := xf 2
      have e0 := rf 0
      have e1 := rf 1
      have e2 := rf 2
      have OK := hide' (show ((((⟨W, H, xs⟩ : Pat)).mir).rot j).xs.length = ((((⟨W, H, xs⟩ : Pat)).mir).rot j).W * ((((⟨W, H, xs⟩ : Pat)).mir).rot j).H from td.ok)
      clear td ap xf rf D
      by_cases d : j < k % 4
      · have m1 : (j : Int) < (k : Int) % 4 := by omega
        go_wp2_with fail
        refine (pquarter ((((⟨W, H, xs⟩ : Pat)).mir).rot j).W ((((⟨W, H, xs⟩ : Pat)).mir).rot j).H ((((⟨W, H, xs⟩ : Pat)).mir).rot j).xs a2 _ c2 _ AP.out D2.out.lW D2.out.lH OK.out).mono ?_
        rintro e w2 ⟨g, rfl, hg, C, b2⟩
        have D3 := hide' (D2.out.next b2 (((((⟨W, H, xs⟩ : Pat)).mir).rot j).qtr) g ((((⟨W, H, xs⟩ : Pat)).mir).rot j).xs.length C (by rw [OK.out, Nat.mul_comm]; exact qtrP_length _ _ _) hg (ok_qtr _) D2.out.lH D2.out.lW)
        obtain ⟨z0, z1, z2, zf⟩ := D2.out.box.next b2
        have h0 := zf 0
        have h1 := zf 1
        have h2 := zf 2
        clear x0 x1 x2 r0 r1 r2 f0 f1 f2 e0 e1 e2 hg C b2 zf
        go_wp2
        exact ⟨⟨j + 1, _, by go_num, by omega, D3.out⟩, by simp [intOf]; omega⟩
      · have m1 : ¬ (j : Int) < (k : Int) % 4 := by omega
        have J := hide' (show j = k % 4 by omega)
        clear d
        go_wp2
        refine bodyPost_ret (v := .agg #[.int .i64 (((((⟨W, H, xs⟩ : Pat)).mir).rot j).W : Int), .int .i64 (((((⟨W, H, xs⟩ : Pat)).mir).rot j).H : Int), .slice a2 ((((⟨W, H, xs⟩ : Pat)).mir).rot j).xs.length c2]) (by simp [results, Tryd.results80, go_sem, r0, r1, r2]) rfl ?_
        have hq : Pat.turn (⟨W, H, xs⟩ : Pat) k = (((⟨W, H, xs⟩ : Pat)).mir).rot j := by rw [J.out]; unfold Pat.turn; rw [if_pos h4]
        rw [hq]
        have hz := D2.out.sz
        refine ⟨_, rfl, ?_, fun g k c e => by have := D2.out.fresh g k c e; omega, ((D2.out.below.setCell (by simp) _).setCell (by simp) _).setCell (by simp) _⟩
        rcases D2.out.tab with h | ⟨g, cap, e, hg, hc⟩
        · exact Or.inl h
        · exact Or.inr ⟨g, cap, e, by rw [World.size_setCell, World.size_setCell, World.size_setCell]; exact hg, fun i hi => (World.cell?_of_block (w := wr) (a := ⟨g, i, none⟩) (stored_blk wr (w.heap.size + 1) g _ _ _ (by have := D2.out.fresh g _ _ e; omega))).trans (hc i hi)⟩
  · have m4 : ¬ (4 : Int) ≤ (k : Int) := by omega
    go_wp2_with (at_builtin; refine wpList_append_own _ rfl _ _ 22 rfl (w.heap.size + 2) 3 i0 (.int .i64 0) 1 8 Tryd.underlying22 hi hz0 hz1 hz2 rfl (by decide) (.slice none 0 0) 0 [] rfl ⟨by simp, Or.inl ⟨rfl, by simp⟩⟩ a xs.length c (xs.map fun x => .int .i64 x) rfl (by simp) NW.out (fun x hx => by obtain ⟨y, -, rfl⟩ := List.mem_map.1 hx; rfl) (by unfold maxLen; omega) (by omega) (by simp) ?_; intro v' w3 hown' hgrow3 hnil3; obtain ⟨ta, tc, rfl⟩ := own_form hown'; have D0 := hide' (TD.start_some hp lW lH hgrow3 hown'); obtain ⟨x3, x4, x5, x6⟩ := TD.mid_some hgrow3; clear hgrow3 hown' hnil3)
    have AP0 := hide' (TD.arg0 D0.out)
    have D := D0
    go_loopw [15] (fun jv wr => ∃ (j : Nat) (v : Value), jv = .int .i64 (j : Int) ∧ j ≤ k % 4 ∧ TD w wr (((⟨W, H, xs⟩ : Pat)).rot j) v) (fun jv _ => k % 4 - (intOf jv).toNat)
    case atStart => exact ⟨0, _, rfl, by omega, D.out⟩
    case round =>
      obtain ⟨j, v, rfl, hj, td⟩ := hrel
      have D2 := hide' td
      obtain ⟨a2, c2, rfl, ap⟩ := td.tab.arg (Nat.le_trans (small _ td.ok td.lW td.lH) (by unfold maxLen; omega))
      have AP := hide' ap
      obtain ⟨x0, x1, x2, xf⟩ := td.box
      obtain ⟨r0, r1, r2, rf⟩ := td.res
      have f0 := xf 0
      have f1 := xf 1
      have f2 := xf 2
      have e0 := rf 0
      have e1 := rf 1
      have e2 := rf 2
      have OK := hide' (show (((⟨W, H, xs⟩ : Pat)).rot j).xs.length = (((⟨W, H, xs⟩ : Pat)).rot j).W * (((⟨W, H, xs⟩ : Pat)).rot j).H from td.ok)
      clear td ap xf rf D
      by_cases d : j < k % 4
      · have m1 : (j : Int) < (k : Int) % 4 := by omega
        go_wp2_with fail
        refine (pquarter (((⟨W, H, xs⟩ : Pat)).rot j).W (((⟨W, H, xs⟩ : Pat)).rot j).H (((⟨W, H, xs⟩ : Pat)).rot j).xs a2 _ c2 _ AP.out D2.out.lW D2.out.lH OK.out).mono ?_
        rintro e w2 ⟨g, rfl, hg, C, b2⟩
        have D3 := hide' (D2.out.next b2 ((((⟨W, H, xs⟩ : Pat)).rot j).qtr) g (((⟨W, H, xs⟩ : Pat)).rot j).xs.length C (by rw [OK.out, Nat.mul_comm]; exact qtrP_length _ _ _) hg (ok_qtr _) D2.out.lH D2.out.lW)
        obtain ⟨z0, z1, z2, zf⟩ := D2.out.box.next b2
        have h0 := zf 0
        have h1 := zf 1
        have h2 := zf 2
        clear x0 x1 x2 r0 r1 r2 f0 f1 f2 e0 e1 e2 hg C b2 zf
        go_wp2
        exact ⟨⟨j + 1, _, by go_num, by omega, D3.out⟩, by simp [intOf]; omega⟩
      · have m1 : ¬ (j : Int) < (k : Int) % 4 := by omega
        have J := hide' (show j = k % 4 by omega)
        clear d
        go_wp2
        refine bodyPost_ret (v := .agg #[.int .i64 ((((⟨W, H, xs⟩ : Pat)).rot j).W : Int), .int .i64 ((((⟨W, H, xs⟩ : Pat)).rot j).H : Int), .slice a2 (((⟨W, H, xs⟩ : Pat)).rot j).xs.length c2]) (by simp [results, Tryd.results80, go_sem, r0, r1, r2]) rfl ?_
        have hq : Pat.turn (⟨W, H, xs⟩ : Pat) k = ((⟨W, H, xs⟩ : Pat)).rot j := by rw [J.out]; unfold Pat.turn; rw [if_neg h4]
        rw [hq]
        have hz := D2.out.sz
        refine ⟨_, rfl, ?_, fun g k c e => by have := D2.out.fresh g k c e; omega, ((D2.out.below.setCell (by simp) _).setCell (by simp) _).setCell (by simp) _⟩
        rcases D2.out.tab with h | ⟨g, cap, e, hg, hc⟩
        · exact Or.inl h
        · exact Or.inr ⟨g, cap, e, by rw [World.size_setCell, World.size_setCell, World.size_setCell]; exact hg, fun i hi => (World.cell?_of_block (w := wr) (a := ⟨g, i, none⟩) (stored_blk wr (w.heap.size + 1) g _ _ _ (by have := D2.out.fresh g _ _ e; omega))).trans (hc i hi)⟩
end Go.Proofs.YtjngjnkecnnmeaaDoor

namespace Go.Proofs.YtjngjnkecnnmeaaDoor
open Go.RowKit
set_option linter.unusedVariables false

/-- The q-th cell of a window V wide that begins at l, t. -/
def winC (W l t V : Nat) (xs : List Int) (q : Nat) : Int := atP W xs (l + q % V) (t + q / V)
def winP (W l t V N : Nat) (xs : List Int) : List Int := (List.range N).map (winC W l t V xs)
/-- The row while it is filled: m cells so far. -/
def winR (W l t V N m : Nat) (xs : List Int) : List Value := (List.range N).map fun q => if q < m then .int .i64 (winC W l t V xs q) else .int .i64 0
theorem winR_length (W l t V N m : Nat) (xs : List Int) : (winR W l t V N m xs).length = N := by simp [winR]
theorem winR_zero (W l t V N : Nat) (xs : List Int) : winR W l t V N 0 xs = List.replicate N (.int .i64 0) := by
  apply List.ext_getElem (by simp [winR])
  intro i h1 h2
  simp [winR]
theorem winR_step (W l t V N y : Nat) (xs : List Int) (h : y * V + V ≤ N) : splice (winR W l t V N (y * V) xs) (y * V) ((List.range V).map fun x => Value.int .i64 (winC W l t V xs (y * V + x))) = winR W l t V N (y * V + V) xs := by
  apply List.ext_getElem?
  intro i
  unfold splice
  rw [List.getElem?_append]
  simp only [List.length_take, winR_length, List.length_map, List.length_range]
  rw [Nat.min_eq_left (by omega)]
  split
  · rename_i hi
    rw [List.getElem?_take, if_pos hi]
    simp [winR, show i < N by omega, hi, show i < y * V + V by omega]
  · rename_i hi
    rw [List.getElem?_append]
    simp only [List.length_map, List.length_range]
    split
    · rename_i hj
      simp [winR, hj, show i < N by omega, show i < y * V + V by omega, show y * V + (i - y * V) = i by omega]
    · rename_i hj
      rw [List.getElem?_drop, show y * V + V + (i - y * V - V) = i by omega]
      by_cases hN : i < N
      · simp [winR, hN, show ¬ i < y * V + V by omega, show ¬ i < y * V by omega]
      · simp [winR, hN]

set_option maxHeartbeats 800000 in
theorem pblank_row (W H : Nat) (w : World) (hW : W ≤ 100) (hH : H ≤ 100) :
    Calls Tryd.prog 123 #[.int .i64 (W : Int), .int .i64 (H : Int)] w fun e w' => ∃ g, e = .returned (.agg #[.int .i64 (W : Int), .int .i64 (H : Int), .slice (some ⟨g, 0, none⟩) (W * H) (W * H)]) ∧ w.heap.size ≤ g ∧ w'.heap[g]? = some (.cells (List.replicate (W * H) (.int .i64 0)).toArray 3 (0, 0)) ∧ Below w.heap.size w w' := by
  have hn : W * H ≤ 10000 := Nat.mul_le_mul hW hH
  have hc : (W : Int) * (H : Int) = ((W * H : Nat) : Int) := by simp
  have hmk := run_make_row' (P := Tryd.prog) 22 3 (.int .i64 0) 8 Tryd.underlying22 info_int rfl .i64 .i64 (W * H) (by omega) (by omega)
  obtain ⟨N, hN⟩ : ∃ N, W * H = N := ⟨_, rfl⟩
  rw [hN] at hn hc hmk ⊢
  clear hN
  go_enter Tryd.func123, Tryd.ntmps123
  go_wp2
  refine bodyPost_ret (v := .agg #[.int .i64 (W : Int), .int .i64 (H : Int), .slice (some ⟨w.heap.size + 1, 0, none⟩) N N]) (by simp [results, Tryd.results123, go_sem]) rfl ?_
  refine ⟨w.heap.size + 1, rfl, by omega, ?_, ((Below.refl _ _).alloc (Nat.le_refl _) _).alloc (by simp) _⟩
  have h := heap_alloc_new (w.alloc (.cells #[.int .i64 (W : Int), .int .i64 (H : Int), .slice (some ⟨w.heap.size + 1, 0, none⟩) N N] 51)) (.cells (madeCells #[.int .i64 0] N) 3)
  rw [World.size_alloc] at h
  rw [h]
  congr 2
  rw [← toList_madeCells_one]

theorem row_cel {w : World} {g : Nat} {xs : List Int} {t : TypeId} (h : w.heap[g]? = some (.cells (xs.map fun x => Value.int .i64 x).toArray t (0, 0))) : Cel w g xs := by
  refine ⟨(Array.getElem?_eq_some_iff.1 h).1, fun k hk => ?_, fun k => ?_⟩
  · simp [World.cell?, h, hk, List.getD]
  · simp [World.frozen?, h]
end Go.Proofs.YtjngjnkecnnmeaaDoor

namespace Go.Proofs.YtjngjnkecnnmeaaDoor
open Go.RowKit
set_option linter.unusedVariables false

/-- Of the first m cells that live: the least column and row, and behind the greatest. -/
structure Bx where
  l : Nat
  t : Nat
  r : Nat
  b : Nat
def bbx (W H : Nat) (xs : List Int) : Nat → Bx
  | 0 => ⟨W, H, 0, 0⟩
  | m + 1 => if xs.getD m 0 = 1 then ⟨min (bbx W H xs m).l (m % W), min (bbx W H xs m).t (m / W), max (bbx W H xs m).r (m % W + 1), max (bbx W H xs m).b (m / W + 1)⟩ else bbx W H xs m
theorem bbx_yes {W H m : Nat} {xs : List Int} (h : xs.getD m 0 = 1) : bbx W H xs (m + 1) = ⟨min (bbx W H xs m).l (m % W), min (bbx W H xs m).t (m / W), max (bbx W H xs m).r (m % W + 1), max (bbx W H xs m).b (m / W + 1)⟩ := by
  rw [bbx, if_pos h]
theorem bbx_no {W H m : Nat} {xs : List Int} (h : ¬ xs.getD m 0 = 1) : bbx W H xs (m + 1) = bbx W H xs m := by
  rw [bbx, if_neg h]
theorem bbx_le (W H : Nat) (xs : List Int) : ∀ m, m ≤ W * H → (bbx W H xs m).l ≤ W ∧ (bbx W H xs m).t ≤ H ∧ (bbx W H xs m).r ≤ W ∧ (bbx W H xs m).b ≤ H ∧ (((bbx W H xs m).r = 0 ∧ (bbx W H xs m).b = 0) ∨ ((bbx W H xs m).l < (bbx W H xs m).r ∧ (bbx W H xs m).t < (bbx W H xs m).b)) := by
  intro m
  induction m with
  | zero => intro _; simp [bbx]
  | succ m ih =>
    intro hm
    obtain ⟨h1, h2, h3, h4, h5⟩ := ih (by omega)
    by_cases q : xs.getD m 0 = 1
    · rw [bbx_yes q]
      obtain ⟨x, y, hx, hy, ex, ey, -⟩ := split_lt (W := W) (H := H) (i := m) (by omega)
      rw [ex, ey]
      dsimp only
      omega
    · rw [bbx_no q]; exact ⟨h1, h2, h3, h4, h5⟩

/-- Trimmed: the pattern, and what was left out to the left and above. -/
def trimP (p : Pat) : Pat × Nat × Nat :=
  let q := bbx p.W p.H p.xs (p.W * p.H)
  if q.r = 0 then (⟨0, 0, []⟩, 0, 0) else (⟨q.r - q.l, q.b - q.t, winP p.W q.l q.t (q.r - q.l) ((q.r - q.l) * (q.b - q.t)) p.xs⟩, q.l, q.t)
theorem trim_ok (p : Pat) : (trimP p).1.ok := by
  unfold trimP
  dsimp only
  split
  · rfl
  · simp [Pat.ok, winP]
theorem trim_le (p : Pat) (h1 : p.W ≤ 100) (h2 : p.H ≤ 100) : (trimP p).1.W ≤ 100 ∧ (trimP p).1.H ≤ 100 := by
  obtain ⟨a, b, c, d, -⟩ := bbx_le p.W p.H p.xs (p.W * p.H) (Nat.le_refl _)
  unfold trimP
  dsimp only
  split
  · exact ⟨Nat.zero_le _, Nat.zero_le _⟩
  · exact ⟨by dsimp only; omega, by dsimp only; omega⟩
end Go.Proofs.YtjngjnkecnnmeaaDoor

