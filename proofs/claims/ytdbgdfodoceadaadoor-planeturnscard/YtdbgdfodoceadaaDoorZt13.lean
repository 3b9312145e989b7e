/-
  What the last text of this claim leans on, part 13: Wd2, We1, Wf1, Gs1.
-/
import Derived.Test.YtdbgdfodoceadaaDoorZt12
import Derived.Test.YtdbgdfodoceadaaDoorZt8
import Derived.Test.YtdbgdfodoceadaaDoorZt9
import Derived.Laws.CopyOwn
namespace Go.Proofs.YtdbgdfodoceadaaDoor
open Go.RowKit
set_option linter.unusedVariables false

theorem TD.grown_some {w w3 : World} {b r : Obj} (hg : ((w.alloc b).alloc r).grownBy w3 none) : ∀ k, k < w.heap.size + 2 → w3.heap[k]? = ((w.alloc b).alloc r).heap[k]? := fun k hk => hg.block k (by simp; omega) (by simp)
theorem TD.mid_some {w w3 : World} {W H n c : Nat} {a : Addr} {t : TypeId} {r : Obj} (hg : ((w.alloc (.cells #[.int .i64 (W : Int), .int .i64 (H : Int), .slice (some a) n c] t)).alloc r).grownBy w3 none) : w3.cell? ⟨w.heap.size, 0, none⟩ = some (.int .i64 (W : Int)) ∧ w3.cell? ⟨w.heap.size, 1, none⟩ = some (.int .i64 (H : Int)) ∧ w3.cell? ⟨w.heap.size, 2, none⟩ = some (.slice (some a) n c) ∧ w3.frozen? ⟨w.heap.size, 2, none⟩ = false := by
  have h := ((TB.new w (.int .i64 (W : Int)) (.int .i64 (H : Int)) (.slice (some a) n c) t).alloc r).block (TD.grown_some hg _ (by omega))
  exact ⟨h.c0, h.c1, h.c2, h.fz 2⟩
theorem TD.start_some {w w3 : World} {W H c : Nat} {xs : List Int} {a : Addr} {v : Value} {t1 t2 : TypeId} (hp : Pat.ok ⟨W, H, xs⟩) (l1 : W ≤ 100) (l2 : H ≤ 100) (hg : ((w.alloc (.cells #[.int .i64 (W : Int), .int .i64 (H : Int), .slice (some a) xs.length c] t1)).alloc (.cells #[.int .i64 0, .int .i64 0, .slice none 0 0] t2)).grownBy w3 none)
    (ho : w3.ownsRow (w.heap.size + 2) 3 1 v (0 + xs.length) ([] ++ xs.map fun x => .int .i64 x)) : TD w (w3.setCell ⟨w.heap.size, 2, none⟩ v) ⟨W, H, xs⟩ v := by
  have hk := TD.grown_some hg
  have hb := ((TB.new w (.int .i64 (W : Int)) (.int .i64 (H : Int)) (.slice (some a) xs.length c) t1).alloc (.cells #[.int .i64 0, .int .i64 0, .slice none 0 0] t2)).block (hk _ (by omega))
  have r1 := TB.new (w.alloc (.cells #[.int .i64 (W : Int), .int .i64 (H : Int), .slice (some a) xs.length c] t1)) (.int .i64 0) (.int .i64 0) (.slice none 0 0) t2
  rw [World.size_alloc] at r1
  have hsz := hg.size
  simp only [World.size_alloc] at hsz
  rw [Nat.zero_add, List.nil_append] at ho
  refine ⟨⟨cell_other hb.c0 (by omega), cell_other hb.c1 (by omega), cell_same hb.c2, fun k => by rw [World.frozen?_setCell]; exact hb.fz k⟩, (r1.block (hk _ (by omega))).block (Below.heap_setCell _ _ _ _ (by simp)), ownsRow_tab (ownsRow_setCell_below ho (a := ⟨w.heap.size, 2, none⟩) (by simp) _), fun g k c e => ?_, hp, l1, l2, ?_, by rw [World.size_setCell]; omega⟩
  · rcases ho.2 with ⟨h1, -⟩ | ⟨g', cap, cur, h1, h2, -, h3, h4, -⟩
    · rw [h1] at e; cases e
    · rw [h1] at e
      injection e with e1 e2 e3
      injection e1 with e1
      injection e1 with e1
      subst e1 e2 e3
      exact ⟨h2, h3, h4⟩
  · refine Below.setCell (p := ⟨w.heap.size, 2, none⟩) ?_ (Nat.le_refl _) _
    exact (((Below.refl _ _).alloc (Nat.le_refl _) _).alloc (by simp) _).trans ⟨hg.os, hg.tape, hg.output, by simp only [World.size_alloc]; omega, fun k hkk => hk k (by omega)⟩
theorem own_form {w : World} {base : Nat} {v : Value} {xs : List Int} (h : w.ownsRow base 3 1 v (0 + xs.length) ([] ++ xs.map fun x => .int .i64 x)) : ∃ a c, v = .slice a xs.length c := by
  rw [Nat.zero_add, List.nil_append] at h
  rcases ownsRow_tab h with ⟨h1, h2⟩ | ⟨g, cap, h1, -⟩
  · subst h1; exact ⟨none, 0, h2⟩
  · exact ⟨_, cap, h1⟩
theorem TD.arg0 {w wr : World} {W H n c : Nat} {xs : List Int} {a : Option Addr} (h : TD w wr ⟨W, H, xs⟩ (.slice a n c)) : ArgP wr xs a xs.length c := by
  obtain ⟨a', c', e, ap⟩ := h.tab.arg (Nat.le_trans (small _ h.ok h.lW h.lH) (by unfold maxLen; omega))
  injection e with e1 e2 e3
  subst e1 e3
  exact ap
theorem news_arg {w : World} {xs : List Int} {a : Addr} {n c : Nat} (h : ArgP w xs (some a) n c) : ∀ (j : Nat) (u : Value), (xs.map fun x => Value.int .i64 x)[j]? = some u → w.cell? (a.add j) = some u := by
  intro j u hu
  rw [List.getElem?_map] at hu
  obtain ⟨x, hx, rfl⟩ := Option.map_eq_some_iff.1 hu
  obtain ⟨hj, he⟩ := List.getElem?_eq_some_iff.1 hx
  obtain ⟨g, off, e, hg, hc⟩ := h.cells j hj
  injection e with e1
  subst e1
  have ea : (⟨g, off, none⟩ : Addr).add j = ⟨g, off + j, none⟩ := by
    unfold Addr.add
    split
    · rename_i hz; subst hz; rfl
    · rfl
  rw [ea, hc, he]

set_option maxRecDepth 100000 in
set_option maxHeartbeats 1600000 in
theorem pturned_some (W H : Nat) (xs : List Int) (k : Nat) (a : Addr) (c : Nat) (w : World) (hP : ArgP w xs (some a) xs.length c) (hp : Pat.ok ⟨W, H, xs⟩) (lW : W ≤ 100) (lH : H ≤ 100) (hk : k < 8) :
    Calls Tryd.prog 59 #[.agg #[.int .i64 (W : Int), .int .i64 (H : Int), .slice (some a) xs.length c], .int .i64 (k : Int)] w (TurnedPostC (Pat.turn ⟨W, H, xs⟩ k) w) := by
  have hsm := small _ hp lW lH
  dsimp only at hsm
  have NW := hide' (news_arg ((hP.alloc (.cells #[.int .i64 (W : Int), .int .i64 (H : Int), .slice (some a) xs.length c] 26)).alloc (.cells #[.int .i64 0, .int .i64 0, .slice none 0 0] 26)))
  obtain ⟨i0, hi, hz0, hz1, hz2⟩ := info_parts info_int
  have OK0 := hide' (show (⟨W, H, xs⟩ : Pat).xs.length = W * H from hp)
  clear hP
  go_enter Tryd.func59, Tryd.ntmps59
  by_cases h4 : 4 ≤ k
  · have m4 : (4 : Int) ≤ (k : Int) := by omega
    go_wp2_with (at_builtin; refine wpList_append_own _ rfl _ _ 22 rfl (w.heap.size + 2) 3 i0 (.int .i64 0) 1 8 Tryd.underlying22 hi hz0 hz1 hz2 rfl (by decide) (.slice none 0 0) 0 [] rfl ⟨by simp, Or.inl ⟨rfl, by simp⟩⟩ a xs.length c (xs.map fun x => .int .i64 x) rfl (by simp) NW.out (fun x hx => by obtain ⟨y, -, rfl⟩ := List.mem_map.1 hx; rfl) (by unfold maxLen; omega) (by omega) (by simp) ?_; intro v' w3 hown' hgrow3 hnil3; obtain ⟨ta, tc, rfl⟩ := own_form hown'; have D0 := hide' (TD.start_some hp lW lH hgrow3 hown'); obtain ⟨x3, x4, x5, x6⟩ := TD.mid_some hgrow3; clear hgrow3 hown' hnil3)
    have AP0 := hide' (TD.arg0 D0.out)
    refine (pmirrored W H xs _ _ _ _ AP0.out D0.out.lW D0.out.lH OK0.out).mono ?_
    rintro e w2 ⟨g, rfl, hg, C, b2⟩
    have D := hide' (D0.out.next b2 (((⟨W, H, xs⟩ : Pat)).mir) g xs.length C (by rw [show xs.length = W * H from OK0.out]; exact mirP_length _ _ _) hg (ok_mir _) D0.out.lW D0.out.lH)
    obtain ⟨z0, z1, z2, zf⟩ := D0.out.box.next b2
    have h0 := zf 0
    have h1 := zf 1
    have h2 := zf 2
    clear hg C b2 zf
    go_wp2
    go_loopw [15] (fun jv wr => ∃ (j : Nat) (v : Value), jv = .int .i64 (j : Int) ∧ j ≤ k % 4 ∧ TD w wr ((((⟨W, H, xs⟩ : Pat)).mir).rot j) v) (fun jv _ => k % 4 - (intOf jv).toNat)
    case atStart => exact ⟨0, _, rfl, by omega, D.out⟩
    case round =>
      obtain ⟨j, v, rfl, hj, td⟩ := hrel
      have D2 := hide' td
      obtain ⟨a2, c2, rfl, ap⟩ := td.tab.arg (Nat.le_trans (small _ td.ok td.lW td.lH) (by unfold maxLen; omega))
      have AP := hide' ap
      obtain ⟨x0, x1, x2, xf⟩ := td.box
      obtain ⟨r0, r1, r2, rf⟩ := td.res
      have f0 := xf 0
      have f1 := xf 1
      have f2 := xf 2
      have e0 := rf 0
      have e1 := rf 1
      have e2 := rf 2
      have OK := hide' (show ((((⟨W, H, xs⟩ : Pat)).mir).rot j).xs.length = ((((⟨W, H, xs⟩ : Pat)).mir).rot j).W * ((((⟨W, H, xs⟩ : Pat)).mir).rot j).H from td.ok)
      clear td ap xf rf D
      by_cases d : j < k % 4
      · have m1 : (j : Int) < (k : Int) % 4 := by omega
        go_wp2_with fail
        refine (pquarter ((((⟨W, H, xs⟩ : Pat)).mir).rot j).W ((((⟨W, H, xs⟩ : Pat)).mir).rot j).H ((((⟨W, H, xs⟩ : Pat)).mir).rot j).xs a2 _ c2 _ AP.out D2.out.lW D2.out.lH OK.out).mono ?_
        rintro e w2 ⟨g, rfl, hg, C, b2⟩
        have D3 := hide' (D2.out.next b2 (((((⟨W, H, xs⟩ : Pat)).mir).rot j).qtr) g ((((⟨W, H, xs⟩ : Pat)).mir).rot j).xs.length C (by rw [OK.out, Nat.mul_comm]; exact qtrP_length _ _ _) hg (ok_qtr _) D2.out.lH D2.out.lW)
        obtain ⟨z0, z1, z2, zf⟩ := D2.out.box.next b2
        have h0 := zf 0
        have h1 := zf 1
        have h2 := zf 2
        clear x0 x1 x2 r0 r1 r2 f0 f1 f2 e0 e1 e2 hg C b2 zf
        go_wp2
        exact ⟨⟨j + 1, _, by go_num, by omega, D3.out⟩, by simp [intOf]; omega⟩
      · have m1 : ¬ (j : Int) < (k : Int) % 4 := by omega
        have J := hide' (show j = k % 4 by omega)
        clear d
        go_wp2
        refine bodyPost_ret (v := .agg #[.int .i64 (((((⟨W, H, xs⟩ : Pat)).mir).rot j).W : Int), .int .i64 (((((⟨W, H, xs⟩ : Pat)).mir).rot j).H : Int), .slice a2 ((((⟨W, H, xs⟩ : Pat)).mir).rot j).xs.length c2]) (by simp [results, Tryd.results59, go_sem, r0, r1, r2]) rfl ?_
        have hq : Pat.turn (⟨W, H, xs⟩ : Pat) k = (((⟨W, H, xs⟩ : Pat)).mir).rot j := by rw [J.out]; unfold Pat.turn; rw [if_pos h4]
        rw [hq]
        have hz := D2.out.sz
        refine ⟨_, rfl, ?_, fun g k c e => by have := D2.out.fresh g k c e; omega, ((D2.out.below.setCell (by simp) _).setCell (by simp) _).setCell (by simp) _⟩
        rcases D2.out.tab with h | ⟨g, cap, e, hg, hc⟩
        · exact Or.inl h
        · exact Or.inr ⟨g, cap, e, by rw [World.size_setCell, World.size_setCell, World.size_setCell]; exact hg, fun i hi => (World.cell?_of_block (w := wr) (a := ⟨g, i, none⟩) (stored_blk wr (w.heap.size + 1) g _ _ _ (by have := D2.out.fresh g _ _ e; omega))).trans (hc i hi)⟩
  · have m4 : ¬ (4 : Int) ≤ (k : Int) := by omega
    go_wp2_with (at_builtin; refine wpList_append_own _ rfl _ _ 22 rfl (w.heap.size + 2) 3 i0 (.int .i64 0) 1 8 Tryd.underlying22 hi hz0 hz1 hz2 rfl (by decide) (.slice none 0 0) 0 [] rfl ⟨by simp, Or.inl ⟨rfl, by simp⟩⟩ a xs.length c (xs.map fun x => .int .i64 x) rfl (by simp) NW.out (fun x hx => by obtain ⟨y, -, rfl⟩ := List.mem_map.1 hx; rfl) (by unfold maxLen; omega) (by omega) (by simp) ?_; intro v' w3 hown' hgrow3 hnil3; obtain ⟨ta, tc, rfl⟩ := own_form hown'; have D0 := hide' (TD.start_some hp lW lH hgrow3 hown'); obtain ⟨x3, x4, x5, x6⟩ := TD.mid_some hgrow3; clear hgrow3 hown' hnil3)
    have AP0 := hide' (TD.arg0 D0.out)
    have D := D0
    go_loopw [15] (fun jv wr => ∃ (j : Nat) (v : Value), jv = .int .i64 (j : Int) ∧ j ≤ k % 4 ∧ TD w wr (((⟨W, H, xs⟩ : Pat)).rot j) v) (fun jv _ => k % 4 - (intOf jv).toNat)
    case atStart => exact ⟨0, _, rfl, by omega, D.out⟩
    case round =>
      obtain ⟨j, v, rfl, hj, td⟩ := hrel
      have D2 := hide' td
      obtain ⟨a2, c2, rfl, ap⟩ := td.tab.arg (Nat.le_trans (small _ td.ok td.lW td.lH) (by unfold maxLen; omega))
      have AP := hide' ap
      obtain ⟨x0, x1, x2, xf⟩ := td.box
      obtain ⟨r0, r1, r2, rf⟩ := td.res
      have f0 := xf 0
      have f1 := xf 1
      have f2 := xf 2
      have e0 := rf 0
      have e1 := rf 1
      have e2 := rf 2
      have OK := hide' (show (((⟨W, H, xs⟩ : Pat)).rot j).xs.length = (((⟨W, H, xs⟩ : Pat)).rot j).W * (((⟨W, H, xs⟩ : Pat)).rot j).H from td.ok)
      clear td ap xf rf D
      by_cases d : j < k % 4
      · have m1 : (j : Int) < (k : Int) % 4 := by omega
        go_wp2_with fail
        refine (pquarter (((⟨W, H, xs⟩ : Pat)).rot j).W (((⟨W, H, xs⟩ : Pat)).rot j).H (((⟨W, H, xs⟩ : Pat)).rot j).xs a2 _ c2 _ AP.out D2.out.lW D2.out.lH OK.out).mono ?_
        rintro e w2 ⟨g, rfl, hg, C, b2⟩
        have D3 := hide' (D2.out.next b2 ((((⟨W, H, xs⟩ : Pat)).rot j).qtr) g (((⟨W, H, xs⟩ : Pat)).rot j).xs.length C (by rw [OK.out, Nat.mul_comm]; exact qtrP_length _ _ _) hg (ok_qtr _) D2.out.lH D2.out.lW)
        obtain ⟨z0, z1, z2, zf⟩ := D2.out.box.next b2
        have h0 := zf 0
        have h1 := zf 1
        have h2 := zf 2
        clear x0 x1 x2 r0 r1 r2 f0 f1 f2 e0 e1 e2 hg C b2 zf
        go_wp2
        exact ⟨⟨j + 1, _, by go_num, by omega, D3.out⟩, by simp [intOf]; omega⟩
      · have m1 : ¬ (j : Int) < (k : Int) % 4 := by omega
        have J := hide' (show j = k % 4 by omega)
        clear d
        go_wp2
        refine bodyPost_ret (v := .agg #[.int .i64 ((((⟨W, H, xs⟩ : Pat)).rot j).W : Int), .int .i64 ((((⟨W, H, xs⟩ : Pat)).rot j).H : Int), .slice a2 (((⟨W, H, xs⟩ : Pat)).rot j).xs.length c2]) (by simp [results, Tryd.results59, go_sem, r0, r1, r2]) rfl ?_
        have hq : Pat.turn (⟨W, H, xs⟩ : Pat) k = ((⟨W, H, xs⟩ : Pat)).rot j := by rw [J.out]; unfold Pat.turn; rw [if_neg h4]
        rw [hq]
        have hz := D2.out.sz
        refine ⟨_, rfl, ?_, fun g k c e => by have := D2.out.fresh g k c e; omega, ((D2.out.below.setCell (by simp) _).setCell (by simp) _).setCell (by simp) _⟩
        rcases D2.out.tab with h | ⟨g, cap, e, hg, hc⟩
        · exact Or.inl h
        · exact Or.inr ⟨g, cap, e, by rw [World.size_setCell, World.size_setCell, World.size_setCell]; exact hg, fun i hi => (World.cell?_of_block (w := wr) (a := ⟨g, i, none⟩) (stored_blk wr (w.heap.size + 1) g _ _ _ (by have := D2.out.fresh g _ _ e; omega))).trans (hc i hi)⟩
end Go.Proofs.YtdbgdfodoceadaaDoor

namespace Go.Proofs.YtdbgdfodoceadaaDoor
open Go.RowKit
set_option linter.unusedVariables false

/-- The q-th cell of a window V wide that begins at l, t. -/
def winC (W l t V : Nat) (xs : List Int) (q : Nat) : Int := atP W xs (l + q % V) (t + q / V)
def winP (W l t V N : Nat) (xs : List Int) : List Int := (List.range N).map (winC W l t V xs)
end Go.Proofs.YtdbgdfodoceadaaDoor

namespace Go.Proofs.YtdbgdfodoceadaaDoor
open Go.RowKit
set_option linter.unusedVariables false

/-- Of the first m cells that live: the least column and row, and behind the greatest. -/
structure Bx where
  l : Nat
  t : Nat
  r : Nat
  b : Nat
def bbx (W H : Nat) (xs : List Int) : Nat → Bx
  | 0 => ⟨W, H, 0, 0⟩
  | m + 1 => if xs.getD m 0 = 1 then ⟨min (bbx W H xs m).l (m % W), min (bbx W H xs m).t (m / W), max (bbx W H xs m).r (m % W + 1), max (bbx W H xs m).b (m / W + 1)⟩ else bbx W H xs m
theorem bbx_yes {W H m : Nat} {xs : List Int} (h : xs.getD m 0 = 1) : bbx W H xs (m + 1) = ⟨min (bbx W H xs m).l (m % W), min (bbx W H xs m).t (m / W), max (bbx W H xs m).r (m % W + 1), max (bbx W H xs m).b (m / W + 1)⟩ := by
  rw [bbx, if_pos h]
theorem bbx_no {W H m : Nat} {xs : List Int} (h : ¬ xs.getD m 0 = 1) : bbx W H xs (m + 1) = bbx W H xs m := by
  rw [bbx, if_neg h]
/-- Trimmed: the pattern, and what was left out to the left and above. -/
def trimP (p : Pat) : Pat × Nat × Nat :=
  let q := bbx p.W p.H p.xs (p.W * p.H)
  if q.r = 0 then (⟨0, 0, []⟩, 0, 0) else (⟨q.r - q.l, q.b - q.t, winP p.W q.l q.t (q.r - q.l) ((q.r - q.l) * (q.b - q.t)) p.xs⟩, q.l, q.t)
end Go.Proofs.YtdbgdfodoceadaaDoor

namespace Go.Proofs.YtdbgdfodoceadaaDoor
open Go.RowKit
set_option linter.unusedVariables false
/-- The words of a sheet, the first cells of a pattern being laid. -/
def stX (W : Nat) (xs : List Int) : Nat → Nat → Nat
  | 0, _ => 0
  | i + 1, k => if k = i / W * 2 + i % W / 64 then stX W xs i k ||| (xs.getD i 0).toNat * 2 ^ (i % W % 64) else stX W xs i k
theorem stX_lt {W : Nat} {xs : List Int} (hx : ∀ k, 0 ≤ xs.getD k 0 ∧ xs.getD k 0 ≤ 1) : ∀ i k, stX W xs i k < 18446744073709551616
  | 0, k => by simp [stX]
  | i + 1, k => by
    have ih := stX_lt (W := W) hx i k
    rw [stX]
    split
    · refine Nat.or_lt_two_pow (n := 64) ih ?_
      have h := hx i
      have h2 : 2 ^ (i % W % 64) ≤ 2 ^ 63 := Nat.pow_le_pow_right (by omega) (by omega)
      have h3 : (xs.getD i 0).toNat ≤ 1 := by omega
      have h4 : (xs.getD i 0).toNat * 2 ^ (i % W % 64) ≤ 1 * 2 ^ (i % W % 64) := Nat.mul_le_mul_right _ h3
      omega
    · exact ih
/-- What lies there while the cells are laid. -/
structure TX (w w4 wr : World) (Y : Nat → Nat) : Prop where
  keep : ∀ k, k < w.heap.size + 1 + 1 → wr.heap[k]? = w4.heap[k]?
  sheet : wr.heap[w.heap.size + 1 + 1]? = some (.cells (arrF 204 (uF Y)) 87 (0, 0))
  below : Below w.heap.size w wr
theorem TX.set {w w4 wr : World} {Y : Nat → Nat} (h : TX w w4 wr Y) (i v : Nat) : TX w w4 (wr.setCell ⟨w.heap.size + 1 + 1, i, none⟩ (.int .u64 (v : Int))) (fun k => if k = i then v else Y k) := by
  refine ⟨fun k hk => (Below.heap_setCell _ _ _ _ (by simp; omega)).trans (h.keep k hk), ?_, h.below.setCell (by simp; omega) _⟩
  rw [heap_setCell_same _ _ _ _ _ _ h.sheet, arrF_set]
  rw [arrF_ext (fun k _ => show (if k = i then Value.int .u64 (v : Int) else uF Y k) = uF (fun k => if k = i then v else Y k) k by unfold uF; by_cases q : k = i <;> simp [q])]
theorem TX.ext {w w4 wr : World} {Y Y' : Nat → Nat} (h : TX w w4 wr Y) (e : ∀ k, k < 204 → Y k = Y' k) : TX w w4 wr Y' :=
  ⟨h.keep, by rw [arrF_ext (fun k hk => show uF Y' k = uF Y k by unfold uF; rw [e k hk])]; exact h.sheet, h.below⟩
theorem TX.drewN {w w4 wr : World} {Y : Nat → Nat} (h : TX w w4 wr Y) (n : Nat) : TX w w4 (wr.drewN n) Y := ⟨h.keep, h.sheet, below_drewN h.below n⟩
set_option maxRecDepth 100000 in
set_option maxHeartbeats 12800000 in
theorem settle_any (W H : Nat) (xs : List Int) (a : Option Addr) (n c : Nat) (Z : Array Value) (w : World) (hP : ArgP w xs a n c) (hn : xs.length = W * H) (hx : ∀ k, 0 ≤ xs.getD k 0 ∧ xs.getD k 0 ≤ 1) (hW : W ≤ 100) (hH : H ≤ 100) (hT : TzTab w) (zs : Z.size = 208) (za : Z.all (·.oneCell') = true)
    (hbox : ∀ w', TzTab w' → Calls Tryd.prog 80 #[.agg (arrF 204 (uF (stX W xs (W * H)))), .int .i64 0, .int .i64 0] w' fun e w'' => e = .returned (.agg Z) ∧ Below w'.heap.size w' w'') :
    Calls Tryd.prog 49 #[.agg #[.int .i64 (W : Int), .int .i64 (H : Int), .slice a n c]] w fun e w' => e = .returned (.agg Z) ∧ Below w.heap.size w w' := by
  obtain ⟨w4, hw4⟩ : ∃ w4, ((w.alloc (.cells #[.int .i64 (W : Int), .int .i64 (H : Int), .slice a n c] 26)).alloc (.cells Tryd.zeroCells89 89)).alloc (.cells Tryd.zeroCells87 87) = w4 := ⟨_, rfl⟩
  have BB : Below w.heap.size w w4 := by rw [← hw4]; repeat (first | exact Below.refl _ _ | refine Below.alloc ?_ (by simp; try omega) _)
  have g0 : w4.heap[w.heap.size]? = some (.cells #[.int .i64 (W : Int), .int .i64 (H : Int), .slice a n c] 26 (0, 0)) := by rw [← hw4, Below.heap_alloc _ _ _ (by simp; try omega), Below.heap_alloc _ _ _ (by simp; try omega)]; exact heap_atX _ _ _ (by simp)
  have g1 : w4.heap[w.heap.size + 1]? = some (.cells Tryd.zeroCells89 89 (0, 0)) := by rw [← hw4, Below.heap_alloc _ _ _ (by simp; try omega)]; exact heap_atX _ _ _ (by simp)
  have X0 : TX w w4 w4 (stX W xs 0) := ⟨fun _ _ => rfl, by rw [arrF_ext (fun k _ => show uF (stX W xs 0) k = uF (fun _ => 0) k from rfl), ← zero_sheet, ← hw4]; exact heap_atX _ _ _ (by simp), BB⟩
  have XZ := hide' X0
  have G0 := hide' g0
  have G1 := hide' g1
  have HP := hide' hP
  have NL : n = W * H := by rw [hP.len]; exact hn
  have WH : W * H ≤ 10000 := Nat.mul_le_mul hW hH
  have n4 : n ≤ 10000 := by omega
  rw [← NL] at hbox
  have HT := hide' hT
  have HX := hide' hx
  have HBX := hide' hbox
  have NLH := hide' NL
  have p2 := cell_of_row w4 _ 2 _ _ _ g0
  simp at p2
  clear g0 g1 X0 BB hT hx hbox hP hn NL WH
  go_enter Tryd.func49, Tryd.ntmps49
  go_wp2
  clear hw4
  go_loopw [11] (fun iv wr => ∃ (i : Nat), iv = .int .i64 (i : Int) ∧ i ≤ n ∧ Hid (TX w w4 wr (stX W xs i))) (fun iv _ => n - (intOf iv).toNat)
  case atStart => exact ⟨0, rfl, by omega, XZ⟩
  case round =>
    obtain ⟨i, rfl, hi, H1⟩ := hrel
    by_cases d2 : (i : Int) < (n : Int)
    · have il : i < W * H := by rw [← NLH.out]; omega
      obtain ⟨x, y, hx, hy, ex, ey, -⟩ := split_lt (W := W) (H := H) (i := i) il
      have gp := (H1.out.keep _ (by omega)).trans G0.out
      have q0 := cell_of_row wr _ 0 _ _ _ gp
      simp at q0
      obtain ⟨g, o, rfl, hc⟩ := (HP.out.below H1.out.below).atP (k := i) (by omega)
      obtain ⟨z, hz⟩ : ∃ z : Nat, xs.getD i 0 = (z : Int) := ⟨(xs.getD i 0).toNat, by have := HX.out i; omega⟩
      rw [hz] at hc
      have zl : z ≤ 1 := by have := HX.out i; omega
      have e1 : (i : Int).tmod (W : Int) = (x : Int) := by rw [Int.tmod_eq_emod_of_nonneg (by omega), ← ex]; simp
      have e2 : (i : Int).tdiv (W : Int) = (y : Int) := by rw [Int.tdiv_eq_ediv_of_nonneg (by omega), ← ey]; simp
      have nW : ¬ (W : Int) = 0 := by omega
      obtain ⟨h, hh⟩ : ∃ h : Nat, x / 64 = h := ⟨_, rfl⟩
      obtain ⟨b, hb⟩ : ∃ b : Nat, x % 64 = b := ⟨_, rfl⟩
      have hl : h < 2 := by omega
      have bl : b < 64 := by omega
      have e3 : (x : Int).tdiv 64 = (h : Int) := by rw [Int.tdiv_eq_ediv_of_nonneg (by omega), ← hh]; simp
      have e4 : (x : Int).tmod 64 = (b : Int) := by rw [Int.tmod_eq_emod_of_nonneg (by omega), ← hb]; simp
      have hli : (h : Int) < 2 := by omega
      have yli : (y : Int) < 102 := by omega
      obtain ⟨old, hold⟩ : ∃ v, stX W xs i (y * 2 + h) = v := ⟨_, rfl⟩
      have oldl : old < 18446744073709551616 := by rw [← hold]; exact stX_lt HX.out ..
      have cs : wr.cell? ⟨w.heap.size + 1 + 1, y * 2 + h, none⟩ = some (.int .u64 (old : Int)) := by rw [cell_of_row wr _ _ _ _ _ H1.out.sheet, arrF_get _ (by omega), uF, hold]
      have fs := frozen_of_row wr _ (y * 2 + h) _ _ H1.out.sheet
      obtain ⟨m, hm⟩ : ∃ m : Nat, z * 2 ^ b = m := ⟨_, rfl⟩
      have ml : m < 18446744073709551616 := by
        have h2 : 2 ^ b ≤ 2 ^ 63 := Nat.pow_le_pow_right (by omega) (by omega)
        have h4 : z * 2 ^ b ≤ 1 * 2 ^ b := Nat.mul_le_mul_right _ zl
        omega
      have uz : IntKind.u64.wrap (z : Int) = (z : Int) := by rw [IntKind.wrap_u64]; omega
      have um : IntKind.u64.wrap ((z : Int) * 2 ^ b) = (m : Int) := by
        have e : (z : Int) * 2 ^ b = (m : Int) := by rw [← hm]; simp
        rw [IntKind.wrap_u64, e]; omega
      have um2 : IntKind.u64.wrap ((z : Int) * 2 ^ min b 64) = (m : Int) := by rw [show min b 64 = b by omega]; exact um
      have uo := u64_or_nat old m oldl ml
      obtain ⟨nw, hnw⟩ : ∃ v, old ||| m = v := ⟨_, rfl⟩
      rw [hnw] at uo
      have NX := hide' (fun (V : World) (hV : TX w w4 V (stX W xs i)) => show TX w w4 (V.setCell ⟨w.heap.size + 1 + 1, y * 2 + h, none⟩ (.int .u64 (nw : Int))) (stX W xs (i + 1)) from
        (hV.set (y * 2 + h) nw).ext (fun k _ => by
          rw [stX, ex, ey, hh, hb, hz, Int.toNat_natCast, hm]
          by_cases q : k = y * 2 + h
          · rw [if_pos q, if_pos q, q, hold, hnw]
          · rw [if_neg q, if_neg q]))
      have w1 := wrap_natP h (by omega)
      have w2 := wrap_natP b (by omega)
      clear gp ex ey hh hb hold oldl hm ml hnw hz il hx hy
      go_wp2
      go_quiet (fail)
      go_wp2
      go_region
      all_goals go_wp2
      all_goals exact ⟨⟨i + 1, by go_num, by omega, hide' (show TX w w4 ((wr.setCell ⟨w.heap.size + 1 + 1, y * 2 + h, none⟩ (.int .u64 (nw : Int))).drewN (nq + 1)) (stX W xs (i + 1)) from (NX.out wr H1.out).drewN _)⟩, by simp [intOf]; omega⟩
    · have iN : i = n := by omega
      have HS0 := H1.out
      rw [iN] at HS0
      have gs := HS0.sheet
      obtain ⟨A, hA⟩ : ∃ A, arrF 204 (uF (stX W xs n)) = A := ⟨_, rfl⟩
      have asz : A.size = 204 := by rw [← hA, arrF_size]
      rw [hA] at gs HBX
      have g2 := (HS0.keep _ (by omega)).trans G1.out
      have T2 := hide' (HT.out.below HS0.below)
      have BW := hide' HS0.below
      have SZ := hide' (lt_of_block g2)
      clear iN HS0 H1 hA
      go_wp2_with (first
        | (refine wpList_load_row rfl 87 _ rfl (w.heap.size + 1 + 1) rfl 87 A (0, 0) _ gs Tryd.underlying87 rfl (by rw [asz]; kernel_rfl) ?_)
        | (go_at_call 80; refine (HBX.out wr T2.out).mono ?_))
      rintro e w5 rfl b5
      have g5 := (b5.block _ SZ.out).trans g2
      have B5 := hide' (BW.out.trans (b5.mono BW.out.size))
      clear b5
      go_wp2_with (first
        | (refine wpList_store_row rfl 89 _ _ rfl (w.heap.size + 1) Z rfl rfl 89 _ g5 (by rw [zs]; kernel_rfl) (by rw [zs, zero_grown, arrF_size]) za ?_))
      refine bodyPost_ret (v := .agg Z) (results_cell_row Tryd.results49 _ _ (w.heap.size + 1) 89 _ (0, 0) _ rfl (setRow_heap _ _ _ _ _ _ g5) Tryd.underlying89 rfl (by rw [zs]; kernel_rfl)) rfl ?_
      exact ⟨rfl, below_setRow B5.out (by omega) _⟩
end Go.Proofs.YtdbgdfodoceadaaDoor

