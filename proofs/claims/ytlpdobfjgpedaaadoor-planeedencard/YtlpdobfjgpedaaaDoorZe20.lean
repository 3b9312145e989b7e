/-
  What the last text of this claim leans on, part 20: Gs2, Bk7, Bk8, Bk9, Bka.
-/
import Derived.Test.YtlpdobfjgpedaaaDoorZe16
import Derived.Test.YtlpdobfjgpedaaaDoorZe19
import Derived.Test.YtlpdobfjgpedaaaDoorZe2
import Derived.Test.YtlpdobfjgpedaaaDoorZe15
import Derived.Test.YtlpdobfjgpedaaaDoorZe12
import Derived.Deep.AppendLies
import Derived.Deep.RegionLaw
import Derived.Deep.CutRange
namespace Go.Proofs.YtlpdobfjgpedaaaDoor
open Go.RowKit
set_option linter.unusedVariables false
set_option maxRecDepth 100000 in
set_option maxHeartbeats 6400000 in
theorem tooGreat_any (X : Nat → Nat) (W H r d : Int) (w : World) :
    Calls Tryd.prog 47 #[.agg (arrF 208 (grF X W H r d))] w fun e w' => e = .returned (.bool (decide (100 < W) || decide (100 < H))) ∧ Below w.heap.size w w' := by
  obtain ⟨G, hG⟩ : ∃ G, arrF 208 (grF X W H r d) = G := ⟨_, rfl⟩
  obtain ⟨w1, hw1⟩ : ∃ w1, w.alloc (.cells G 113) = w1 := ⟨_, rfl⟩
  have BB := hide' (show Below w.heap.size w w1 by rw [← hw1]; exact (Below.refl _ _).alloc (Nat.le_refl _) _)
  have g0 : w1.heap[w.heap.size]? = some (.cells G 113 (0, 0)) := by rw [← hw1]; exact heap_alloc_new _ _
  have c0 : w1.cell? ⟨w.heap.size, 204, none⟩ = some (.int .i64 W) := by rw [cell_of_row w1 _ _ _ _ _ g0, ← hG, arrF_get _ (by omega)]; rfl
  have c1 : w1.cell? ⟨w.heap.size, 205, none⟩ = some (.int .i64 H) := by rw [cell_of_row w1 _ _ _ _ _ g0, ← hG, arrF_get _ (by omega)]; rfl
  rw [hG]
  clear hG g0
  by_cases h : 100 < W
  · have h2 : decide (100 < W) = true := by simp [h]
    rw [h2]
    go_enter Tryd.func47, Tryd.ntmps47
    go_wp2
    go_ret
    exact ⟨rfl, BB.out⟩
  · have h2 : decide (100 < W) = false := by simp [h]
    rw [h2]
    go_enter Tryd.func47, Tryd.ntmps47
    go_wp2
    go_ret
    exact ⟨by simp, BB.out⟩
theorem drew_keep {w w1 : World} {k : Nat} (h : w.heap[k]? = w1.heap[k]?) : w.drew.heap[k]? = w1.heap[k]? := h
theorem cut3P {A B C : Type} {P Φ : A → B → C → Prop} {G : Prop} (h : (∀ a b c, P a b c → Φ a b c) → G) (k : ∀ a b c, P a b c → Φ a b c) : G := h k
/-- A cell of a sheet, by its number in the pattern. -/
def patX (X : Nat → Nat) (W i : Nat) : Nat := X (i / W * 2 + i % W / 64) / 2 ^ (i % W % 64) % 2
/-- What lies there while the pattern is made. -/
structure PX (w w1 wr : World) (W H : Nat) (n p q : Nat) (f : Nat → Value) : Prop where
  keep : ∀ k, k < w.heap.size + 1 + 1 → wr.heap[k]? = w1.heap[k]?
  pat : wr.heap[p]? = some (.cells #[.int .i64 (W : Int), .int .i64 (H : Int), .slice (some ⟨q, 0, none⟩) n n] 26 (0, 0))
  out : wr.heap[q]? = some (.cells (arrF n f) 3 (0, 0))
  pl : w.heap.size + 1 + 1 ≤ p
  ql : w.heap.size + 1 + 1 ≤ q
  ne : p ≠ q
  below : Below w.heap.size w wr
theorem made_arr (n : Nat) : madeCells #[Value.int .i64 0] n = arrF n (fun _ => .int .i64 0) := by
  apply Array.ext'
  rw [toList_madeCells_one]
  simp [arrF, List.map_const']
theorem PX.set {w w1 wr : World} {W H n p q : Nat} {f : Nat → Value} (h : PX w w1 wr W H n p q f) (i : Nat) (v : Value) : PX w w1 (wr.setCell ⟨q, i, none⟩ v) W H n p q (fun k => if k = i then v else f k) :=
  ⟨fun k hk => (Below.heap_setCell _ _ _ _ (by have := h.ql; simp; omega)).trans (h.keep k hk), two_other h.pat _ _ _ h.ne, by rw [heap_setCell_same _ _ _ _ _ _ h.out, arrF_set], h.pl, h.ql, h.ne, h.below.setCell (by have := h.ql; simp; omega) _⟩
theorem PX.ext {w w1 wr : World} {W H n p q : Nat} {f g : Nat → Value} (h : PX w w1 wr W H n p q f) (e : ∀ k, k < n → f k = g k) : PX w w1 wr W H n p q g := ⟨h.keep, h.pat, by rw [← arrF_ext e]; exact h.out, h.pl, h.ql, h.ne, h.below⟩
theorem PX.drewN {w w1 wr : World} {W H n p q : Nat} {f : Nat → Value} (h : PX w w1 wr W H n p q f) (k : Nat) : PX w w1 (wr.drewN k) W H n p q f := ⟨h.keep, h.pat, h.out, h.pl, h.ql, h.ne, below_drewN h.below k⟩
set_option maxRecDepth 100000 in
set_option maxHeartbeats 12800000 in
theorem pattern_any (X : Nat → Nat) (W H : Nat) (r d : Int) (w : World) (hX : ∀ k, X k < 18446744073709551616) (hW : W ≤ 100) (hH : H ≤ 100) :
    Calls Tryd.prog 48 #[.agg (arrF 208 (grF X (W : Int) (H : Int) r d))] w fun e w' => (∃ q, e = .returned (.agg #[.int .i64 (W : Int), .int .i64 (H : Int), .slice (some ⟨q, 0, none⟩) (W * H) (W * H)]) ∧ w.heap.size ≤ q ∧ w'.heap[q]? = some (.cells (arrF (W * H) (fun k => .int .i64 ((patX X W k : Nat) : Int))) 3 (0, 0))) ∧ Below w.heap.size w w' := by
  obtain ⟨G, hG⟩ : ∃ G, arrF 208 (grF X (W : Int) (H : Int) r d) = G := ⟨_, rfl⟩
  obtain ⟨w1, hw1⟩ : ∃ w1, (w.alloc (.cells G 113)).alloc (.cells #[.int .i64 0, .int .i64 0, .slice none 0 0] 26) = w1 := ⟨_, rfl⟩
  have BB : Below w.heap.size w w1 := by rw [← hw1]; exact ((Below.refl _ _).alloc (Nat.le_refl _) _).alloc (by simp) _
  have g0 : w1.heap[w.heap.size]? = some (.cells G 113 (0, 0)) := by rw [← hw1, Below.heap_alloc _ _ _ (by simp)]; exact heap_alloc_new _ _
  have g1 : w1.heap[w.heap.size + 1]? = some (.cells #[.int .i64 0, .int .i64 0, .slice none 0 0] 26 (0, 0)) := by rw [← hw1]; exact heap_atX _ _ _ (by simp)
  have c0 : w1.cell? ⟨w.heap.size, 204, none⟩ = some (.int .i64 (W : Int)) := by rw [cell_of_row w1 _ _ _ _ _ g0, ← hG, arrF_get _ (by omega)]; rfl
  have c1 : w1.cell? ⟨w.heap.size, 205, none⟩ = some (.int .i64 (H : Int)) := by rw [cell_of_row w1 _ _ _ _ _ g0, ← hG, arrF_get _ (by omega)]; rfl
  have s1 : w1.heap.size = w.heap.size + 1 + 1 := by rw [← hw1]; simp
  obtain ⟨n, hn⟩ : ∃ n, W * H = n := ⟨_, rfl⟩
  have NH := hide' hn
  have n4 : n ≤ 10000 := by rw [← hn]; exact Nat.mul_le_mul hW hH
  have en : (W : Int) * (H : Int) = (n : Int) := by rw [← hn]; simp
  have hmk := run_make_row' (P := Tryd.prog) 22 3 (.int .i64 0) 8 Tryd.underlying22 info_int rfl .i64 .i64 n (by omega) (by omega)
  rw [hn, hG]
  have HG := hide' hG
  have G0 := hide' g0
  have G1 := hide' g1
  have BH := hide' BB
  have HX := hide' hX
  clear hn hG g0 g1 BB hX
  go_enter Tryd.func48, Tryd.ntmps48
  go_wp2
  refine cut3P (P := fun p q V => Hid (PX w w1 V W H n p q (fun _ => .int .i64 0))) (Φ := ?PH) (fun CUT => ?mn) ?rs
  case mn =>
    go_region
    · obtain ⟨p, hp⟩ : ∃ p, w.heap.size + 1 + 1 + 1 = p := ⟨_, rfl⟩
      obtain ⟨q, hq⟩ : ∃ q, w.heap.size + 1 + 1 = q := ⟨_, rfl⟩
      rw [hp, hq]
      obtain ⟨V, hV⟩ : ∃ V, ((w1.alloc (.cells (madeCells #[.int .i64 0] n) 3)).alloc (.cells #[.int .i64 (W : Int), .int .i64 (H : Int), .slice (some ⟨q, 0, none⟩) n n] 26)).drew = V := ⟨_, rfl⟩
      rw [hV]
      have T8 := hide' (show PX w w1 V W H n p q (fun _ => .int .i64 0) from by
        rw [← hV]
        exact ⟨fun k hk => drew_keep ((Below.heap_alloc _ _ _ (by simp; omega)).trans (Below.heap_alloc _ _ _ (by omega))), drew_block (heap_atX _ _ _ (by simp; omega)), drew_block ((Below.heap_alloc _ _ _ (by simp; omega)).trans (by rw [made_arr]; exact heap_atX _ _ _ (by omega))), by omega, by omega, by omega, ((BH.out.alloc (by omega) _).alloc (by simp; omega) _).drew⟩)
      exact CUT _ _ _ T8
    · obtain ⟨q, hp⟩ : ∃ p, w.heap.size + 1 + 1 + 1 = p := ⟨_, rfl⟩
      obtain ⟨p, hq⟩ : ∃ q, w.heap.size + 1 + 1 = q := ⟨_, rfl⟩
      rw [hp, hq]
      obtain ⟨V, hV⟩ : ∃ V, ((w1.alloc (.cells #[.int .i64 (W : Int), .int .i64 (H : Int), .slice (some ⟨q, 0, none⟩) n n] 26)).alloc (.cells (madeCells #[.int .i64 0] n) 3)).drew = V := ⟨_, rfl⟩
      rw [hV]
      have T8 := hide' (show PX w w1 V W H n p q (fun _ => .int .i64 0) from by
        rw [← hV]
        exact ⟨fun k hk => drew_keep ((Below.heap_alloc _ _ _ (by simp; omega)).trans (Below.heap_alloc _ _ _ (by omega))), drew_block ((Below.heap_alloc _ _ _ (by simp; omega)).trans (heap_atX _ _ _ (by omega))), drew_block (by rw [made_arr]; exact heap_atX _ _ _ (by simp; omega)), by omega, by omega, by omega, ((BH.out.alloc (by omega) _).alloc (by simp; omega) _).drew⟩)
      exact CUT _ _ _ T8
  case rs =>
    intro p q V T8
    clear hmk hw1 c0 c1
    have v2 := cell_of_row V _ 2 _ _ _ T8.out.pat
    simp at v2
    go_wp2
    go_loopw [21] (fun iv wr => ∃ (i : Nat), iv = .int .i64 (i : Int) ∧ i ≤ n ∧ Hid (PX w w1 wr W H n p q (fun k => .int .i64 (if k < i then ((patX X W k : Nat) : Int) else 0)))) (fun iv _ => n - (intOf iv).toNat)
    case atStart => exact ⟨0, rfl, by omega, hide' (T8.out.ext (fun k _ => by simp))⟩
    case round =>
      obtain ⟨i, rfl, hi, H1⟩ := hrel
      by_cases d2 : (i : Int) < (n : Int)
      · have il : i < W * H := by rw [NH.out]; omega
        obtain ⟨x, y, hx, hy, ex, ey, -⟩ := split_lt (W := W) (H := H) (i := i) il
        have gb := (H1.out.keep _ (by omega)).trans G0.out
        have q0 : wr.cell? ⟨w.heap.size, 204, none⟩ = some (.int .i64 (W : Int)) := by rw [cell_of_row wr _ _ _ _ _ gb, ← HG.out, arrF_get _ (by omega)]; rfl
        have q2 := cell_of_row wr _ 2 _ _ _ H1.out.pat
        simp at q2
        have e1 : (i : Int).tmod (W : Int) = (x : Int) := by rw [Int.tmod_eq_emod_of_nonneg (by omega), ← ex]; simp
        have e2 : (i : Int).tdiv (W : Int) = (y : Int) := by rw [Int.tdiv_eq_ediv_of_nonneg (by omega), ← ey]; simp
        have nW : ¬ (W : Int) = 0 := by omega
        obtain ⟨h, hh⟩ : ∃ h : Nat, x / 64 = h := ⟨_, rfl⟩
        obtain ⟨b, hb⟩ : ∃ b : Nat, x % 64 = b := ⟨_, rfl⟩
        have hl : h < 2 := by omega
        have bl : b < 64 := by omega
        have e3 : (x : Int).tdiv 64 = (h : Int) := by rw [Int.tdiv_eq_ediv_of_nonneg (by omega), ← hh]; simp
        have e4 : (x : Int).tmod 64 = (b : Int) := by rw [Int.tmod_eq_emod_of_nonneg (by omega), ← hb]; simp
        have hli : (h : Int) < 2 := by omega
        have yli : (y : Int) < 102 := by omega
        obtain ⟨wd, hwd⟩ : ∃ v, X (y * 2 + h) = v := ⟨_, rfl⟩
        have wl : wd < 18446744073709551616 := by rw [← hwd]; exact HX.out _
        have cs : wr.cell? ⟨w.heap.size, y * 2 + h, none⟩ = some (.int .u64 (wd : Int)) := by rw [cell_of_row wr _ _ _ _ _ gb, ← HG.out, arrF_get _ (by omega), grF, if_pos (by omega), uF, hwd]
        obtain ⟨sh, hsh⟩ : ∃ v : Nat, wd / 2 ^ b = v := ⟨_, rfl⟩
        have us : (wd : Int) / 2 ^ b = (sh : Int) := by rw [← hsh]; simp
        have us2 : (wd : Int) / 2 ^ min b 64 = (sh : Int) := by rw [show min b 64 = b by omega]; exact us
        have shl : sh < 18446744073709551616 := by rw [← hsh]; exact div_ltW wl
        have ua := u64_and_nat sh 1 shl (by omega)
        obtain ⟨bt, hbt⟩ : ∃ v : Nat, sh % 2 = v := ⟨_, rfl⟩
        have ua2 : bits .and .u64 (sh : Int) 1 = (bt : Int) := by rw [← hbt, ← nat_mask1]; exact ua
        have w1' := wrap_natP h (by omega)
        have w2' := wrap_natP b (by omega)
        have w3' := wrap_natP bt (by omega)
        have co : wr.cell? ⟨q, i, none⟩ = some (.int .i64 0) := by rw [cell_of_row wr _ _ _ _ _ H1.out.out, arrF_get _ (by omega), if_neg (by omega)]
        have fo := frozen_of_row wr _ i _ _ H1.out.out
        have NX := hide' (fun (U : World) (hU : PX w w1 U W H n p q (fun k => .int .i64 (if k < i then ((patX X W k : Nat) : Int) else 0))) => show PX w w1 (U.setCell ⟨q, i, none⟩ (.int .i64 (bt : Int))) W H n p q (fun k => .int .i64 (if k < i + 1 then ((patX X W k : Nat) : Int) else 0)) from
          (hU.set i _).ext (fun k _ => by
            by_cases z : k = i
            · subst z
              rw [if_pos rfl, if_pos (Nat.lt_succ_self _), patX, ex, ey, hh, hb, hwd, hsh, hbt]
            · rw [if_neg z]
              by_cases z2 : k < i
              · rw [if_pos z2, if_pos (by omega)]
              · rw [if_neg z2, if_neg (by omega)]))
        clear gb ex ey hh hb hwd wl hsh shl hbt ua il hx hy
        go_wp2
        go_quiet (fail)
        go_wp2
        go_region
        all_goals go_wp2
        all_goals exact ⟨⟨i + 1, by go_num, by omega, hide' (show PX w w1 ((wr.setCell ⟨q, i, none⟩ (.int .i64 (bt : Int))).drewN (nq + 1)) W H n p q (fun k => .int .i64 (if k < i + 1 then ((patX X W k : Nat) : Int) else 0)) from (NX.out wr H1.out).drewN _)⟩, by simp [intOf]; omega⟩
      · have iN : i = n := by omega
        have HF := H1.out
        rw [iN] at HF
        have g1 := (HF.keep _ (by omega)).trans G1.out
        have o0 := cell_of_row wr _ 0 _ _ _ HF.pat
        have o1 := cell_of_row wr _ 1 _ _ _ HF.pat
        have o2 := cell_of_row wr _ 2 _ _ _ HF.pat
        have r0 := cell_of_row wr _ 0 _ _ _ g1
        have r1 := cell_of_row wr _ 1 _ _ _ g1
        have r2 := cell_of_row wr _ 2 _ _ _ g1
        have f0 := frozen_of_row wr _ 0 _ _ g1
        have f1 := frozen_of_row wr _ 1 _ _ g1
        have f2 := frozen_of_row wr _ 2 _ _ g1
        simp at o0 o1 o2 r0 r1 r2
        have QO := hide' (HF.ext (g := fun k => .int .i64 ((patX X W k : Nat) : Int)) (fun k hk => by rw [if_pos hk]))
        clear iN HF g1
        go_wp2
        refine bodyPost_ret (v := .agg #[.int .i64 (W : Int), .int .i64 (H : Int), .slice (some ⟨q, 0, none⟩) n n]) (by simp [results, Tryd.results48, go_sem, r0, r1, r2]) rfl ?_
        have qn : q ≠ w.heap.size + 1 := by have := QO.out.ql; omega
        exact ⟨⟨q, rfl, by have := QO.out.ql; omega, two_other (two_other (two_other QO.out.out _ _ _ qn) _ _ _ qn) _ _ _ qn⟩, ((QO.out.below.setCell (by simp) _).setCell (by simp) _).setCell (by simp) _⟩
end Go.Proofs.YtlpdobfjgpedaaaDoor

namespace Go.Proofs.YtlpdobfjgpedaaaDoor
open Go.RowKit
set_option linter.unusedVariables false
theorem info_intB : (Tryd.prog.info? 3).map (fun i => (i.zero, i.size, i.bytes)) = some (some (.int .i64 0), 1, 8) := by kernel_rfl
theorem news_intB {w : World} {xs : List Int} {ad : Addr} {n c : Nat} (hA : ArgP w xs (some ad) n c) : ∀ j u, (xs.map fun y => Value.int .i64 y)[j]? = some u → w.cell? (ad.add j) = some u := fun j u hu => by
  rw [List.getElem?_map] at hu
  rcases Nat.lt_or_ge j xs.length with h | h
  · obtain ⟨g, off, e, hg, hc⟩ := hA.cells j h
    cases e
    rw [List.getElem?_eq_getElem h] at hu
    simp at hu
    rw [show (⟨g, off, none⟩ : Addr).add j = ⟨g, off + j, none⟩ from Addr.add_mid g off j, hc, ← hu]
  · rw [List.getElem?_eq_none h] at hu; cases hu
theorem three_rowB {w : World} {g : Nat} {x0 x1 x2 : Value} {t : TypeId} (h : w.heap[g]? = some (.cells #[x0, x1, x2] t (0, 0))) (a b c : Value) :
    (((w.setCell ⟨g, 0, none⟩ a).setCell ⟨g, 1, none⟩ b).setCell ⟨g, 2, none⟩ c).heap[g]? = some (.cells #[a, b, c] t (0, 0)) := by
  have h0 : (w.setCell ⟨g, 0, none⟩ a).heap[g]? = some (.cells #[a, x1, x2] t (0, 0)) := by rw [heap_setCell_same _ _ _ _ _ _ h]; rfl
  have h1 : ((w.setCell ⟨g, 0, none⟩ a).setCell ⟨g, 1, none⟩ b).heap[g]? = some (.cells #[a, b, x2] t (0, 0)) := by rw [heap_setCell_same _ _ _ _ _ _ h0]; rfl
  rw [heap_setCell_same _ _ _ _ _ _ h1]; rfl
theorem three_oth {w : World} {g k : Nat} (hk : k ≠ g) (x0 x1 x2 : Value) : (((w.setCell ⟨g, 0, none⟩ x0).setCell ⟨g, 1, none⟩ x1).setCell ⟨g, 2, none⟩ x2).heap[k]? = w.heap[k]? := by
  rw [Below.heap_setCell _ _ _ _ (by simpa using hk), Below.heap_setCell _ _ _ _ (by simpa using hk), Below.heap_setCell _ _ _ _ (by simpa using hk)]
theorem two_oth {w : World} {g k : Nat} (hk : k ≠ g) (x0 x1 : Value) : ((w.setCell ⟨g, 0, none⟩ x0).setCell ⟨g, 1, none⟩ x1).heap[k]? = w.heap[k]? := by
  rw [Below.heap_setCell _ _ _ _ (by simpa using hk), Below.heap_setCell _ _ _ _ (by simpa using hk)]
/-- So many steps, the phases one behind another. -/
def runB (tv : Nat → Nat) (W H ph : Nat) (f : Nat → Nat) : Nat → Nat → Nat
  | 0 => f
  | i + 1 => if i % 2 = 0 then newB tv W H ph (runB tv W H ph f i) else newB tv W H (1 - ph) (runB tv W H ph f i)
theorem runB_le {tv : Nat → Nat} {W H ph : Nat} {f : Nat → Nat} (hf : ∀ i, f i ≤ 1) : ∀ i j, runB tv W H ph f i j ≤ 1
  | 0, j => hf j
  | i + 1, j => by
    rw [runB]
    split
    · exact dg_le _ _
    · exact dg_le _ _
def RunPost (W H n : Nat) (g : Nat → Nat) (w : World) (e : Ending) (w' : World) : Prop := ∃ gC cap, e = .returned (.tuple #[.agg #[.int .i64 (W : Int), .int .i64 (H : Int), .slice (some ⟨gC, 0, none⟩) n cap], .nilIface]) ∧ CA w' gC n g ∧ w.heap.size ≤ gC ∧ Below w.heap.size w w'
def RunBad (f : Nat) (w : World) (e : Ending) (w' : World) : Prop := e = .returned (.tuple #[.agg #[.int .i64 0, .int .i64 0, .slice none 0 0], errOf f]) ∧ Below w.heap.size w w'
/-- What lies there behind the copy of the cells. -/
structure R4 (w w2 V : World) (W H n pO gC cap : Nat) (f : Nat → Nat) : Prop where
  keep : ∀ k, k < w2.heap.size → V.heap[k]? = w2.heap[k]?
  pat : V.heap[pO]? = some (.cells #[.int .i64 (W : Int), .int .i64 (H : Int), .slice (some ⟨gC, 0, none⟩) n cap] 26 (0, 0))
  ca : CA V gC n f
  po : w2.heap.size ≤ pO
  gc : w2.heap.size ≤ gC
  ne : pO ≠ gC
  below : Below w.heap.size w V
theorem own_CA {w : World} {B g n cap : Nat} {xs : List Int} {f : Nat → Nat} (h : w.ownsRow B 3 1 (.slice (some ⟨g, 0, none⟩) (0 + n) cap) (0 + n) ([] ++ xs.map fun y => Value.int .i64 y)) (hx : xs = (List.range n).map fun i => (f i : Int)) : CA w g n f ∧ B ≤ g := by
  rcases h.2 with ⟨h0, _⟩ | ⟨g', cap', cur, hv, hbg, hg, hnc, hcm, hcs, htake⟩
  · cases h0
  · cases hv
    refine ⟨⟨cur, hg, by omega, fun k hk => ?_⟩, hbg⟩
    have e : cur.toList[k]? = (cur.toList.take ((0 + n) * 1))[k]? := by rw [List.getElem?_take_of_lt (by omega)]
    rw [htake, hx] at e
    simp [hk] at e
    simpa using e
theorem below_grownB {B : Nat} {w V U : World} {row : Option Nat} (h : Below B w V) (hg : V.drew.grownBy U row) (hr : row = none) (hB : B ≤ V.heap.size) : Below B w U := by
  subst hr
  exact ⟨hg.os.trans h.os, hg.tape.trans h.tape, hg.output.trans h.output, Nat.le_trans h.size hg.size, fun k hk => (hg.block k (Nat.lt_of_lt_of_le hk hB) (by simp)).trans (h.block k hk)⟩
structure Kp (w W V : World) : Prop where
  keep : ∀ k, k < W.heap.size → V.heap[k]? = W.heap[k]?
  size : W.heap.size ≤ V.heap.size
  below : Below w.heap.size w V
theorem Kp.drew {w W V : World} (h : Kp w W V) : Kp w W V.drew := ⟨h.keep, h.size, ⟨h.below.os, h.below.tape, h.below.output, h.below.size, h.below.block⟩⟩
theorem Kp.alloc {w W V : World} (h : Kp w W V) (o : Obj) : Kp w W (V.alloc o) := ⟨fun k hk => (Below.heap_alloc _ _ _ (Nat.lt_of_lt_of_le hk h.size)).trans (h.keep k hk), by simp; have := h.size; omega, h.below.alloc h.below.size _⟩
theorem Kp.call {w W S U : World} (h : Kp w W S) (b : Below S.heap.size S U) {g : Nat} (hg : S.heap.size ≤ g) : Kp w W U ∧ W.heap.size ≤ g := ⟨⟨fun k hk => (b.block k (Nat.lt_of_lt_of_le hk h.size)).trans (h.keep k hk), Nat.le_trans h.size b.size, h.below.trans (b.mono h.below.size)⟩, Nat.le_trans h.size hg⟩
theorem cut4P {A B C D : Type} {P Φ : A → B → C → D → Prop} {G : Prop} (h : (∀ a b c d, P a b c d → Φ a b c d) → G) (k : ∀ a b c d, P a b c d → Φ a b c d) : G := h k
end Go.Proofs.YtlpdobfjgpedaaaDoor

namespace Go.Proofs.YtlpdobfjgpedaaaDoor
open Go.RowKit
set_option linter.unusedVariables false
def backF (tv : Nat → Nat) : Nat → Nat → Nat
  | 0, _ => 0
  | i + 1, v => if v = tv i then i else backF tv i v
def takF (tv : Nat → Nat) : Nat → Nat → Bool
  | 0, _ => false
  | i + 1, v => if v = tv i then true else takF tv i v
theorem takF_iff (tv : Nat → Nat) (v : Nat) : ∀ i, takF tv i v = true ↔ ∃ j, j < i ∧ tv j = v
  | 0 => by simp [takF]
  | i + 1 => by
    rw [takF]
    by_cases h : v = tv i
    · rw [if_pos h]; simp; exact ⟨i, by omega, h.symm⟩
    · rw [if_neg h, takF_iff tv v i]
      constructor
      · rintro ⟨j, hj, e⟩; exact ⟨j, by omega, e⟩
      · rintro ⟨j, hj, e⟩
        have : j ≠ i := fun q => h (by rw [← e, q])
        exact ⟨j, by omega, e⟩
theorem backF_of {tv : Nat → Nat} {n : Nat} (h : ∀ a b, a < n → b < n → tv a = tv b → a = b) : ∀ i, i ≤ n → ∀ j, j < i → backF tv i (tv j) = j
  | 0, _, j, hj => by omega
  | i + 1, hi, j, hj => by
    rw [backF]
    by_cases e : tv j = tv i
    · rw [if_pos e]; exact (h j i (by omega) (by omega) e).symm
    · rw [if_neg e]
      have : j ≠ i := fun q => e (by rw [q])
      exact backF_of h i (by omega) j (by omega)
def BackPost (tv : Nat → Nat) (w : World) (e : Ending) (w' : World) : Prop :=
  (∃ i j, i < j ∧ j < 16 ∧ tv i = tv j ∧ e = .returned (.tuple #[.slice none 0 0, .iface 54 (.int .i64 5)]) ∧ Below w.heap.size w w') ∨
  ((∀ a b, a < 16 → b < 16 → tv a = tv b → a = b) ∧ ∃ g, e = .returned (.tuple #[.slice (some ⟨g, 0, none⟩) 16 16, .nilIface]) ∧ w.heap.size ≤ g ∧ w'.heap[g]? = some (.cells (arrF 16 (fun v => .int .i64 (backF tv 16 v : Int))) 3 (0, 0)) ∧ Below w.heap.size w w')
theorem inj_next {tv : Nat → Nat} {i : Nat} (h : ∀ a b, a < i → b < i → tv a = tv b → a = b) (n : takF tv i (tv i) = false) : ∀ a b, a < i + 1 → b < i + 1 → tv a = tv b → a = b := by
  have no : ∀ j, j < i → tv j ≠ tv i := fun j hj e => by
    have := (takF_iff tv (tv i) i).2 ⟨j, hj, e⟩
    rw [n] at this; cases this
  intro a b ha hb e
  by_cases ai : a = i
  · by_cases bi : b = i
    · omega
    · exact absurd (by rw [← e, ai]) (no b (by omega))
  · by_cases bi : b = i
    · exact absurd (by rw [e, bi]) (no a (by omega))
    · exact h a b (by omega) (by omega) e
end Go.Proofs.YtlpdobfjgpedaaaDoor

namespace Go.Proofs.YtlpdobfjgpedaaaDoor
open Go.RowKit
set_option linter.unusedVariables false
def ones4 (n : Nat) : Nat := dg n 0 + dg n 1 + dg n 2 + dg n 3
def keepB (tv : Nat → Nat) : Bool := (List.range 16).all fun j => ones4 j == ones4 (tv j)
theorem keep_true {tv : Nat → Nat} (h : ∀ j, j < 16 → ones4 j = ones4 (tv j)) : keepB tv = true := by
  unfold keepB
  rw [List.all_eq_true]
  intro j hj
  rw [h j (List.mem_range.1 hj)]; simp
theorem keep_false {tv : Nat → Nat} {i : Nat} (hi : i < 16) (h : ones4 i ≠ ones4 (tv i)) : keepB tv = false := by
  cases hk : keepB tv with
  | false => rfl
  | true =>
    unfold keepB at hk
    have := List.all_eq_true.1 hk i (List.mem_range.2 hi)
    simp at this
    exact absurd this h
def FlagPost (b : Bool) (w : World) (e : Ending) (w' : World) : Prop := e = .returned (.tuple #[.bool b, .nilIface]) ∧ Below w.heap.size w w'
end Go.Proofs.YtlpdobfjgpedaaaDoor

namespace Go.Proofs.YtlpdobfjgpedaaaDoor
open Go.RowKit
set_option linter.unusedVariables false
/-- A block's number, turned by a quarter. -/
def qtrN (n : Nat) : Nat := dg n 2 + 2 * dg n 0 + 4 * dg n 3 + 8 * dg n 1
theorem qtrN_lt (n : Nat) : qtrN n < 16 := by unfold qtrN dg; omega
theorem num16 {n : Nat} (h : n < 16) : n = dg n 0 + 2 * dg n 1 + 4 * dg n 2 + 8 * dg n 3 := by unfold dg; omega
theorem qtr_eq {m n : Nat} (hm : m < 16) : (dg m 0 = dg n 2 ∧ dg m 1 = dg n 0 ∧ dg m 2 = dg n 3 ∧ dg m 3 = dg n 1) ↔ m = qtrN n := by
  have e := num16 hm
  constructor
  · rintro ⟨a, b, c, d⟩
    unfold qtrN
    omega
  · intro h
    have l0 := dg_le n 0
    have l1 := dg_le n 1
    have l2 := dg_le n 2
    have l3 := dg_le n 3
    have k0 := dg_le m 0
    have k1 := dg_le m 1
    have k2 := dg_le m 2
    have k3 := dg_le m 3
    unfold qtrN at h
    omega
def turnB (tv : Nat → Nat) : Bool := (List.range 16).all fun j => tv (qtrN j) == qtrN (tv j)
theorem turn_true {tv : Nat → Nat} (h : ∀ j, j < 16 → tv (qtrN j) = qtrN (tv j)) : turnB tv = true := by
  unfold turnB
  rw [List.all_eq_true]
  intro j hj
  rw [h j (List.mem_range.1 hj)]; simp
theorem turn_false {tv : Nat → Nat} {i : Nat} (hi : i < 16) (h : tv (qtrN i) ≠ qtrN (tv i)) : turnB tv = false := by
  cases hk : turnB tv with
  | false => rfl
  | true =>
    unfold turnB at hk
    have := List.all_eq_true.1 hk i (List.mem_range.2 hi)
    simp at this
    exact absurd this h
end Go.Proofs.YtlpdobfjgpedaaaDoor

