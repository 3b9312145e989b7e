/-
  What the last text of this claim leans on, part 14: Gs2, Gq2.
-/
import Derived.Test.YtdbgdfodoceadaaDoorZt8
import Derived.Test.YtdbgdfodoceadaaDoorZt13
import Derived.Test.YtdbgdfodoceadaaDoorZt2
import Derived.Test.YtdbgdfodoceadaaDoorZt1
import Derived.Test.YtdbgdfodoceadaaDoorZt4
namespace Go.Proofs.YtdbgdfodoceadaaDoor
open Go.RowKit
set_option linter.unusedVariables false
set_option maxRecDepth 100000 in
set_option maxHeartbeats 6400000 in
theorem tooGreat_any (X : Nat → Nat) (W H r d : Int) (w : World) :
    Calls Tryd.prog 51 #[.agg (arrF 208 (grF X W H r d))] w fun e w' => e = .returned (.bool (decide (100 < W) || decide (100 < H))) ∧ Below w.heap.size w w' := by
  obtain ⟨G, hG⟩ : ∃ G, arrF 208 (grF X W H r d) = G := ⟨_, rfl⟩
  obtain ⟨w1, hw1⟩ : ∃ w1, w.alloc (.cells G 89) = w1 := ⟨_, rfl⟩
  have BB := hide' (show Below w.heap.size w w1 by rw [← hw1]; exact (Below.refl _ _).alloc (Nat.le_refl _) _)
  have g0 : w1.heap[w.heap.size]? = some (.cells G 89 (0, 0)) := by rw [← hw1]; exact heap_alloc_new _ _
  have c0 : w1.cell? ⟨w.heap.size, 204, none⟩ = some (.int .i64 W) := by rw [cell_of_row w1 _ _ _ _ _ g0, ← hG, arrF_get _ (by omega)]; rfl
  have c1 : w1.cell? ⟨w.heap.size, 205, none⟩ = some (.int .i64 H) := by rw [cell_of_row w1 _ _ _ _ _ g0, ← hG, arrF_get _ (by omega)]; rfl
  rw [hG]
  clear hG g0
  by_cases h : 100 < W
  · have h2 : decide (100 < W) = true := by simp [h]
    rw [h2]
    go_enter Tryd.func51, Tryd.ntmps51
    go_wp2
    go_ret
    exact ⟨rfl, BB.out⟩
  · have h2 : decide (100 < W) = false := by simp [h]
    rw [h2]
    go_enter Tryd.func51, Tryd.ntmps51
    go_wp2
    go_ret
    exact ⟨by simp, BB.out⟩
theorem drew_keep {w w1 : World} {k : Nat} (h : w.heap[k]? = w1.heap[k]?) : w.drew.heap[k]? = w1.heap[k]? := h
theorem cut3P {A B C : Type} {P Φ : A → B → C → Prop} {G : Prop} (h : (∀ a b c, P a b c → Φ a b c) → G) (k : ∀ a b c, P a b c → Φ a b c) : G := h k
/-- A cell of a sheet, by its number in the pattern. -/
def patX (X : Nat → Nat) (W i : Nat) : Nat := X (i / W * 2 + i % W / 64) / 2 ^ (i % W % 64) % 2
/-- What lies there while the pattern is made. -/
structure PX (w w1 wr : World) (W H : Nat) (n p q : Nat) (f : Nat → Value) : Prop where
  keep : ∀ k, k < w.heap.size + 1 + 1 → wr.heap[k]? = w1.heap[k]?
  pat : wr.heap[p]? = some (.cells #[.int .i64 (W : Int), .int .i64 (H : Int), .slice (some ⟨q, 0, none⟩) n n] 26 (0, 0))
  out : wr.heap[q]? = some (.cells (arrF n f) 3 (0, 0))
  pl : w.heap.size + 1 + 1 ≤ p
  ql : w.heap.size + 1 + 1 ≤ q
  ne : p ≠ q
  below : Below w.heap.size w wr
theorem made_arr (n : Nat) : madeCells #[Value.int .i64 0] n = arrF n (fun _ => .int .i64 0) := by
  apply Array.ext'
  rw [toList_madeCells_one]
  simp [arrF, List.map_const']
theorem PX.set {w w1 wr : World} {W H n p q : Nat} {f : Nat → Value} (h : PX w w1 wr W H n p q f) (i : Nat) (v : Value) : PX w w1 (wr.setCell ⟨q, i, none⟩ v) W H n p q (fun k => if k = i then v else f k) :=
  ⟨fun k hk => (Below.heap_setCell _ _ _ _ (by have := h.ql; simp; omega)).trans (h.keep k hk), two_other h.pat _ _ _ h.ne, by rw [heap_setCell_same _ _ _ _ _ _ h.out, arrF_set], h.pl, h.ql, h.ne, h.below.setCell (by have := h.ql; simp; omega) _⟩
theorem PX.ext {w w1 wr : World} {W H n p q : Nat} {f g : Nat → Value} (h : PX w w1 wr W H n p q f) (e : ∀ k, k < n → f k = g k) : PX w w1 wr W H n p q g := ⟨h.keep, h.pat, by rw [← arrF_ext e]; exact h.out, h.pl, h.ql, h.ne, h.below⟩
theorem PX.drewN {w w1 wr : World} {W H n p q : Nat} {f : Nat → Value} (h : PX w w1 wr W H n p q f) (k : Nat) : PX w w1 (wr.drewN k) W H n p q f := ⟨h.keep, h.pat, h.out, h.pl, h.ql, h.ne, below_drewN h.below k⟩
set_option maxRecDepth 100000 in
set_option maxHeartbeats 12800000 in
theorem pattern_any (X : Nat → Nat) (W H : Nat) (r d : Int) (w : World) (hX : ∀ k, X k < 18446744073709551616) (hW : W ≤ 100) (hH : H ≤ 100) :
    Calls Tryd.prog 52 #[.agg (arrF 208 (grF X (W : Int) (H : Int) r d))] w fun e w' => (∃ q, e = .returned (.agg #[.int .i64 (W : Int), .int .i64 (H : Int), .slice (some ⟨q, 0, none⟩) (W * H) (W * H)]) ∧ w.heap.size ≤ q ∧ w'.heap[q]? = some (.cells (arrF (W * H) (fun k => .int .i64 ((patX X W k : Nat) : Int))) 3 (0, 0))) ∧ Below w.heap.size w w' := by
  obtain ⟨G, hG⟩ : ∃ G, arrF 208 (grF X (W : Int) (H : Int) r d) = G := ⟨_, rfl⟩
  obtain ⟨w1, hw1⟩ : ∃ w1, (w.alloc (.cells G 89)).alloc (.cells #[.int .i64 0, .int .i64 0, .slice none 0 0] 26) = w1 := ⟨_, rfl⟩
  have BB : Below w.heap.size w w1 := by rw [← hw1]; exact ((Below.refl _ _).alloc (Nat.le_refl _) _).alloc (by simp) _
  have g0 : w1.heap[w.heap.size]? = some (.cells G 89 (0, 0)) := by rw [← hw1, Below.heap_alloc _ _ _ (by simp)]; exact heap_alloc_new _ _
  have g1 : w1.heap[w.heap.size + 1]? = some (.cells #[.int .i64 0, .int .i64 0, .slice none 0 0] 26 (0, 0)) := by rw [← hw1]; exact heap_atX _ _ _ (by simp)
  have c0 : w1.cell? ⟨w.heap.size, 204, none⟩ = some (.int .i64 (W : Int)) := by rw [cell_of_row w1 _ _ _ _ _ g0, ← hG, arrF_get _ (by omega)]; rfl
  have c1 : w1.cell? ⟨w.heap.size, 205, none⟩ = some (.int .i64 (H : Int)) := by rw [cell_of_row w1 _ _ _ _ _ g0, ← hG, arrF_get _ (by omega)]; rfl
  have s1 : w1.heap.size = w.heap.size + 1 + 1 := by rw [← hw1]; simp
  obtain ⟨n, hn⟩ : ∃ n, W * H = n := ⟨_, rfl⟩
  have NH := hide' hn
  have n4 : n ≤ 10000 := by rw [← hn]; exact Nat.mul_le_mul hW hH
  have en : (W : Int) * (H : Int) = (n : Int) := by rw [← hn]; simp
  have hmk := run_make_row' (P := Tryd.prog) 22 3 (.int .i64 0) 8 Tryd.underlying22 info_int rfl .i64 .i64 n (by omega) (by omega)
  rw [hn, hG]
  have HG := hide' hG
  have G0 := hide' g0
  have G1 := hide' g1
  have BH := hide' BB
  have HX := hide' hX
  clear hn hG g0 g1 BB hX
  go_enter Tryd.func52, Tryd.ntmps52
  go_wp2
  refine cut3P (P := fun p q V => Hid (PX w w1 V W H n p q (fun _ => .int .i64 0))) (Φ := ?PH) (fun CUT => ?mn) ?rs
  case mn =>
    go_region
    · obtain ⟨p, hp⟩ : ∃ p, w.heap.size + 1 + 1 + 1 = p := ⟨_, rfl⟩
      obtain ⟨q, hq⟩ : ∃ q, w.heap.size + 1 + 1 = q := ⟨_, rfl⟩
      rw [hp, hq]
      obtain ⟨V, hV⟩ : ∃ V, ((w1.alloc (.cells (madeCells #[.int .i64 0] n) 3)).alloc (.cells #[.int .i64 (W : Int), .int .i64 (H : Int), .slice (some ⟨q, 0, none⟩) n n] 26)).drew = V := ⟨_, rfl⟩
      rw [hV]
      have T8 := hide' (show PX w w1 V W H n p q (fun _ => .int .i64 0) from by
        rw [← hV]
        exact ⟨fun k hk => drew_keep ((Below.heap_alloc _ _ _ (by simp; omega)).trans (Below.heap_alloc _ _ _ (by omega))), drew_block (heap_atX _ _ _ (by simp; omega)), drew_block ((Below.heap_alloc _ _ _ (by simp; omega)).trans (by rw [made_arr]; exact heap_atX _ _ _ (by omega))), by omega, by omega, by omega, ((BH.out.alloc (by omega) _).alloc (by simp; omega) _).drew⟩)
      exact CUT _ _ _ T8
    · obtain ⟨q, hp⟩ : ∃ p, w.heap.size + 1 + 1 + 1 = p := ⟨_, rfl⟩
      obtain ⟨p, hq⟩ : ∃ q, w.heap.size + 1 + 1 = q := ⟨_, rfl⟩
      rw [hp, hq]
      obtain ⟨V, hV⟩ : ∃ V, ((w1.alloc (.cells #[.int .i64 (W : Int), .int .i64 (H : Int), .slice (some ⟨q, 0, none⟩) n n] 26)).alloc (.cells (madeCells #[.int .i64 0] n) 3)).drew = V := ⟨_, rfl⟩
      rw [hV]
      have T8 := hide' (show PX w w1 V W H n p q (fun _ => .int .i64 0) from by
        rw [← hV]
        exact ⟨fun k hk => drew_keep ((Below.heap_alloc _ _ _ (by simp; omega)).trans (Below.heap_alloc _ _ _ (by omega))), drew_block ((Below.heap_alloc _ _ _ (by simp; omega)).trans (heap_atX _ _ _ (by omega))), drew_block (by rw [made_arr]; exact heap_atX _ _ _ (by simp; omega)), by omega, by omega, by omega, ((BH.out.alloc (by omega) _).alloc (by simp; omega) _).drew⟩)
      exact CUT _ _ _ T8
  case rs =>
    intro p q V T8
    clear hmk hw1 c0 c1
    have v2 := cell_of_row V _ 2 _ _ _ T8.out.pat
    simp at v2
    go_wp2
    go_loopw [21] (fun iv wr => ∃ (i : Nat), iv = .int .i64 (i : Int) ∧ i ≤ n ∧ Hid (PX w w1 wr W H n p q (fun k => .int .i64 (if k < i then ((patX X W k : Nat) : Int) else 0)))) (fun iv _ => n - (intOf iv).toNat)
    case atStart => exact ⟨0, rfl, by omega, hide' (T8.out.ext (fun k _ => by simp))⟩
    case round =>
      obtain ⟨i, rfl, hi, H1⟩ := hrel
      by_cases d2 : (i : Int) < (n : Int)
      · have il : i < W * H := by rw [NH.out]; omega
        obtain ⟨x, y, hx, hy, ex, ey, -⟩ := split_lt (W := W) (H := H) (i := i) il
        have gb := (H1.out.keep _ (by omega)).trans G0.out
        have q0 : wr.cell? ⟨w.heap.size, 204, none⟩ = some (.int .i64 (W : Int)) := by rw [cell_of_row wr _ _ _ _ _ gb, ← HG.out, arrF_get _ (by omega)]; rfl
        have q2 := cell_of_row wr _ 2 _ _ _ H1.out.pat
        simp at q2
        have e1 : (i : Int).tmod (W : Int) = (x : Int) := by rw [Int.tmod_eq_emod_of_nonneg (by omega), ← ex]; simp
        have e2 : (i : Int).tdiv (W : Int) = (y : Int) := by rw [Int.tdiv_eq_ediv_of_nonneg (by omega), ← ey]; simp
        have nW : ¬ (W : Int) = 0 := by omega
        obtain ⟨h, hh⟩ : ∃ h : Nat, x / 64 = h := ⟨_, rfl⟩
        obtain ⟨b, hb⟩ : ∃ b : Nat, x % 64 = b := ⟨_, rfl⟩
        have hl : h < 2 := by omega
        have bl : b < 64 := by omega
        have e3 : (x : Int).tdiv 64 = (h : Int) := by rw [Int.tdiv_eq_ediv_of_nonneg (by omega), ← hh]; simp
        have e4 : (x : Int).tmod 64 = (b : Int) := by rw [Int.tmod_eq_emod_of_nonneg (by omega), ← hb]; simp
        have hli : (h : Int) < 2 := by omega
        have yli : (y : Int) < 102 := by omega
        obtain ⟨wd, hwd⟩ : ∃ v, X (y * 2 + h) = v := ⟨_, rfl⟩
        have wl : wd < 18446744073709551616 := by rw [← hwd]; exact HX.out _
        have cs : wr.cell? ⟨w.heap.size, y * 2 + h, none⟩ = some (.int .u64 (wd : Int)) := by rw [cell_of_row wr _ _ _ _ _ gb, ← HG.out, arrF_get _ (by omega), grF, if_pos (by omega), uF, hwd]
        obtain ⟨sh, hsh⟩ : ∃ v : Nat, wd / 2 ^ b = v := ⟨_, rfl⟩
        have us : (wd : Int) / 2 ^ b = (sh : Int) := by rw [← hsh]; simp
        have us2 : (wd : Int) / 2 ^ min b 64 = (sh : Int) := by rw [show min b 64 = b by omega]; exact us
        have shl : sh < 18446744073709551616 := by rw [← hsh]; exact div_ltW wl
        have ua := u64_and_nat sh 1 shl (by omega)
        obtain ⟨bt, hbt⟩ : ∃ v : Nat, sh % 2 = v := ⟨_, rfl⟩
        have ua2 : bits .and .u64 (sh : Int) 1 = (bt : Int) := by rw [← hbt, ← nat_mask1]; exact ua
        have w1' := wrap_natP h (by omega)
        have w2' := wrap_natP b (by omega)
        have w3' := wrap_natP bt (by omega)
        have co : wr.cell? ⟨q, i, none⟩ = some (.int .i64 0) := by rw [cell_of_row wr _ _ _ _ _ H1.out.out, arrF_get _ (by omega), if_neg (by omega)]
        have fo := frozen_of_row wr _ i _ _ H1.out.out
        have NX := hide' (fun (U : World) (hU : PX w w1 U W H n p q (fun k => .int .i64 (if k < i then ((patX X W k : Nat) : Int) else 0))) => show PX w w1 (U.setCell ⟨q, i, none⟩ (.int .i64 (bt : Int))) W H n p q (fun k => .int .i64 (if k < i + 1 then ((patX X W k : Nat) : Int) else 0)) from
          (hU.set i _).ext (fun k _ => by
            by_cases z : k = i
            · subst z
              rw [if_pos rfl, if_pos (Nat.lt_succ_self _), patX, ex, ey, hh, hb, hwd, hsh, hbt]
            · rw [if_neg z]
              by_cases z2 : k < i
              · rw [if_pos z2, if_pos (by omega)]
              · rw [if_neg z2, if_neg (by omega)]))
        clear gb ex ey hh hb hwd wl hsh shl hbt ua il hx hy
        go_wp2
        go_quiet (fail)
        go_wp2
        go_region
        all_goals go_wp2
        all_goals exact ⟨⟨i + 1, by go_num, by omega, hide' (show PX w w1 ((wr.setCell ⟨q, i, none⟩ (.int .i64 (bt : Int))).drewN (nq + 1)) W H n p q (fun k => .int .i64 (if k < i + 1 then ((patX X W k : Nat) : Int) else 0)) from (NX.out wr H1.out).drewN _)⟩, by simp [intOf]; omega⟩
      · have iN : i = n := by omega
        have HF := H1.out
        rw [iN] at HF
        have g1 := (HF.keep _ (by omega)).trans G1.out
        have o0 := cell_of_row wr _ 0 _ _ _ HF.pat
        have o1 := cell_of_row wr _ 1 _ _ _ HF.pat
        have o2 := cell_of_row wr _ 2 _ _ _ HF.pat
        have r0 := cell_of_row wr _ 0 _ _ _ g1
        have r1 := cell_of_row wr _ 1 _ _ _ g1
        have r2 := cell_of_row wr _ 2 _ _ _ g1
        have f0 := frozen_of_row wr _ 0 _ _ g1
        have f1 := frozen_of_row wr _ 1 _ _ g1
        have f2 := frozen_of_row wr _ 2 _ _ g1
        simp at o0 o1 o2 r0 r1 r2
        have QO := hide' (HF.ext (g := fun k => .int .i64 ((patX X W k : Nat) : Int)) (fun k hk => by rw [if_pos hk]))
        clear iN HF g1
        go_wp2
        refine bodyPost_ret (v := .agg #[.int .i64 (W : Int), .int .i64 (H : Int), .slice (some ⟨q, 0, none⟩) n n]) (by simp [results, Tryd.results52, go_sem, r0, r1, r2]) rfl ?_
        have qn : q ≠ w.heap.size + 1 := by have := QO.out.ql; omega
        exact ⟨⟨q, rfl, by have := QO.out.ql; omega, two_other (two_other (two_other QO.out.out _ _ _ qn) _ _ _ qn) _ _ _ qn⟩, ((QO.out.below.setCell (by simp) _).setCell (by simp) _).setCell (by simp) _⟩
end Go.Proofs.YtdbgdfodoceadaaDoor

namespace Go.Proofs.YtdbgdfodoceadaaDoor
open Go.RowKit
set_option linter.unusedVariables false

set_option maxRecDepth 100000 in
set_option maxHeartbeats 3200000 in
theorem add_any (a b c : Nat) (w : World) (ha : a < 18446744073709551616) (hb : b < 18446744073709551616) (hc : c < 18446744073709551616) :
    Calls Tryd.prog 105 #[.int .u64 (a : Int), .int .u64 (b : Int), .int .u64 (c : Int)] w fun e w' => e = .returned (.tuple #[.int .u64 ((addS a b c : Nat) : Int), .int .u64 ((addC a b c : Nat) : Int)]) ∧ w' = w := by
  have x1 := bits_xor_u64_nat a b ha hb
  have hx : a ^^^ b < 18446744073709551616 := Nat.xor_lt_two_pow (n := 64) ha hb
  have x2 := bits_xor_u64_nat (a ^^^ b) c hx hc
  have x3 := bits_and_u64_nat a b ha hb
  have x4 := bits_and_u64_nat c (a ^^^ b) hc hx
  have h3 : a &&& b < 18446744073709551616 := Nat.and_lt_two_pow (n := 64) _ hb
  have h4 : c &&& (a ^^^ b) < 18446744073709551616 := Nat.and_lt_two_pow (n := 64) _ hx
  have x5 := bits_or_u64_nat (a &&& b) (c &&& (a ^^^ b)) h3 h4
  have e1 : ((a ^^^ b : Nat) : Int) = ((a ^^^ b : Nat) : Int) := rfl
  obtain ⟨p, hp⟩ : ∃ p, a ^^^ b = p := ⟨_, rfl⟩
  rw [hp] at x1 x2 x4 x5
  obtain ⟨q, hq⟩ : ∃ q, p ^^^ c = q := ⟨_, rfl⟩
  rw [hq] at x2
  obtain ⟨r, hr⟩ : ∃ r, a &&& b = r := ⟨_, rfl⟩
  rw [hr] at x3 x5
  obtain ⟨s, hs⟩ : ∃ s, c &&& p = s := ⟨_, rfl⟩
  rw [hs] at x4 x5
  obtain ⟨t, ht⟩ : ∃ t, r ||| s = t := ⟨_, rfl⟩
  rw [ht] at x5
  have E1 : addS a b c = q := by rw [addS, hp, hq]
  have E2 : addC a b c = t := by rw [addC, hp, hr, hs, ht]
  rw [E1, E2]
  clear E1 E2 hp hq hr hs ht e1 h3 h4 hx
  go_enter Tryd.func105, Tryd.ntmps105
  go_wp2
  go_ret2
  exact ⟨rfl, rfl⟩
end Go.Proofs.YtdbgdfodoceadaaDoor

