/-
  What the last text of this claim leans on, part 29: Gp3, Gs1, Gq2.
-/
import Derived.Test.YtlpdobfjgpedaaaDoorZe26
import Derived.Test.YtlpdobfjgpedaaaDoorZe28
import Derived.Test.YtlpdobfjgpedaaaDoorZe6
import Derived.Test.YtlpdobfjgpedaaaDoorZe16
import Derived.Test.YtlpdobfjgpedaaaDoorZe19
import Derived.Test.YtlpdobfjgpedaaaDoorZe10
import Derived.Test.YtlpdobfjgpedaaaDoorZe7
namespace Go.Proofs.YtlpdobfjgpedaaaDoor
open Go.RowKit
set_option linter.unusedVariables false

/-- What is wrong with a rule of a plane and a pattern. -/
def plaE (o : Out) (W H : Int) (xs : List Int) (f : Nat) : Prop := (¬ Good o ∧ f = 1) ∨ (Good o ∧ shapeF W H xs ≠ 0 ∧ f = shapeF W H xs) ∨ (Good o ∧ shapeF W H xs = 0 ∧ o.kind ≠ 1 ∧ f = 1) ∨ (Good o ∧ shapeF W H xs = 0 ∧ o.kind = 1 ∧ f = 0)
theorem plaE_only {o : Out} {W H : Int} {xs : List Int} {f g : Nat} (h : plaE o W H xs f) (k : plaE o W H xs g) : f = g := by
  rcases h with ⟨a, b⟩ | ⟨a, b, c⟩ | ⟨a, b, c, d⟩ | ⟨a, b, c, d⟩ <;> rcases k with ⟨a', b'⟩ | ⟨a', b', c'⟩ | ⟨a', b', c', d'⟩ | ⟨a', b', c', d'⟩ <;> first | (exact absurd a' a) | (exact absurd a a') | (exact absurd b' b) | (exact absurd b b') | (exact absurd c' c) | (exact absurd c c') | omega

set_option maxRecDepth 100000 in
set_option maxHeartbeats 6400000 in
theorem planeCheck_any (o : Out) (ta : Option Addr) (tn tc : Nat) (W H : Int) (xs : List Int) (a : Option Addr) (n c : Nat) (w : World) (hR : ArgR w o ta tn tc) (hP : ArgP w xs a n c) :
    Calls Tryd.prog 21 #[.agg #[.int .i64 o.kind, .int .i64 o.born, .int .i64 o.stay, .int .i64 o.states, .int .i64 o.radius, .slice ta tn tc, .string o.turns], .agg #[.int .i64 W, .int .i64 H, .slice a n c]] w fun e w' => (∃ f, plaE o W H xs f ∧ e = .returned (errOf f)) ∧ Below w.heap.size w w' := by
  obtain ⟨w1, hw1⟩ : ∃ w1, (w.alloc (.cells #[.int .i64 o.kind, .int .i64 o.born, .int .i64 o.stay, .int .i64 o.states, .int .i64 o.radius, .slice ta tn tc, .string o.turns] 24)).alloc (.cells #[.int .i64 W, .int .i64 H, .slice a n c] 26) = w1 := ⟨_, rfl⟩
  have BB := hide' (show Below w.heap.size w w1 by rw [← hw1]; exact ((Below.refl _ _).alloc (Nat.le_refl _) _).alloc (by simp) _)
  have RX := hide' (show RBp w.heap.size o (.slice ta tn tc) w1 by rw [← hw1]; exact (RBp.new w o (.slice ta tn tc) 24).block (Below.heap_alloc _ _ _ (by simp)))
  have y0 : w1.cell? ⟨w.heap.size + 1, 0, none⟩ = some (.int .i64 W) := by rw [← hw1, World.cell?_alloc_at _ _ _ _ (by simp)]; rfl
  have y1 : w1.cell? ⟨w.heap.size + 1, 1, none⟩ = some (.int .i64 H) := by rw [← hw1, World.cell?_alloc_at _ _ _ _ (by simp)]; rfl
  have y2 : w1.cell? ⟨w.heap.size + 1, 2, none⟩ = some (.slice a n c) := by rw [← hw1, World.cell?_alloc_at _ _ _ _ (by simp)]; rfl
  have PL : w.heap.size + 1 < w1.heap.size := by rw [← hw1]; simp
  have PX := hide' (fun (w' : World) (hb : Below w1.heap.size w1 w') => show w'.cell? ⟨w.heap.size + 1, 0, none⟩ = some (.int .i64 W) ∧ w'.cell? ⟨w.heap.size + 1, 1, none⟩ = some (.int .i64 H) ∧ w'.cell? ⟨w.heap.size + 1, 2, none⟩ = some (.slice a n c) from
    have e := hb.block (w.heap.size + 1) PL
    ⟨(World.cell?_of_block (w := w1) (a := ⟨w.heap.size + 1, 0, none⟩) e).trans y0, (World.cell?_of_block (w := w1) (a := ⟨w.heap.size + 1, 1, none⟩) e).trans y1, (World.cell?_of_block (w := w1) (a := ⟨w.heap.size + 1, 2, none⟩) e).trans y2⟩)
  have AT := hide' (show ArgR w1 o ta tn tc by rw [← hw1]; exact (hR.alloc _).alloc _)
  have AP := hide' (hP.below BB.out)
  clear hR hP y0 y1 y2 PL
  have C0 := hide' (Below.refl w1.heap.size w1)
  obtain ⟨x0, x1, x2, x3, x4, x5, x6⟩ := RX.out
  go_enter Tryd.func21, Tryd.ntmps21
  go_wp2_with fail
  refine (Check_any o ta tn tc _ (AT.out.below C0.out)).mono ?_
  rintro e w2 ⟨hor, b⟩
  have C1 := hide' (C0.out.trans (b.mono C0.out.size))
  clear hw1 b x0 x1 x2 x3 x4 x5 x6 C0
  obtain ⟨x0, x1, x2, x3, x4, x5, x6⟩ := RX.out.next C1.out
  obtain ⟨y0, y1, y2⟩ := PX.out _ C1.out
  rcases hor with ⟨rfl, hG⟩ | ⟨rfl, hG⟩
  · have HG := hide' hG
    clear hG
    go_wp2_with fail
    refine (Check_P W H xs a n c _ (AP.out.below C1.out)).mono ?_
    obtain ⟨f, hf⟩ : ∃ f, shapeF W H xs = f := ⟨_, rfl⟩
    have HF := hide' hf
    rw [hf]
    clear hf
    rintro e w3 ⟨rfl, b⟩
    have C2 := hide' (C1.out.trans (b.mono C1.out.size))
    clear b x0 x1 x2 x3 x4 x5 x6 y0 y1 y2 C1
    obtain ⟨x0, x1, x2, x3, x4, x5, x6⟩ := RX.out.next C2.out
    by_cases f0 : f = 0
    · subst f0
      rw [show errOf 0 = .nilIface from rfl]
      by_cases k1 : o.kind = 1
      · have kb : (o.kind != 1) = false := by simp [k1]
        have PE := hide' (show plaE o W H xs 0 from Or.inr (Or.inr (Or.inr ⟨HG.out, HF.out, k1, rfl⟩)))
        clear k1
        go_wp2
        go_ret
        exact ⟨⟨0, PE.out, rfl⟩, BB.out.trans (C2.out.mono BB.out.size)⟩
      · have kb : (o.kind != 1) = true := by simp [k1]
        have PE := hide' (show plaE o W H xs 1 from Or.inr (Or.inr (Or.inl ⟨HG.out, HF.out, k1, rfl⟩)))
        clear k1
        go_wp2
        go_ret
        exact ⟨⟨1, PE.out, rfl⟩, BB.out.trans (C2.out.mono BB.out.size)⟩
    · have PE := hide' (show plaE o W H xs f from Or.inr (Or.inl ⟨HG.out, by rw [HF.out]; exact f0, HF.out.symm⟩))
      rw [show errOf f = .iface 54 (.int .i64 (f : Int)) from if_neg f0]
      have EF := hide' (show errOf f = .iface 54 (.int .i64 (f : Int)) from if_neg f0)
      clear f0
      go_wp2
      go_ret
      exact ⟨⟨f, PE.out, by rw [EF.out]; rfl⟩, BB.out.trans (C2.out.mono BB.out.size)⟩
  · have PE := hide' (show plaE o W H xs 1 from Or.inl ⟨hG, rfl⟩)
    clear hG
    go_wp2
    go_ret
    exact ⟨⟨1, PE.out, rfl⟩, BB.out.trans (C1.out.mono BB.out.size)⟩
end Go.Proofs.YtlpdobfjgpedaaaDoor

namespace Go.Proofs.YtlpdobfjgpedaaaDoor
open Go.RowKit
set_option linter.unusedVariables false
/-- The words of a sheet, the first cells of a pattern being laid. -/
def stX (W : Nat) (xs : List Int) : Nat → Nat → Nat
  | 0, _ => 0
  | i + 1, k => if k = i / W * 2 + i % W / 64 then stX W xs i k ||| (xs.getD i 0).toNat * 2 ^ (i % W % 64) else stX W xs i k
theorem stX_lt {W : Nat} {xs : List Int} (hx : ∀ k, 0 ≤ xs.getD k 0 ∧ xs.getD k 0 ≤ 1) : ∀ i k, stX W xs i k < 18446744073709551616
  | 0, k => by simp [stX]
  | i + 1, k => by
    have ih := stX_lt (W := W) hx i k
    rw [stX]
    split
    · refine Nat.or_lt_two_pow (n := 64) ih ?_
      have h := hx i
      have h2 : 2 ^ (i % W % 64) ≤ 2 ^ 63 := Nat.pow_le_pow_right (by omega) (by omega)
      have h3 : (xs.getD i 0).toNat ≤ 1 := by omega
      have h4 : (xs.getD i 0).toNat * 2 ^ (i % W % 64) ≤ 1 * 2 ^ (i % W % 64) := Nat.mul_le_mul_right _ h3
      omega
    · exact ih
/-- What lies there while the cells are laid. -/
structure TX (w w4 wr : World) (Y : Nat → Nat) : Prop where
  keep : ∀ k, k < w.heap.size + 1 + 1 → wr.heap[k]? = w4.heap[k]?
  sheet : wr.heap[w.heap.size + 1 + 1]? = some (.cells (arrF 204 (uF Y)) 111 (0, 0))
  below : Below w.heap.size w wr
theorem TX.set {w w4 wr : World} {Y : Nat → Nat} (h : TX w w4 wr Y) (i v : Nat) : TX w w4 (wr.setCell ⟨w.heap.size + 1 + 1, i, none⟩ (.int .u64 (v : Int))) (fun k => if k = i then v else Y k) := by
  refine ⟨fun k hk => (Below.heap_setCell _ _ _ _ (by simp; omega)).trans (h.keep k hk), ?_, h.below.setCell (by simp; omega) _⟩
  rw [heap_setCell_same _ _ _ _ _ _ h.sheet, arrF_set]
  rw [arrF_ext (fun k _ => show (if k = i then Value.int .u64 (v : Int) else uF Y k) = uF (fun k => if k = i then v else Y k) k by unfold uF; by_cases q : k = i <;> simp [q])]
theorem TX.ext {w w4 wr : World} {Y Y' : Nat → Nat} (h : TX w w4 wr Y) (e : ∀ k, k < 204 → Y k = Y' k) : TX w w4 wr Y' :=
  ⟨h.keep, by rw [arrF_ext (fun k hk => show uF Y' k = uF Y k by unfold uF; rw [e k hk])]; exact h.sheet, h.below⟩
theorem TX.drewN {w w4 wr : World} {Y : Nat → Nat} (h : TX w w4 wr Y) (n : Nat) : TX w w4 (wr.drewN n) Y := ⟨h.keep, h.sheet, below_drewN h.below n⟩
set_option maxRecDepth 100000 in
set_option maxHeartbeats 12800000 in
theorem settle_any (W H : Nat) (xs : List Int) (a : Option Addr) (n c : Nat) (Z : Array Value) (w : World) (hP : ArgP w xs a n c) (hn : xs.length = W * H) (hx : ∀ k, 0 ≤ xs.getD k 0 ∧ xs.getD k 0 ≤ 1) (hW : W ≤ 100) (hH : H ≤ 100) (hT : TzTab w) (zs : Z.size = 208) (za : Z.all (·.oneCell') = true)
    (hbox : ∀ w', TzTab w' → Calls Tryd.prog 66 #[.agg (arrF 204 (uF (stX W xs (W * H)))), .int .i64 0, .int .i64 0] w' fun e w'' => e = .returned (.agg Z) ∧ Below w'.heap.size w' w'') :
    Calls Tryd.prog 45 #[.agg #[.int .i64 (W : Int), .int .i64 (H : Int), .slice a n c]] w fun e w' => e = .returned (.agg Z) ∧ Below w.heap.size w w' := by
  obtain ⟨w4, hw4⟩ : ∃ w4, ((w.alloc (.cells #[.int .i64 (W : Int), .int .i64 (H : Int), .slice a n c] 26)).alloc (.cells Tryd.zeroCells113 113)).alloc (.cells Tryd.zeroCells111 111) = w4 := ⟨_, rfl⟩
  have BB : Below w.heap.size w w4 := by rw [← hw4]; repeat (first | exact Below.refl _ _ | refine Below.alloc ?_ (by simp; try omega) _)
  have g0 : w4.heap[w.heap.size]? = some (.cells #[.int .i64 (W : Int), .int .i64 (H : Int), .slice a n c] 26 (0, 0)) := by rw [← hw4, Below.heap_alloc _ _ _ (by simp; try omega), Below.heap_alloc _ _ _ (by simp; try omega)]; exact heap_atX _ _ _ (by simp)
  have g1 : w4.heap[w.heap.size + 1]? = some (.cells Tryd.zeroCells113 113 (0, 0)) := by rw [← hw4, Below.heap_alloc _ _ _ (by simp; try omega)]; exact heap_atX _ _ _ (by simp)
  have X0 : TX w w4 w4 (stX W xs 0) := ⟨fun _ _ => rfl, by rw [arrF_ext (fun k _ => show uF (stX W xs 0) k = uF (fun _ => 0) k from rfl), ← zero_sheet, ← hw4]; exact heap_atX _ _ _ (by simp), BB⟩
  have XZ := hide' X0
  have G0 := hide' g0
  have G1 := hide' g1
  have HP := hide' hP
  have NL : n = W * H := by rw [hP.len]; exact hn
  have WH : W * H ≤ 10000 := Nat.mul_le_mul hW hH
  have n4 : n ≤ 10000 := by omega
  rw [← NL] at hbox
  have HT := hide' hT
  have HX := hide' hx
  have HBX := hide' hbox
  have NLH := hide' NL
  have p2 := cell_of_row w4 _ 2 _ _ _ g0
  simp at p2
  clear g0 g1 X0 BB hT hx hbox hP hn NL WH
  go_enter Tryd.func45, Tryd.ntmps45
  go_wp2
  clear hw4
  go_loopw [11] (fun iv wr => ∃ (i : Nat), iv = .int .i64 (i : Int) ∧ i ≤ n ∧ Hid (TX w w4 wr (stX W xs i))) (fun iv _ => n - (intOf iv).toNat)
  case atStart => exact ⟨0, rfl, by omega, XZ⟩
  case round =>
    obtain ⟨i, rfl, hi, H1⟩ := hrel
    by_cases d2 : (i : Int) < (n : Int)
    · have il : i < W * H := by rw [← NLH.out]; omega
      obtain ⟨x, y, hx, hy, ex, ey, -⟩ := split_lt (W := W) (H := H) (i := i) il
      have gp := (H1.out.keep _ (by omega)).trans G0.out
      have q0 := cell_of_row wr _ 0 _ _ _ gp
      simp at q0
      obtain ⟨g, o, rfl, hc⟩ := (HP.out.below H1.out.below).atP (k := i) (by omega)
      obtain ⟨z, hz⟩ : ∃ z : Nat, xs.getD i 0 = (z : Int) := ⟨(xs.getD i 0).toNat, by have := HX.out i; omega⟩
      rw [hz] at hc
      have zl : z ≤ 1 := by have := HX.out i; omega
      have e1 : (i : Int).tmod (W : Int) = (x : Int) := by rw [Int.tmod_eq_emod_of_nonneg (by omega), ← ex]; simp
      have e2 : (i : Int).tdiv (W : Int) = (y : Int) := by rw [Int.tdiv_eq_ediv_of_nonneg (by omega), ← ey]; simp
      have nW : ¬ (W : Int) = 0 := by omega
      obtain ⟨h, hh⟩ : ∃ h : Nat, x / 64 = h := ⟨_, rfl⟩
      obtain ⟨b, hb⟩ : ∃ b : Nat, x % 64 = b := ⟨_, rfl⟩
      have hl : h < 2 := by omega
      have bl : b < 64 := by omega
      have e3 : (x : Int).tdiv 64 = (h : Int) := by rw [Int.tdiv_eq_ediv_of_nonneg (by omega), ← hh]; simp
      have e4 : (x : Int).tmod 64 = (b : Int) := by rw [Int.tmod_eq_emod_of_nonneg (by omega), ← hb]; simp
      have hli : (h : Int) < 2 := by omega
      have yli : (y : Int) < 102 := by omega
      obtain ⟨old, hold⟩ : ∃ v, stX W xs i (y * 2 + h) = v := ⟨_, rfl⟩
      have oldl : old < 18446744073709551616 := by rw [← hold]; exact stX_lt HX.out ..
      have cs : wr.cell? ⟨w.heap.size + 1 + 1, y * 2 + h, none⟩ = some (.int .u64 (old : Int)) := by rw [cell_of_row wr _ _ _ _ _ H1.out.sheet, arrF_get _ (by omega), uF, hold]
      have fs := frozen_of_row wr _ (y * 2 + h) _ _ H1.out.sheet
      obtain ⟨m, hm⟩ : ∃ m : Nat, z * 2 ^ b = m := ⟨_, rfl⟩
      have ml : m < 18446744073709551616 := by
        have h2 : 2 ^ b ≤ 2 ^ 63 := Nat.pow_le_pow_right (by omega) (by omega)
        have h4 : z * 2 ^ b ≤ 1 * 2 ^ b := Nat.mul_le_mul_right _ zl
        omega
      have uz : IntKind.u64.wrap (z : Int) = (z : Int) := by rw [IntKind.wrap_u64]; omega
      have um : IntKind.u64.wrap ((z : Int) * 2 ^ b) = (m : Int) := by
        have e : (z : Int) * 2 ^ b = (m : Int) := by rw [← hm]; simp
        rw [IntKind.wrap_u64, e]; omega
      have um2 : IntKind.u64.wrap ((z : Int) * 2 ^ min b 64) = (m : Int) := by rw [show min b 64 = b by omega]; exact um
      have uo := u64_or_nat old m oldl ml
      obtain ⟨nw, hnw⟩ : ∃ v, old ||| m = v := ⟨_, rfl⟩
      rw [hnw] at uo
      have NX := hide' (fun (V : World) (hV : TX w w4 V (stX W xs i)) => show TX w w4 (V.setCell ⟨w.heap.size + 1 + 1, y * 2 + h, none⟩ (.int .u64 (nw : Int))) (stX W xs (i + 1)) from
        (hV.set (y * 2 + h) nw).ext (fun k _ => by
          rw [stX, ex, ey, hh, hb, hz, Int.toNat_natCast, hm]
          by_cases q : k = y * 2 + h
          · rw [if_pos q, if_pos q, q, hold, hnw]
          · rw [if_neg q, if_neg q]))
      have w1 := wrap_natP h (by omega)
      have w2 := wrap_natP b (by omega)
      clear gp ex ey hh hb hold oldl hm ml hnw hz il hx hy
      go_wp2
      go_quiet (fail)
      go_wp2
      go_region
      all_goals go_wp2
      all_goals exact ⟨⟨i + 1, by go_num, by omega, hide' (show TX w w4 ((wr.setCell ⟨w.heap.size + 1 + 1, y * 2 + h, none⟩ (.int .u64 (nw : Int))).drewN (nq + 1)) (stX W xs (i + 1)) from (NX.out wr H1.out).drewN _)⟩, by simp [intOf]; omega⟩
    · have iN : i = n := by omega
      have HS0 := H1.out
      rw [iN] at HS0
      have gs := HS0.sheet
      obtain ⟨A, hA⟩ : ∃ A, arrF 204 (uF (stX W xs n)) = A := ⟨_, rfl⟩
      have asz : A.size = 204 := by rw [← hA, arrF_size]
      rw [hA] at gs HBX
      have g2 := (HS0.keep _ (by omega)).trans G1.out
      have T2 := hide' (HT.out.below HS0.below)
      have BW := hide' HS0.below
      have SZ := hide' (lt_of_block g2)
      clear iN HS0 H1 hA
      go_wp2_with (first
        | (refine wpList_load_row rfl 111 _ rfl (w.heap.size + 1 + 1) rfl 111 A (0, 0) _ gs Tryd.underlying111 rfl (by rw [asz]; kernel_rfl) ?_)
        | (go_at_call 66; refine (HBX.out wr T2.out).mono ?_))
      rintro e w5 rfl b5
      have g5 := (b5.block _ SZ.out).trans g2
      have B5 := hide' (BW.out.trans (b5.mono BW.out.size))
      clear b5
      go_wp2_with (first
        | (refine wpList_store_row rfl 113 _ _ rfl (w.heap.size + 1) Z rfl rfl 113 _ g5 (by rw [zs]; kernel_rfl) (by rw [zs, zero_grown, arrF_size]) za ?_))
      refine bodyPost_ret (v := .agg Z) (results_cell_row Tryd.results45 _ _ (w.heap.size + 1) 113 _ (0, 0) _ rfl (setRow_heap _ _ _ _ _ _ g5) Tryd.underlying113 rfl (by rw [zs]; kernel_rfl)) rfl ?_
      exact ⟨rfl, below_setRow B5.out (by omega) _⟩
end Go.Proofs.YtlpdobfjgpedaaaDoor

namespace Go.Proofs.YtlpdobfjgpedaaaDoor
open Go.RowKit
set_option linter.unusedVariables false

set_option maxRecDepth 100000 in
set_option maxHeartbeats 3200000 in
theorem add_any (a b c : Nat) (w : World) (ha : a < 18446744073709551616) (hb : b < 18446744073709551616) (hc : c < 18446744073709551616) :
    Calls Tryd.prog 86 #[.int .u64 (a : Int), .int .u64 (b : Int), .int .u64 (c : Int)] w fun e w' => e = .returned (.tuple #[.int .u64 ((addS a b c : Nat) : Int), .int .u64 ((addC a b c : Nat) : Int)]) ∧ w' = w := by
  have x1 := bits_xor_u64_nat a b ha hb
  have hx : a ^^^ b < 18446744073709551616 := Nat.xor_lt_two_pow (n := 64) ha hb
  have x2 := bits_xor_u64_nat (a ^^^ b) c hx hc
  have x3 := bits_and_u64_nat a b ha hb
  have x4 := bits_and_u64_nat c (a ^^^ b) hc hx
  have h3 : a &&& b < 18446744073709551616 := Nat.and_lt_two_pow (n := 64) _ hb
  have h4 : c &&& (a ^^^ b) < 18446744073709551616 := Nat.and_lt_two_pow (n := 64) _ hx
  have x5 := bits_or_u64_nat (a &&& b) (c &&& (a ^^^ b)) h3 h4
  have e1 : ((a ^^^ b : Nat) : Int) = ((a ^^^ b : Nat) : Int) := rfl
  obtain ⟨p, hp⟩ : ∃ p, a ^^^ b = p := ⟨_, rfl⟩
  rw [hp] at x1 x2 x4 x5
  obtain ⟨q, hq⟩ : ∃ q, p ^^^ c = q := ⟨_, rfl⟩
  rw [hq] at x2
  obtain ⟨r, hr⟩ : ∃ r, a &&& b = r := ⟨_, rfl⟩
  rw [hr] at x3 x5
  obtain ⟨s, hs⟩ : ∃ s, c &&& p = s := ⟨_, rfl⟩
  rw [hs] at x4 x5
  obtain ⟨t, ht⟩ : ∃ t, r ||| s = t := ⟨_, rfl⟩
  rw [ht] at x5
  have E1 : addS a b c = q := by rw [addS, hp, hq]
  have E2 : addC a b c = t := by rw [addC, hp, hr, hs, ht]
  rw [E1, E2]
  clear E1 E2 hp hq hr hs ht e1 h3 h4 hx
  go_enter Tryd.func86, Tryd.ntmps86
  go_wp2
  go_ret2
  exact ⟨rfl, rfl⟩
end Go.Proofs.YtlpdobfjgpedaaaDoor

