/-
  What the last text of this claim leans on, part 40: Gs1, Gq2, Gq4.
-/
import Derived.Test.YtemhcpldflcfbaaGreatDoorYf14
import Derived.Test.YtemhcpldflcfbaaGreatDoorYf39
import Derived.Test.YtemhcpldflcfbaaGreatDoorYf15
import Derived.Test.YtemhcpldflcfbaaGreatDoorYf4
import Derived.Test.YtemhcpldflcfbaaGreatDoorYf2
namespace Go.Proofs.YtemhcpldflcfbaaGreatDoor
open Go.RowKit
set_option linter.unusedVariables false
def stX (W : Nat) (xs : List Int) : Nat → Nat → Nat
 | 0, _ => 0
 | i + 1, k => if k = i / W * 2 + i % W / 64 then stX W xs i k ||| (xs.getD i 0).toNat * 2 ^ (i % W % 64) else stX W xs i k
theorem stX_lt {W : Nat} {xs : List Int} (hx : ∀ k, 0 ≤ xs.getD k 0 ∧ xs.getD k 0 ≤ 1) : ∀ i k, stX W xs i k < 18446744073709551616
 | 0, k => by simp [stX]
 | i + 1, k => by
  have ih := stX_lt (W := W) hx i k
  rw [stX]
  split
  ·refine Nat.or_lt_two_pow (n := 64) ih ?_
   have h := hx i
   have h2 : 2 ^ (i % W % 64) ≤ 2 ^ 63 := Nat.pow_le_pow_right (by omega) (by omega)
   have h3 : (xs.getD i 0).toNat ≤ 1 := by omega
   have h4 : (xs.getD i 0).toNat * 2 ^ (i % W % 64) ≤ 1 * 2 ^ (i % W % 64) := Nat.mul_le_mul_right _ h3
   omega
  ·exact ih
structure TX (w w4 wr : World) (Y : Nat → Nat) : Prop where
 keep : ∀ k, k < w.heap.size + 1 + 1 → wr.heap[k]? = w4.heap[k]?
 sheet : wr.heap[w.heap.size + 1 + 1]? = some (.cells (arrF 204 (uF Y)) 108 (0, 0))
 below : Below w.heap.size w wr
theorem TX.set {w w4 wr : World} {Y : Nat → Nat} (h : TX w w4 wr Y) (i v : Nat) : TX w w4 (wr.setCell ⟨w.heap.size + 1 + 1, i, none⟩ (.int .u64 (v : Int))) (fun k => if k = i then v else Y k) := by
 refine ⟨fun k hk => (Below.heap_setCell _ _ _ _ (by simp; omega)).trans (h.keep k hk), ?_, h.below.setCell (by simp; omega) _⟩
 rw [heap_setCell_same _ _ _ _ _ _ h.sheet, arrF_set]
 rw [arrF_ext (fun k _ => show (if k = i then Value.int .u64 (v : Int) else uF Y k) = uF (fun k => if k = i then v else Y k) k by unfold uF; by_cases q : k = i <;> simp [q])]
theorem TX.ext {w w4 wr : World} {Y Y' : Nat → Nat} (h : TX w w4 wr Y) (e : ∀ k, k < 204 → Y k = Y' k) : TX w w4 wr Y' :=
 ⟨h.keep, by rw [arrF_ext (fun k hk => show uF Y' k = uF Y k by unfold uF; rw [e k hk])]; exact h.sheet, h.below⟩
theorem TX.drewN {w w4 wr : World} {Y : Nat → Nat} (h : TX w w4 wr Y) (n : Nat) : TX w w4 (wr.drewN n) Y := ⟨h.keep, h.sheet, below_drewN h.below n⟩
set_option maxRecDepth 100000 in
set_option maxHeartbeats 12800000 in
theorem settle_any (W H : Nat) (xs : List Int) (a : Option Addr) (n c : Nat) (Z : Array Value) (w : World) (hP : ArgP w xs a n c) (hn : xs.length = W * H) (hx : ∀ k, 0 ≤ xs.getD k 0 ∧ xs.getD k 0 ≤ 1) (hW : W ≤ 100) (hH : H ≤ 100) (hT : TzTab w) (zs : Z.size = 208) (za : Z.all (·.oneCell') = true)
  (hbox : ∀ w', TzTab w' → Calls Tryz.prog 74 #[.agg (arrF 204 (uF (stX W xs (W * H)))), .int .i64 0, .int .i64 0] w' fun e w'' => e = .returned (.agg Z) ∧ Below w'.heap.size w' w'') :
  Calls Tryz.prog 41 #[.agg #[.int .i64 (W : Int), .int .i64 (H : Int), .slice a n c]] w fun e w' => e = .returned (.agg Z) ∧ Below w.heap.size w w' := by
 obtain ⟨w4, hw4⟩ : ∃ w4, ((w.alloc (.cells #[.int .i64 (W : Int), .int .i64 (H : Int), .slice a n c] 26)).alloc (.cells Tryz.zeroCells110 110)).alloc (.cells Tryz.zeroCells108 108) = w4 := ⟨_, rfl⟩
 have BB : Below w.heap.size w w4 := by rw [← hw4]; repeat (first | exact Below.refl _ _ | refine Below.alloc ?_ (by simp; try omega) _)
 have g0 : w4.heap[w.heap.size]? = some (.cells #[.int .i64 (W : Int), .int .i64 (H : Int), .slice a n c] 26 (0, 0)) := by rw [← hw4, Below.heap_alloc _ _ _ (by simp; try omega), Below.heap_alloc _ _ _ (by simp; try omega)]; exact heap_atX _ _ _ (by simp)
 have g1 : w4.heap[w.heap.size + 1]? = some (.cells Tryz.zeroCells110 110 (0, 0)) := by rw [← hw4, Below.heap_alloc _ _ _ (by simp; try omega)]; exact heap_atX _ _ _ (by simp)
 have X0 : TX w w4 w4 (stX W xs 0) := ⟨fun _ _ => rfl, by rw [arrF_ext (fun k _ => show uF (stX W xs 0) k = uF (fun _ => 0) k from rfl), ← zero_sheet, ← hw4]; exact heap_atX _ _ _ (by simp), BB⟩
 have XZ := hide' X0
 have G0 := hide' g0
 have G1 := hide' g1
 have HP := hide' hP
 have NL : n = W * H := by rw [hP.len]; exact hn
 have WH : W * H ≤ 10000 := Nat.mul_le_mul hW hH
 have n4 : n ≤ 10000 := by omega
 rw [← NL] at hbox
 have HT := hide' hT
 have HX := hide' hx
 have HBX := hide' hbox
 have NLH := hide' NL
 have p2 := cell_of_row w4 _ 2 _ _ _ g0
 simp at p2
 clear g0 g1 X0 BB hT hx hbox hP hn NL WH
 go_enter Tryz.func41, Tryz.ntmps41
 go_wp2
 clear hw4
 go_loopw [11] (fun iv wr => ∃ (i : Nat), iv = .int .i64 (i : Int) ∧ i ≤ n ∧ Hid (TX w w4 wr (stX W xs i))) (fun iv _ => n - (intOf iv).toNat)
 case atStart => exact ⟨0, rfl, by omega, XZ⟩
 case round =>
  obtain ⟨i, rfl, hi, H1⟩ := hrel
  by_cases d2 : (i : Int) < (n : Int)
  ·have il : i < W * H := by rw [← NLH.out]; omega
   obtain ⟨x, y, hx, hy, ex, ey, -⟩ := split_lt (W := W) (H := H) (i := i) il
   have gp := (H1.out.keep _ (by omega)).trans G0.out
   have q0 := cell_of_row wr _ 0 _ _ _ gp
   simp at q0
   obtain ⟨g, o, rfl, hc⟩ := (HP.out.below H1.out.below).atP (k := i) (by omega)
   obtain ⟨z, hz⟩ : ∃ z : Nat, xs.getD i 0 = (z : Int) := ⟨(xs.getD i 0).toNat, by have := HX.out i; omega⟩
   rw [hz] at hc
   have zl : z ≤ 1 := by have := HX.out i; omega
   have e1 : (i : Int).tmod (W : Int) = (x : Int) := by rw [Int.tmod_eq_emod_of_nonneg (by omega), ← ex]; simp
   have e2 : (i : Int).tdiv (W : Int) = (y : Int) := by rw [Int.tdiv_eq_ediv_of_nonneg (by omega), ← ey]; simp
   have nW : ¬ (W : Int) = 0 := by omega
   obtain ⟨h, hh⟩ : ∃ h : Nat, x / 64 = h := ⟨_, rfl⟩
   obtain ⟨b, hb⟩ : ∃ b : Nat, x % 64 = b := ⟨_, rfl⟩
   have hl : h < 2 := by omega
   have bl : b < 64 := by omega
   have e3 : (x : Int).tdiv 64 = (h : Int) := by rw [Int.tdiv_eq_ediv_of_nonneg (by omega), ← hh]; simp
   have e4 : (x : Int).tmod 64 = (b : Int) := by rw [Int.tmod_eq_emod_of_nonneg (by omega), ← hb]; simp
   have hli : (h : Int) < 2 := by omega
   have yli : (y : Int) < 102 := by omega
   obtain ⟨old, hold⟩ : ∃ v, stX W xs i (y * 2 + h) = v := ⟨_, rfl⟩
   have oldl : old < 18446744073709551616 := by rw [← hold]; exact stX_lt HX.out ..
   have cs : wr.cell? ⟨w.heap.size + 1 + 1, y * 2 + h, none⟩ = some (.int .u64 (old : Int)) := by rw [cell_of_row wr _ _ _ _ _ H1.out.sheet, arrF_get _ (by omega), uF, hold]
   have fs := frozen_of_row wr _ (y * 2 + h) _ _ H1.out.sheet
   obtain ⟨m, hm⟩ : ∃ m : Nat, z * 2 ^ b = m := ⟨_, rfl⟩
   have ml : m < 18446744073709551616 := by
    have h2 : 2 ^ b ≤ 2 ^ 63 := Nat.pow_le_pow_right (by omega) (by omega)
    have h4 : z * 2 ^ b ≤ 1 * 2 ^ b := Nat.mul_le_mul_right _ zl
    omega
   have uz : IntKind.u64.wrap (z : Int) = (z : Int) := by rw [IntKind.wrap_u64]; omega
   have um : IntKind.u64.wrap ((z : Int) * 2 ^ b) = (m : Int) := by
    have e : (z : Int) * 2 ^ b = (m : Int) := by rw [← hm]; simp
    rw [IntKind.wrap_u64, e]; omega
   have um2 : IntKind.u64.wrap ((z : Int) * 2 ^ min b 64) = (m : Int) := by rw [show min b 64 = b by omega]; exact um
   have uo := u64_or_nat old m oldl ml
   obtain ⟨nw, hnw⟩ : ∃ v, old ||| m = v := ⟨_, rfl⟩
   rw [hnw] at uo
   have NX := hide' (fun (V : World) (hV : TX w w4 V (stX W xs i)) => show TX w w4 (V.setCell ⟨w.heap.size + 1 + 1, y * 2 + h, none⟩ (.int .u64 (nw : Int))) (stX W xs (i + 1)) from
    (hV.set (y * 2 + h) nw).ext (fun k _ => by
     rw [stX, ex, ey, hh, hb, hz, Int.toNat_natCast, hm]
     by_cases q : k = y * 2 + h
     ·rw [if_pos q, if_pos q, q, hold, hnw]
     ·rw [if_neg q, if_neg q]))
   have w1 := wrap_natP h (by omega)
   have w2 := wrap_natP b (by omega)
   clear gp ex ey hh hb hold oldl hm ml hnw hz il hx hy
   go_wp2
   go_quiet (fail)
   go_wp2
   go_region
   all_goals go_wp2
   all_goals exact ⟨⟨i + 1, by go_num, by omega, hide' (show TX w w4 ((wr.setCell ⟨w.heap.size + 1 + 1, y * 2 + h, none⟩ (.int .u64 (nw : Int))).drewN (nq + 1)) (stX W xs (i + 1)) from (NX.out wr H1.out).drewN _)⟩, by simp [intOf]; omega⟩
  ·have iN : i = n := by omega
   have HS0 := H1.out
   rw [iN] at HS0
   have gs := HS0.sheet
   obtain ⟨A, hA⟩ : ∃ A, arrF 204 (uF (stX W xs n)) = A := ⟨_, rfl⟩
   have asz : A.size = 204 := by rw [← hA, arrF_size]
   rw [hA] at gs HBX
   have g2 := (HS0.keep _ (by omega)).trans G1.out
   have T2 := hide' (HT.out.below HS0.below)
   have BW := hide' HS0.below
   have SZ := hide' (lt_of_block g2)
   clear iN HS0 H1 hA
   go_wp2_with (first
    | (refine wpList_load_row rfl 108 _ rfl (w.heap.size + 1 + 1) rfl 108 A (0, 0) _ gs Tryz.underlying108 rfl (by rw [asz]; kernel_rfl) ?_)
    | (go_at_call 74; refine (HBX.out wr T2.out).mono ?_))
   rintro e w5 rfl b5
   have g5 := (b5.block _ SZ.out).trans g2
   have B5 := hide' (BW.out.trans (b5.mono BW.out.size))
   clear b5
   go_wp2_with (first
    | (refine wpList_store_row rfl 110 _ _ rfl (w.heap.size + 1) Z rfl rfl 110 _ g5 (by rw [zs]; kernel_rfl) (by rw [zs, zero_grown, arrF_size]) za ?_))
   refine bodyPost_ret (v := .agg Z) (results_cell_row Tryz.results41 _ _ (w.heap.size + 1) 110 _ (0, 0) _ rfl (setRow_heap _ _ _ _ _ _ g5) Tryz.underlying110 rfl (by rw [zs]; kernel_rfl)) rfl ?_
   exact ⟨rfl, below_setRow B5.out (by omega) _⟩
set_option maxRecDepth 100000 in
set_option maxHeartbeats 3200000 in
theorem add_any (a b c : Nat) (w : World) (ha : a < 18446744073709551616) (hb : b < 18446744073709551616) (hc : c < 18446744073709551616) :
  Calls Tryz.prog 103 #[.int .u64 (a : Int), .int .u64 (b : Int), .int .u64 (c : Int)] w fun e w' => e = .returned (.tuple #[.int .u64 ((addS a b c : Nat) : Int), .int .u64 ((addC a b c : Nat) : Int)]) ∧ w' = w := by
 have x1 := bits_xor_u64_nat a b ha hb
 have hx : a ^^^ b < 18446744073709551616 := Nat.xor_lt_two_pow (n := 64) ha hb
 have x2 := bits_xor_u64_nat (a ^^^ b) c hx hc
 have x3 := bits_and_u64_nat a b ha hb
 have x4 := bits_and_u64_nat c (a ^^^ b) hc hx
 have h3 : a &&& b < 18446744073709551616 := Nat.and_lt_two_pow (n := 64) _ hb
 have h4 : c &&& (a ^^^ b) < 18446744073709551616 := Nat.and_lt_two_pow (n := 64) _ hx
 have x5 := bits_or_u64_nat (a &&& b) (c &&& (a ^^^ b)) h3 h4
 have e1 : ((a ^^^ b : Nat) : Int) = ((a ^^^ b : Nat) : Int) := rfl
 obtain ⟨p, hp⟩ : ∃ p, a ^^^ b = p := ⟨_, rfl⟩
 rw [hp] at x1 x2 x4 x5
 obtain ⟨q, hq⟩ : ∃ q, p ^^^ c = q := ⟨_, rfl⟩
 rw [hq] at x2
 obtain ⟨r, hr⟩ : ∃ r, a &&& b = r := ⟨_, rfl⟩
 rw [hr] at x3 x5
 obtain ⟨s, hs⟩ : ∃ s, c &&& p = s := ⟨_, rfl⟩
 rw [hs] at x4 x5
 obtain ⟨t, ht⟩ : ∃ t, r ||| s = t := ⟨_, rfl⟩
 rw [ht] at x5
 have E1 : addS a b c = q := by rw [addS, hp, hq]
 have E2 : addC a b c = t := by rw [addC, hp, hr, hs, ht]
 rw [E1, E2]
 clear E1 E2 hp hq hr hs ht e1 h3 h4 hx
 go_enter Tryz.func103, Tryz.ntmps103
 go_wp2
 go_ret2
 exact ⟨rfl, rfl⟩
theorem testBit_bitN (n i : Nat) : n.testBit i = (bitN n i == 1) := by
 rw [Nat.testBit_eq_decide_div_mod_eq, bitN]
 rfl
theorem maskN_neg {b : Nat} (hb : b ≤ 1) : IntKind.u64.wrap (-(b : Int)) = ((maskN (b == 1) : Nat) : Int) := by
 rw [IntKind.wrap_u64]
 have : b = 0 ∨ b = 1 := by omega
 rcases this with rfl | rfl <;> rfl
theorem maskN_lt (t : Bool) : maskN t < 18446744073709551616 := by cases t <;> decide
theorem or_bits {b s : Nat} (hb : b ≤ 1) (hs : s ≤ 1) (h : ¬ (b = 0 ∧ s = 0)) : ∃ o : Nat, bits .or .i64 (b : Int) (s : Int) = (o : Int) ∧ ((o : Int) == 0) = false := by
 have h1 : b = 0 ∨ b = 1 := by omega
 have h2 : s = 0 ∨ s = 1 := by omega
 refine ⟨1, ?_, rfl⟩
 rcases h1 with rfl | rfl <;> rcases h2 with rfl | rfl <;> first | (exact absurd ⟨rfl, rfl⟩ h) | decide
theorem chosenN_none {born stay h d0 d1 d2 d3 k : Nat} (hb : bitN born k = 0) (hs : bitN stay k = 0) : chosenN born stay h d0 d1 d2 d3 (k + 1) = chosenN born stay h d0 d1 d2 d3 k := by
 rw [chosenN, testBit_bitN, testBit_bitN, hb, hs]
 simp [maskN]
theorem digM_step {k i t d : Nat} (x : Nat) (hx : k / 2 ^ i % 2 = x) : t &&& digM (k.testBit i) d = if x = 1 then t &&& d else t &&& (18446744073709551615 - d) := by
 rw [testBit_bitN, bitN, hx, digM]
 by_cases h : x = 1
 ·simp [h]
 ·simp [h]
set_option maxRecDepth 100000 in
set_option maxHeartbeats 12800000 in
theorem chosen_any (kd st ra : Int) (born stay : Nat) (ta : Option Addr) (tn tc : Nat) (s : ByteArray) (h d0 d1 d2 d3 : Nat) (w : World) (hb : born ≤ 511) (hs : stay ≤ 511) (hh : h < 18446744073709551616) (h0 : d0 < 18446744073709551616) (h1 : d1 < 18446744073709551616) (h2 : d2 < 18446744073709551616) (h3 : d3 < 18446744073709551616) :
  Calls Tryz.prog 104 #[.agg #[.int .i64 kd, .int .i64 (born : Int), .int .i64 (stay : Int), .int .i64 st, .int .i64 ra, .slice ta tn tc, .string s], .int .u64 (h : Int), .agg #[.int .u64 (d0 : Int), .int .u64 (d1 : Int), .int .u64 (d2 : Int), .int .u64 (d3 : Int)]] w fun e w' => e = .returned (.int .u64 ((chosenN born stay h d0 d1 d2 d3 9 : Nat) : Int)) ∧ Below w.heap.size w w' := by
 obtain ⟨w1, hw1⟩ : ∃ w1, (w.alloc (.cells #[.int .i64 kd, .int .i64 (born : Int), .int .i64 (stay : Int), .int .i64 st, .int .i64 ra, .slice ta tn tc, .string s] 24)).alloc (.cells #[.int .u64 (d0 : Int), .int .u64 (d1 : Int), .int .u64 (d2 : Int), .int .u64 (d3 : Int)] 186) = w1 := ⟨_, rfl⟩
 have BB := hide' (show Below w.heap.size w w1 by rw [← hw1]; exact ((Below.refl _ _).alloc (Nat.le_refl _) _).alloc (by simp) _)
 have y1 : w1.cell? ⟨w.heap.size, 1, none⟩ = some (.int .i64 (born : Int)) := by rw [← hw1, World.cell?_alloc_old _ _ _ (by simp), World.cell?_alloc_at _ _ _ _ rfl]; rfl
 have y2 : w1.cell? ⟨w.heap.size, 2, none⟩ = some (.int .i64 (stay : Int)) := by rw [← hw1, World.cell?_alloc_old _ _ _ (by simp), World.cell?_alloc_at _ _ _ _ rfl]; rfl
 have z0 : w1.cell? ⟨w.heap.size + 1, 0, none⟩ = some (.int .u64 (d0 : Int)) := by rw [← hw1, World.cell?_alloc_at _ _ _ _ (by simp)]; rfl
 have z1 : w1.cell? ⟨w.heap.size + 1, 1, none⟩ = some (.int .u64 (d1 : Int)) := by rw [← hw1, World.cell?_alloc_at _ _ _ _ (by simp)]; rfl
 have z2 : w1.cell? ⟨w.heap.size + 1, 2, none⟩ = some (.int .u64 (d2 : Int)) := by rw [← hw1, World.cell?_alloc_at _ _ _ _ (by simp)]; rfl
 have z3 : w1.cell? ⟨w.heap.size + 1, 3, none⟩ = some (.int .u64 (d3 : Int)) := by rw [← hw1, World.cell?_alloc_at _ _ _ _ (by simp)]; rfl
 have i0 : ∀ w, (Instr.index 186 (.agg #[.int .u64 (d0 : Int), .int .u64 (d1 : Int), .int .u64 (d2 : Int), .int .u64 (d3 : Int)]) (.int .i64 0)).run Tryz.prog w = .ok (.int .u64 (d0 : Int)) w := fun _ => by kernel_rfl
 have i1 : ∀ w, (Instr.index 186 (.agg #[.int .u64 (d0 : Int), .int .u64 (d1 : Int), .int .u64 (d2 : Int), .int .u64 (d3 : Int)]) (.int .i64 1)).run Tryz.prog w = .ok (.int .u64 (d1 : Int)) w := fun _ => by kernel_rfl
 have i2 : ∀ w, (Instr.index 186 (.agg #[.int .u64 (d0 : Int), .int .u64 (d1 : Int), .int .u64 (d2 : Int), .int .u64 (d3 : Int)]) (.int .i64 2)).run Tryz.prog w = .ok (.int .u64 (d2 : Int)) w := fun _ => by kernel_rfl
 have i3 : ∀ w, (Instr.index 186 (.agg #[.int .u64 (d0 : Int), .int .u64 (d1 : Int), .int .u64 (d2 : Int), .int .u64 (d3 : Int)]) (.int .i64 3)).run Tryz.prog w = .ok (.int .u64 (d3 : Int)) w := fun _ => by kernel_rfl
 obtain ⟨res, hres⟩ : ∃ res, chosenN born stay h d0 d1 d2 d3 9 = res := ⟨_, rfl⟩
 have RES := hide' hres
 have HB := hide' hb
 have HS := hide' hs
 rw [hres]
 clear hres
 go_enter Tryz.func104, Tryz.ntmps104
 go_wp2
 go_loopw [7, 14] (fun ov kv wr => ∃ (k q o : Nat), kv = .int .i64 (k : Int) ∧ ov = .int .u64 (o : Int) ∧ k ≤ 9 ∧ wr = w1.drewN q ∧ o < 18446744073709551616 ∧ Hid (o = chosenN born stay h d0 d1 d2 d3 k)) (fun _ kv _ => 9 - (intOf kv).toNat)
 case atStart => exact ⟨0, 0, 0, rfl, rfl, by omega, rfl, by omega, hide' rfl⟩
 case round =>
  obtain ⟨k, q, o, rfl, rfl, hk, rfl, ol, HO⟩ := hrel
  by_cases d : (k : Int) < 9
  ·have kl : k < 9 := by omega
   have a1 := and_bit' born k HB.out
   have a2 := and_bit' stay k HS.out
   obtain ⟨b, hbb⟩ : ∃ b, born / 2 ^ k % 2 = b := ⟨_, rfl⟩
   obtain ⟨t, htt⟩ : ∃ t, stay / 2 ^ k % 2 = t := ⟨_, rfl⟩
   have bl : b ≤ 1 := by omega
   have tl : t ≤ 1 := by omega
   rw [hbb] at a1
   rw [htt] at a2
   by_cases z : b = 0 ∧ t = 0
   ·obtain ⟨rfl, rfl⟩ := z
    have NX := hide' (show o = chosenN born stay h d0 d1 d2 d3 (k + 1) by rw [chosenN_none (by rw [bitN, hbb]) (by rw [bitN, htt])]; exact HO.out)
    clear hbb htt
    go_wp2
    go_quiet (fail)
    go_wp2
    exact ⟨⟨k + 1, q + nq, o, by go_num, rfl, by omega, rfl, ol, NX⟩, by simp [intOf]; omega⟩
   ·obtain ⟨oo, o1, o2⟩ := or_bits bl tl z
    have c1 : IntKind.u64.wrap (b : Int) = (b : Int) := by rw [IntKind.wrap_u64]; omega
    have c2 : IntKind.u64.wrap (t : Int) = (t : Int) := by rw [IntKind.wrap_u64]; omega
    have n1 := maskN_neg bl
    have n2 := maskN_neg tl
    obtain ⟨mb, hmb⟩ : ∃ mb, maskN (b == 1) = mb := ⟨_, rfl⟩
    obtain ⟨mt, hmt⟩ : ∃ mt, maskN (t == 1) = mt := ⟨_, rfl⟩
    have mbl : mb < 18446744073709551616 := by rw [← hmb]; exact maskN_lt _
    have mtl : mt < 18446744073709551616 := by rw [← hmt]; exact maskN_lt _
    rw [hmb] at n1
    rw [hmt] at n2
    have x1 := u64_andNot_nat mb h mbl hh
    have x2 := u64_and_nat mt h mtl hh
    have x1l : mb &&& (18446744073709551615 - h) < 18446744073709551616 := Nat.and_lt_two_pow (n := 64) _ (by omega)
    have x2l : mt &&& h < 18446744073709551616 := Nat.and_lt_two_pow (n := 64) _ hh
    have x3 := u64_or_nat _ _ x1l x2l
    have x3l := Nat.or_lt_two_pow (n := 64) x1l x2l
    obtain ⟨p1, hp1⟩ : ∃ p1, mb &&& (18446744073709551615 - h) = p1 := ⟨_, rfl⟩
    obtain ⟨p2, hp2⟩ : ∃ p2, mt &&& h = p2 := ⟨_, rfl⟩
    rw [hp1] at x1 x3 x3l
    rw [hp2] at x2 x3 x3l
    obtain ⟨p3, hp3⟩ : ∃ p3, p1 ||| p2 = p3 := ⟨_, rfl⟩
    rw [hp3] at x3 x3l
    have NXT := hide' (show ∀ u, u = thoseN k d0 d1 d2 d3 4 → (o ||| (u &&& p3)) = chosenN born stay h d0 d1 d2 d3 (k + 1) from fun u hu => by
     rw [chosenN, testBit_bitN, testBit_bitN, bitN, bitN, hbb, htt, hmb, hmt, hp1, hp2, hp3, ← hu, ← HO.out])
    clear hbb htt hmb hmt hp1 hp2 hp3 x1l x2l z
    go_wp2
    go_quiet (fail)
    go_wp2
    go_loopw [11, 32] (fun tv iv wr => ∃ (i u : Nat), iv = .int .i64 (i : Int) ∧ tv = .int .u64 (u : Int) ∧ i ≤ 4 ∧ wr = w1.drewN (q + nq) ∧ u < 18446744073709551616 ∧ Hid (u = thoseN k d0 d1 d2 d3 i)) (fun _ iv _ => 4 - (intOf iv).toNat)
    case atStart => exact ⟨0, 18446744073709551615, rfl, rfl, by omega, rfl, by omega, hide' rfl⟩
    case round =>
     obtain ⟨i, u, rfl, rfl, hi, rfl, ul, HU⟩ := hrel
     have kk : k ≤ 511 := by omega
     have i5 : i = 0 ∨ i = 1 ∨ i = 2 ∨ i = 3 ∨ i = 4 := by omega
     rcases i5 with rfl | rfl | rfl | rfl | rfl
     ·have g0 := and_bit' k 0 kk
      obtain ⟨x, hx⟩ : ∃ x, k / 2 ^ 0 % 2 = x := ⟨_, rfl⟩
      rw [hx] at g0
      have g1 : bits BinOp.and IntKind.i64 ((k : Int)) 1 = (x : Int) := by rw [← g0]; simp
      have ST := hide' (show u &&& digM (k.testBit 0) d0 = thoseN k d0 d1 d2 d3 (0 + 1) by rw [thoseN, ← HU.out]; rfl)
      rw [digM_step x hx] at ST
      have xl : x ≤ 1 := by omega
      clear hx g0
      by_cases xx : x = 1
      ·subst xx
       have y3 := u64_and_nat u d0 ul h0
       have y3l : u &&& d0 < 18446744073709551616 := Nat.and_lt_two_pow (n := 64) _ h0
       obtain ⟨v, hv⟩ : ∃ v, u &&& d0 = v := ⟨_, rfl⟩
       rw [if_pos rfl, hv] at ST
       rw [hv] at y3 y3l
       clear hv
       go_wp2
       exact ⟨⟨0 + 1, v, by go_num, rfl, by omega, by first | trivial | rfl, y3l, ST⟩, by simp [intOf]⟩
      ·have x0 : x = 0 := by omega
       subst x0
       have y3 := u64_andNot_nat u d0 ul h0
       have y3l : u &&& (18446744073709551615 - d0) < 18446744073709551616 := Nat.and_lt_two_pow (n := 64) _ (by omega)
       obtain ⟨v, hv⟩ : ∃ v, u &&& (18446744073709551615 - d0) = v := ⟨_, rfl⟩
       rw [if_neg (by decide), hv] at ST
       rw [hv] at y3 y3l
       clear hv
       go_wp2
       exact ⟨⟨0 + 1, v, by go_num, rfl, by omega, by first | trivial | rfl, y3l, ST⟩, by simp [intOf]⟩
     ·have g0 := and_bit' k 1 kk
      obtain ⟨x, hx⟩ : ∃ x, k / 2 ^ 1 % 2 = x := ⟨_, rfl⟩
      rw [hx] at g0
      have g1 : bits BinOp.and IntKind.i64 ((k : Int) / 2) 1 = (x : Int) := by rw [← g0]; simp
      have ST := hide' (show u &&& digM (k.testBit 1) d1 = thoseN k d0 d1 d2 d3 (1 + 1) by rw [thoseN, ← HU.out]; rfl)
      rw [digM_step x hx] at ST
      have xl : x ≤ 1 := by omega
      clear hx g0
      by_cases xx : x = 1
      ·subst xx
       have y3 := u64_and_nat u d1 ul h1
       have y3l : u &&& d1 < 18446744073709551616 := Nat.and_lt_two_pow (n := 64) _ h1
       obtain ⟨v, hv⟩ : ∃ v, u &&& d1 = v := ⟨_, rfl⟩
       rw [if_pos rfl, hv] at ST
       rw [hv] at y3 y3l
       clear hv
       go_wp2
       exact ⟨⟨1 + 1, v, by go_num, rfl, by omega, by first | trivial | rfl, y3l, ST⟩, by simp [intOf]⟩
      ·have x0 : x = 0 := by omega
       subst x0
       have y3 := u64_andNot_nat u d1 ul h1
       have y3l : u &&& (18446744073709551615 - d1) < 18446744073709551616 := Nat.and_lt_two_pow (n := 64) _ (by omega)
       obtain ⟨v, hv⟩ : ∃ v, u &&& (18446744073709551615 - d1) = v := ⟨_, rfl⟩
       rw [if_neg (by decide), hv] at ST
       rw [hv] at y3 y3l
       clear hv
       go_wp2
       exact ⟨⟨1 + 1, v, by go_num, rfl, by omega, by first | trivial | rfl, y3l, ST⟩, by simp [intOf]⟩
     ·have g0 := and_bit' k 2 kk
      obtain ⟨x, hx⟩ : ∃ x, k / 2 ^ 2 % 2 = x := ⟨_, rfl⟩
      rw [hx] at g0
      have g1 : bits BinOp.and IntKind.i64 ((k : Int) / 4) 1 = (x : Int) := by rw [← g0]; simp
      have ST := hide' (show u &&& digM (k.testBit 2) d2 = thoseN k d0 d1 d2 d3 (2 + 1) by rw [thoseN, ← HU.out]; rfl)
      rw [digM_step x hx] at ST
      have xl : x ≤ 1 := by omega
      clear hx g0
      by_cases xx : x = 1
      ·subst xx
       have y3 := u64_and_nat u d2 ul h2
       have y3l : u &&& d2 < 18446744073709551616 := Nat.and_lt_two_pow (n := 64) _ h2
       obtain ⟨v, hv⟩ : ∃ v, u &&& d2 = v := ⟨_, rfl⟩
       rw [if_pos rfl, hv] at ST
       rw [hv] at y3 y3l
       clear hv
       go_wp2
       exact ⟨⟨2 + 1, v, by go_num, rfl, by omega, by first | trivial | rfl, y3l, ST⟩, by simp [intOf]⟩
      ·have x0 : x = 0 := by omega
       subst x0
       have y3 := u64_andNot_nat u d2 ul h2
       have y3l : u &&& (18446744073709551615 - d2) < 18446744073709551616 := Nat.and_lt_two_pow (n := 64) _ (by omega)
       obtain ⟨v, hv⟩ : ∃ v, u &&& (18446744073709551615 - d2) = v := ⟨_, rfl⟩
       rw [if_neg (by decide), hv] at ST
       rw [hv] at y3 y3l
       clear hv
       go_wp2
       exact ⟨⟨2 + 1, v, by go_num, rfl, by omega, by first | trivial | rfl, y3l, ST⟩, by simp [intOf]⟩
     ·have g0 := and_bit' k 3 kk
      obtain ⟨x, hx⟩ : ∃ x, k / 2 ^ 3 % 2 = x := ⟨_, rfl⟩
      rw [hx] at g0
      have g1 : bits BinOp.and IntKind.i64 ((k : Int) / 8) 1 = (x : Int) := by rw [← g0]; simp
      have ST := hide' (show u &&& digM (k.testBit 3) d3 = thoseN k d0 d1 d2 d3 (3 + 1) by rw [thoseN, ← HU.out]; rfl)
      rw [digM_step x hx] at ST
      have xl : x ≤ 1 := by omega
      clear hx g0
      by_cases xx : x = 1
      ·subst xx
       have y3 := u64_and_nat u d3 ul h3
       have y3l : u &&& d3 < 18446744073709551616 := Nat.and_lt_two_pow (n := 64) _ h3
       obtain ⟨v, hv⟩ : ∃ v, u &&& d3 = v := ⟨_, rfl⟩
       rw [if_pos rfl, hv] at ST
       rw [hv] at y3 y3l
       clear hv
       go_wp2
       exact ⟨⟨3 + 1, v, by go_num, rfl, by omega, by first | trivial | rfl, y3l, ST⟩, by simp [intOf]⟩
      ·have x0 : x = 0 := by omega
       subst x0
       have y3 := u64_andNot_nat u d3 ul h3
       have y3l : u &&& (18446744073709551615 - d3) < 18446744073709551616 := Nat.and_lt_two_pow (n := 64) _ (by omega)
       obtain ⟨v, hv⟩ : ∃ v, u &&& (18446744073709551615 - d3) = v := ⟨_, rfl⟩
       rw [if_neg (by decide), hv] at ST
       rw [hv] at y3 y3l
       clear hv
       go_wp2
       exact ⟨⟨3 + 1, v, by go_num, rfl, by omega, by first | trivial | rfl, y3l, ST⟩, by simp [intOf]⟩
     ·have N1 := hide' (NXT.out u HU.out)
      have y4 := u64_and_nat u p3 ul x3l
      have y4l : u &&& p3 < 18446744073709551616 := Nat.and_lt_two_pow (n := 64) _ x3l
      obtain ⟨v, hv⟩ : ∃ v, u &&& p3 = v := ⟨_, rfl⟩
      rw [hv] at y4 y4l N1
      have y5 := u64_or_nat o v ol y4l
      have y5l : o ||| v < 18446744073709551616 := Nat.or_lt_two_pow (n := 64) ol y4l
      obtain ⟨v2, hv2⟩ : ∃ v2, o ||| v = v2 := ⟨_, rfl⟩
      rw [hv2] at y5 y5l N1
      clear hv hv2
      go_wp2
      exact ⟨⟨k + 1, q + nq, v2, by go_num, rfl, by omega, rfl, y5l, N1⟩, by simp [intOf]; omega⟩
  ·have k9 : k = 9 := by omega
   have E : o = res := by rw [HO.out, k9]; exact RES.out
   clear k9
   subst E
   go_wp2
   go_ret
   exact ⟨rfl, below_drewN BB.out _⟩
end Go.Proofs.YtemhcpldflcfbaaGreatDoor
