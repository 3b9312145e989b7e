/-
  What the last text of this claim leans on, part 46: Hs7, Hs8, Hq2, Hq3, Hq4.
-/
import Derived.Test.YtemhcpldflcfbaaGreatDoorZj44
import Derived.Test.YtemhcpldflcfbaaGreatDoorZj45
import Derived.Test.YtemhcpldflcfbaaGreatDoorZj9
import Derived.Test.YtemhcpldflcfbaaGreatDoorZj42
import Derived.Test.YtemhcpldflcfbaaGreatDoorZj39
import Derived.Test.YtemhcpldflcfbaaGreatDoorZj41
import Derived.Test.YtemhcpldflcfbaaGreatDoorZj11
import Derived.Test.YtemhcpldflcfbaaGreatDoorZj24
import Derived.Deep.CutRange
import Derived.Laws.StructEq
import Derived.Deep.RegionHeld3
namespace Go.Proofs.YtemhcpldflcfbaaGreatDoor
open Go.RowKit
set_option linter.unusedVariables false
set_option maxRecDepth 100000 in
set_option maxHeartbeats 6400000 in
theorem window_any (spb B : Nat) (b s o : Int) (tv : Value) (M : Int) (F : Int → Int → Int) (K : Nat) (g : Gst) (va : Option Addr) (vl vc : Nat) (x y : Int) (W H : Nat) (w : World) (hS : SpB w spb B b s o tv M F K) (hM : M ≤ 144115188075855872) (hT : ∀ V, Below B w V → TzTab V) (hP : ArgP w g.P.xs va vl vc) (hn : vl = g.P.W * g.P.H) (lW : g.P.W ≤ 8400) (lH : g.P.H ≤ 8400) (hF : plG g = F) (hW : W ≤ 100) (hH : H ≤ 100) (hx : -1000000000000 ≤ x ∧ x ≤ 1000000000000) (hy : -1000000000000 ≤ y ∧ y ≤ 1000000000000) (hr : -1000100000000 ≤ g.r ∧ g.r ≤ 1000100000000) (hd : -1000100000000 ≤ g.d ∧ g.d ≤ 1000100000000) :
  Calls Tryz.prog 15 #[.pointer (some ⟨spb, 0, none⟩), .agg #[.int .i64 (g.P.W : Int), .int .i64 (g.P.H : Int), .slice va vl vc, .int .i64 g.r, .int .i64 g.d], .int .i64 x, .int .i64 y, .int .i64 (W : Int), .int .i64 (H : Int)] w fun e w' => e = .returned (.bool true) ∧ Below w.heap.size w w' := by
 obtain ⟨w1, hw1⟩ : ∃ w1, w.alloc (.cells #[.int .i64 (g.P.W : Int), .int .i64 (g.P.H : Int), .slice va vl vc, .int .i64 g.r, .int .i64 g.d] 39) = w1 := ⟨_, rfl⟩
 have HW1 := hide' hw1
 have B1 := hide' (show Below w.heap.size w w1 by rw [← hw1]; exact (Below.refl _ _).alloc (Nat.le_refl _) _)
 have G1 := hide' (show w1.heap[w.heap.size]? = some (.cells #[.int .i64 (g.P.W : Int), .int .i64 (g.P.H : Int), .slice va vl vc, .int .i64 g.r, .int .i64 g.d] 39 (0, 0)) by rw [← hw1]; exact heap_alloc_new _ _)
 have LB := hS.lt
 have CW := hide' (cellsW_any spb B b s o tv M F K W H w1 (hS.below B1.out) hW hH x y hx hy hM (fun V hV => hT V ((B1.out.mono LB.2).trans hV)))
 have RC := hide' (fun V (hV : Below w.heap.size w V) => refCells_anyS g va vl vc x y W H V (hP.below hV) hn lW lH hW hH hx hy hr hd)
 have HFE := hide' hF
 have N4 := hide' (show W * H ≤ 10000 from Nat.mul_le_mul hW hH)
 have HWP := hide' (show W = 0 ∨ 0 < W by omega)
 clear hw1 hS hM hT hP hn lW lH hF hW hH hx hy hr hd LB
 go_enter Tryz.func15, Tryz.ntmps15
 go_upto_region 1 with fail
 rw [HW1.out]
 go_wp2_with fail
 refine CW.out.mono ?_
 rintro e w2 ⟨cb, gf, rfl, wn, gv, b2⟩
 obtain ⟨N, hN⟩ : ∃ N, W * H = N := ⟨_, rfl⟩
 have T2 := hide' (show Tab w2 (.slice (some ⟨cb, 0, none⟩) N N) (wnL F x y W N) by
  rw [hN] at wn
  refine win_tab wn (fun i hi => ?_)
  have w0 : 0 < W := by
   rcases HWP.out with z | z
   ·rw [z, Nat.zero_mul] at hN; omega
   ·exact z
  have h1 : i % W < W := Nat.mod_lt _ w0
  have h2 : i / W < H := Nat.div_lt_of_lt_mul (by rw [hN]; exact hi)
  have h3 := gv (i % W) (i / W) h1 h2
  rw [show i / W * W + i % W = i by rw [Nat.mul_comm]; exact Nat.div_add_mod i W] at h3
  exact h3)
 have NN := hide' (show N ≤ 10000 by have := N4.out; omega)
 have HN := hide' hN
 rw [hN]
 clear wn gv hN
 have B2 := hide' (B1.out.trans (b2.mono B1.out.size))
 have G2 := hide' ((b2.block _ (lt_of_block G1.out)).trans G1.out)
 obtain ⟨w3, hw3⟩ : ∃ w3, w2.alloc (.cells #[.int .i64 (W : Int), .int .i64 (H : Int), .slice (some ⟨cb, 0, none⟩) N N] 26) = w3 := ⟨_, rfl⟩
 obtain ⟨pb, hpb⟩ : ∃ p, w2.heap.size = p := ⟨_, rfl⟩
 have A3 := hide' (show Below w2.heap.size w2 w3 by rw [← hw3]; exact (Below.refl _ _).alloc (Nat.le_refl _) _)
 have P3 := hide' (show w3.heap[pb]? = some (.cells #[.int .i64 (W : Int), .int .i64 (H : Int), .slice (some ⟨cb, 0, none⟩) N N] 26 (0, 0)) by rw [← hw3]; exact heap_atX _ _ _ hpb.symm)
 have T3 := hide' (tab_below T2.out A3.out)
 have B3 := hide' (B2.out.trans (A3.out.mono B2.out.size))
 have G3 := hide' ((A3.out.block _ (lt_of_block G2.out)).trans G2.out)
 have HW3 := hide' (And.intro hw3 hpb)
 clear hw3 hpb b2
 go_upto_region 2 with fail
 rw [HW3.out.1, HW3.out.2]
 have q0 := cell_of_row w3 _ 0 _ _ _ G3.out
 have q1 := cell_of_row w3 _ 1 _ _ _ G3.out
 have q2 := cell_of_row w3 _ 2 _ _ _ G3.out
 have q3 := cell_of_row w3 _ 3 _ _ _ G3.out
 have q4 := cell_of_row w3 _ 4 _ _ _ G3.out
 simp at q0 q1 q2 q3 q4
 go_wp2_with fail
 refine (RC.out w3 B3.out).mono ?_
 rintro e w4 ⟨v4, rfl, t4, b4⟩
 rw [HFE.out, HN.out] at t4
 obtain ⟨ra, rc, rfl, -⟩ := tab_arg t4 (by rw [wnL_length]; have := NN.out; unfold maxLen; omega)
 rw [wnL_length] at t4 ⊢
 have T4 := hide' t4
 have U4 := hide' (tab_below T3.out b4)
 have P4 := hide' ((b4.block _ (lt_of_block P3.out)).trans P3.out)
 have B4 := hide' (B3.out.trans (b4.mono B3.out.size))
 obtain ⟨w5, hw5⟩ : ∃ w5, w4.alloc (.cells #[.int .i64 (W : Int), .int .i64 (H : Int), .slice ra N rc] 26) = w5 := ⟨_, rfl⟩
 obtain ⟨rb, hrb⟩ : ∃ p, w4.heap.size = p := ⟨_, rfl⟩
 have A5 := hide' (show Below w4.heap.size w4 w5 by rw [← hw5]; exact (Below.refl _ _).alloc (Nat.le_refl _) _)
 have R5 := hide' (show w5.heap[rb]? = some (.cells #[.int .i64 (W : Int), .int .i64 (H : Int), .slice ra N rc] 26 (0, 0)) by rw [← hw5]; exact heap_atX _ _ _ hrb.symm)
 have T5 := hide' (tab_below T4.out A5.out)
 have U5 := hide' (tab_below U4.out A5.out)
 have P5 := hide' ((A5.out.block _ (lt_of_block P4.out)).trans P4.out)
 have B5 := hide' (B4.out.trans (A5.out.mono B4.out.size))
 have HW5 := hide' (And.intro hw5 hrb)
 clear hw5 hrb t4 b4 q0 q1 q2 q3 q4
 go_upto_region 3 with fail
 rw [HW5.out.1, HW5.out.2]
 have q0 := cell_of_row w5 _ 0 _ _ _ P5.out
 have q1 := cell_of_row w5 _ 1 _ _ _ P5.out
 have q2 := cell_of_row w5 _ 2 _ _ _ P5.out
 have p0 := cell_of_row w5 _ 0 _ _ _ R5.out
 have p1 := cell_of_row w5 _ 1 _ _ _ R5.out
 have p2 := cell_of_row w5 _ 2 _ _ _ R5.out
 simp at q0 q1 q2 p0 p1 p2
 go_wp2_with fail
 refine (Alike_same (W : Int) (H : Int) (.slice (some ⟨cb, 0, none⟩) N N) (.slice ra N rc) (wnL F x y W N) w5 U5.out T5.out (by rw [wnL_length]; have := NN.out; unfold maxLen; omega)).mono ?_
 rintro e w6 ⟨rfl, b6⟩
 have FIN := hide' (B5.out.trans (b6.mono B5.out.size))
 clear b6 q0 q1 q2 p0 p1 p2
 go_wp2
 go_ret
 exact ⟨rfl, FIN.out⟩
theorem window_pat (spb B : Nat) (b s o : Int) (tv : Value) (M : Int) (F : Int → Int → Int) (K : Nat) (P : Pat) (R D : Int) (va : Option Addr) (vl vc : Nat) (x y : Int) (W H : Nat) (w : World) (hS : SpB w spb B b s o tv M F K) (hM : M ≤ 144115188075855872) (hT : ∀ V, Below B w V → TzTab V) (hP : ArgP w P.xs va vl vc) (hn : vl = P.W * P.H) (lW : P.W ≤ 8400) (lH : P.H ≤ 8400) (hF : plG ⟨P, R, D⟩ = F) (hW : W ≤ 100) (hH : H ≤ 100) (hx : -1000000000000 ≤ x ∧ x ≤ 1000000000000) (hy : -1000000000000 ≤ y ∧ y ≤ 1000000000000) (hr : -1000100000000 ≤ R ∧ R ≤ 1000100000000) (hd : -1000100000000 ≤ D ∧ D ≤ 1000100000000) :
  Calls Tryz.prog 15 #[.pointer (some ⟨spb, 0, none⟩), .agg #[.int .i64 (P.W : Int), .int .i64 (P.H : Int), .slice va vl vc, .int .i64 R, .int .i64 D], .int .i64 x, .int .i64 y, .int .i64 (W : Int), .int .i64 (H : Int)] w fun e w' => e = .returned (.bool true) ∧ Below w.heap.size w w' :=
 window_any spb B b s o tv M F K ⟨P, R, D⟩ va vl vc x y W H w hS hM hT hP hn lW lH hF hW hH hx hy hr hd
def smC (xs : List Int) (m : Nat) : Int := sum1 (fun j => xs.getD j.toNat 0) 0 m
theorem smC_next (xs : List Int) (m : Nat) : smC xs (m + 1) = smC xs m + xs.getD m 0 := by
 show sum1 _ 0 m + xs.getD (0 + (m : Int)).toNat 0 = _
 rw [Int.zero_add, Int.toNat_natCast]; rfl
theorem smC_le {xs : List Int} (h : ∀ k, 0 ≤ xs.getD k 0 ∧ xs.getD k 0 ≤ 1) : ∀ m, 0 ≤ smC xs m ∧ smC xs m ≤ m
 | 0 => ⟨Int.le_refl _, Int.le_refl _⟩
 | m + 1 => by
  have a := smC_le h m
  have b := h m
  rw [smC_next]
  push_cast
  omega
theorem smC_rows {s : Gst} : ∀ y, y ≤ s.P.H → smC s.P.xs (y * s.P.W) = sum2 (plG s) s.r s.d s.P.W y
 | 0, _ => by rw [Nat.zero_mul]; rfl
 | y + 1, hy => by
  have ih := smC_rows (s := s) y (by omega)
  show _ = sum2 (plG s) s.r s.d s.P.W y + sum1 (fun x => plG s x (s.d + y)) s.r s.P.W
  rw [← ih, Nat.add_mul, Nat.one_mul]
  unfold smC
  rw [sum1_add]
  congr 1
  have e : ∀ (f : Int → Int) (a b : Int) (m : Nat), (∀ x : Nat, x < m → f (a + x) = (fun z => plG s z (s.d + y)) (b + x)) → sum1 f a m = sum1 (fun z => plG s z (s.d + y)) b m := fun f a b m => by
   induction m with
   | zero => intro _; rfl
   | succ m ih => intro h; show sum1 f a m + f (a + m) = sum1 _ b m + _; rw [ih (fun x hx => h x (by omega)), h m (by omega)]
  refine e _ _ _ _ (fun x hx => ?_)
  show s.P.xs.getD (0 + ((y * s.P.W : Nat) : Int) + (x : Int)).toNat 0 = plG s (s.r + x) (s.d + y)
  unfold plG ptF
  rw [show s.r + (x : Int) - s.r = (x : Int) by omega, show s.d + (y : Int) - s.d = (y : Int) by omega, if_pos (by unfold inP; omega)]
  unfold cellF
  congr 2
  push_cast
  omega
theorem smC_all {s : Gst} (hs : GOk s) : smC s.P.xs s.P.xs.length = sum2 (plG s) s.r s.d s.P.W s.P.H := by
 rw [hs.len, Nat.mul_comm]
 exact smC_rows s.P.H (Nat.le_refl _)
theorem lvC_state {qs : List Sq} {n t : Nat} {fr fd : Int} {s : Gst} (hs : GOk s) (hv : ∀ u v, valQ qs n t (u - fr) (v - fd) = plG s u v) : ((lvC qs n t : Nat) : Int) = smC s.P.xs s.P.xs.length := by
 rw [smC_all hs]
 exact lvC_plane hv (fun x y h => pt_out h)
theorem it_small2 {born stay : Nat} (b0 : born.testBit 0 = false) (hb0 : born % 2 = 0) {s : Gst} (hs : Bxd s) (hW : s.P.W ≤ 100) (hH : s.P.H ≤ 100) (hr : -1000000 ≤ s.r ∧ s.r ≤ 1000000 ∧ -1000000 ≤ s.d ∧ s.d ≤ 1000000) {i : Nat} (hi : i ≤ 4096) :
  (itG born stay i s).P.W ≤ 8292 ∧ (itG born stay i s).P.H ≤ 8292 ∧ (-2000000 ≤ (itG born stay i s).r ∧ (itG born stay i s).r ≤ 2000000 ∧ -2000000 ≤ (itG born stay i s).d ∧ (itG born stay i s).d ≤ 2000000) := by
 have nr := it_near (stay := stay) b0 hb0 hs i
 obtain ⟨t, ht⟩ : ∃ t, itG born stay i s = t := ⟨_, rfl⟩
 rw [ht] at nr ⊢
 rcases nr with rfl | ⟨⟨n1, n2⟩, n3, n4⟩
 ·simp [noG]
 ·omega
theorem jp_small {born stay : Nat} (b0 : born.testBit 0 = false) (hb0 : born % 2 = 0) {s : Gst} (hs : Bxd s) (hW : s.P.W ≤ 100) (hH : s.P.H ≤ 100) (hr : -200 ≤ s.r ∧ s.r ≤ 200 ∧ -200 ≤ s.d ∧ s.d ≤ 200) {n : Nat} (hn : n ≤ 4096) :
  (jpG born stay s n).P.W ≤ 8292 ∧ (jpG born stay s n).P.H ≤ 8292 ∧ (-2000000 ≤ (jpG born stay s n).r ∧ (jpG born stay s n).r ≤ 2000000 ∧ -2000000 ≤ (jpG born stay s n).d ∧ (jpG born stay s n).d ≤ 2000000) := by
 unfold jpG
 split
 ·rename_i h
  have p := per_of b0 hb0 hs h
  obtain ⟨a, ha⟩ : ∃ a, agA born stay s 64 = a := ⟨_, rfl⟩
  rw [ha] at p ⊢
  have m1 : n / a.n ≤ 4096 := Nat.le_trans (Nat.div_le_self _ _) hn
  obtain ⟨m, hm⟩ : ∃ m, n / a.n = m := ⟨_, rfl⟩
  rw [hm] at m1 ⊢
  have yb : ∀ (z : Int), -64 ≤ z → z ≤ 64 → -262144 ≤ (m : Int) * z ∧ (m : Int) * z ≤ 262144 := fun z h1 h2 => by
   have a := Int.mul_le_mul_of_nonneg_left h2 (show (0 : Int) ≤ (m : Int) by omega)
   have b := Int.mul_le_mul_of_nonneg_left h1 (show (0 : Int) ≤ (m : Int) by omega)
   omega
  have y1 := yb _ p.right.1 p.right.2
  have y2 := yb _ p.down.1 p.down.2
  have bx : Bxd ⟨s.P, s.r + (m : Int) * a.r, s.d + (m : Int) * a.d⟩ := by
   rcases hs with e | ⟨hB, ok⟩
   ·exact absurd (by rw [e]; rfl) p.alive
   ·exact Or.inr ⟨hB, ok.len, ok.bits⟩
  exact it_small2 b0 hb0 bx hW hH (by dsimp only; omega) (Nat.le_trans (Nat.mod_le _ _) hn)
 ·exact it_small2 b0 hb0 hs hW hH (by omega) hn
theorem jp_moved {born stay : Nat} (b0 : born.testBit 0 = false) (hb0 : born % 2 = 0) {W H : Nat} {xs : List Int} (hx : ∀ k, 0 ≤ xs.getD k 0 ∧ xs.getD k 0 ≤ 1) (r d : Int) (n : Nat) :
  stF born stay n (ptF W H xs r d) = plG ⟨(jpG born stay (firstG ⟨W, H, xs⟩) n).P, (jpG born stay (firstG ⟨W, H, xs⟩) n).r + r, (jpG born stay (firstG ⟨W, H, xs⟩) n).d + d⟩ := by
 have bx : Bxd (firstG ⟨W, H, xs⟩) := box_bxd (q := ⟨W, H, xs⟩) hx 0 0
 have j := (jp_pl (stay := stay) b0 hb0 bx n).1
 have f : plG (firstG ⟨W, H, xs⟩) = ptF W H xs 0 0 := box_pl (q := ⟨W, H, xs⟩) hx 0 0
 rw [f] at j
 have e : ptF W H xs r d = fun u v => ptF W H xs 0 0 (-r + u) (-d + v) := by
  have := pt_move W H xs 0 0 r d
  rw [Int.zero_add, Int.zero_add] at this
  exact this
 rw [e, stF_shift, ← j]
 obtain ⟨g, hg⟩ : ∃ g, jpG born stay (firstG ⟨W, H, xs⟩) n = g := ⟨_, rfl⟩
 rw [hg]
 funext u v
 show plG g (-r + u) (-d + v) = ptF g.P.W g.P.H g.P.xs (g.r + r) (g.d + d) u v
 rw [pt_move]
 rfl
def SpP (k : Nat) (w : World) (e : Ending) (w' : World) : Prop := ∃ l u r d : Nat, e = .returned (.agg #[.int .i64 (l : Int), .int .i64 (u : Int), .int .i64 (r : Int), .int .i64 (d : Int)]) ∧ (r ≤ 8 ∧ d ≤ 8 ∧ l < r ∧ u < d) ∧ BxF (bitQ k) (l : Int) (u : Int) (r : Int) (d : Int) ∧ Below w.heap.size w w'
theorem tz8_any (x : Nat) (w : World) (h : x < 256) : Calls Tryz.prog 125 #[.int .u8 (x : Int)] w fun e w' => e = .returned (.int .i64 ((Lib.trailingZeros8 x : Nat) : Int)) ∧ w' = w := by
 have := Tryz.bits_TrailingZeros8 (x : Int) w (by omega) (by omega)
 rw [Int.toNat_natCast] at this
 exact this
theorem len8_any (x : Nat) (w : World) (h : x < 256) : Calls Tryz.prog 126 #[.int .u8 (x : Int)] w fun e w' => e = .returned (.int .i64 ((Lib.bitLen x : Nat) : Int)) ∧ w' = w := by
 have := Tryz.bits_Len8 (x : Int) w (by omega) (by omega)
 rw [Int.toNat_natCast] at this
 exact this
theorem or_u8 {a b : Nat} (ha : a < 256) (hb : b < 256) : bits .or .u8 (a : Int) (b : Int) = ((a ||| b : Nat) : Int) := by
 have hx : a ||| b < 2 ^ 8 := Nat.or_lt_two_pow ha hb
 have t : ∀ x : Nat, x < 256 → (BitVec.ofInt 8 (x : Int)).toNat = x := fun x h => by
  rw [BitVec.ofInt_natCast, BitVec.toNat_ofNat]; exact Nat.mod_eq_of_lt (by omega)
 show IntKind.u8.wrap ((BitVec.ofInt 8 (a : Int) ||| BitVec.ofInt 8 (b : Int)).toNat : Int) = _
 rw [BitVec.toNat_or, t a ha, t b hb]
 simp [IntKind.wrap, IntKind.signed, IntKind.bits]
 omega
theorem shr_col (k i : Nat) : (k : Int) / 2 ^ (8 * i) % 256 = (((k >>> (8 * i)) % 256 : Nat) : Int) := by
 rw [Nat.shiftRight_eq_div_pow, Int.natCast_emod, Int.natCast_ediv, Int.natCast_pow]
 rfl
theorem span_res {w : World} {g : Nat} {x0 x1 x2 x3 : Value} {t : TypeId} (h : w.heap[g]? = some (.cells #[x0, x1, x2, x3] t (0, 0))) (a b c d : Value) : ((((w.setCell ⟨g, 0, none⟩ a).setCell ⟨g, 1, none⟩ b).setCell ⟨g, 2, none⟩ c).setCell ⟨g, 3, none⟩ d).heap[g]? = some (.cells #[a, b, c, d] t (0, 0)) := by
 have h0 : (w.setCell ⟨g, 0, none⟩ a).heap[g]? = some (.cells #[a, x1, x2, x3] t (0, 0)) := by rw [heap_setCell_same _ _ _ _ _ _ h]; rfl
 have h1 : ((w.setCell ⟨g, 0, none⟩ a).setCell ⟨g, 1, none⟩ b).heap[g]? = some (.cells #[a, b, x2, x3] t (0, 0)) := by rw [heap_setCell_same _ _ _ _ _ _ h0]; rfl
 have h2 : (((w.setCell ⟨g, 0, none⟩ a).setCell ⟨g, 1, none⟩ b).setCell ⟨g, 2, none⟩ c).heap[g]? = some (.cells #[a, b, c, x3] t (0, 0)) := by rw [heap_setCell_same _ _ _ _ _ _ h1]; rfl
 rw [heap_setCell_same _ _ _ _ _ _ h2]; rfl
set_option maxRecDepth 100000 in
set_option maxHeartbeats 6400000 in
theorem span_any (k : Nat) (w : World) (k0 : k ≠ 0) (hk : k < 18446744073709551616) (hT : ∀ V, Below w.heap.size w V → TzTab V) :
  Calls Tryz.prog 100 #[.int .u64 (k : Int)] w (SpP k w) := by
 obtain ⟨rb, hrb⟩ : ∃ x, w.heap.size = x := ⟨_, rfl⟩
 have HRB := hide' hrb
 obtain ⟨w1, hw1⟩ : ∃ x, w.alloc (.cells #[.int .i64 0, .int .i64 0, .int .i64 0, .int .i64 0] 99) = x := ⟨_, rfl⟩
 have HW1 := hide' hw1
 have B1 := hide' (show Below w.heap.size w w1 by rw [← hw1]; exact (Below.refl _ _).alloc (Nat.le_refl _) _)
 have R1 := hide' (show w1.heap[rb]? = some (.cells #[.int .i64 0, .int .i64 0, .int .i64 0, .int .i64 0] 99 (0, 0)) by rw [← hw1, ← hrb]; exact heap_alloc_new _ _)
 have BX := hide' (eight_box k0 hk)
 have HK := hide' (And.intro k0 hk)
 have TT := hide' (hT w1 B1.out)
 have C8 := hide' (col_lt k 8)
 have L8 := hide' (show Lib.bitLen (colE k 8) ≤ 8 from Lib.bitLen_le8 ⟨_, col_lt k 8⟩)
 have L64 := hide' (bitLen_le64 hk)
 have Z64 := hide' (tzN_le hk)
 clear hrb hw1 hT k0
 go_enter Tryz.func100, Tryz.ntmps100
 go_upto_region 2 with fail
 rw [HW1.out, HRB.out]
 go_wp2
 go_loopw [3, 5] (fun cv iv wr => ∃ (i : Nat), cv = .int .u8 ((colE k i : Nat) : Int) ∧ iv = .int .i64 (i : Int) ∧ i ≤ 8 ∧ w1 = wr) (fun _ iv _ => 8 - (intOf iv).toNat)
 case atStart => exact ⟨0, rfl, rfl, by omega, rfl⟩
 case round =>
  obtain ⟨i, rfl, rfl, hi, rfl⟩ := hrel
  by_cases di : i < 8
  ·have d1 : (i : Int) < 8 := by omega
   have cl := col_lt k i
   obtain ⟨c, hc⟩ : ∃ c, colE k i = c := ⟨_, rfl⟩
   have e1 := or_u8 (a := c) (b := (k >>> (8 * i)) % 256) (by rw [← hc]; exact cl) (Nat.mod_lt _ (by decide))
   have e2 := shr_col k i
   have e3 : colE k (i + 1) = c ||| (k >>> (8 * i)) % 256 := by rw [← hc]; rfl
   rw [hc]
   have E := hide' (And.intro e1 (And.intro e2 e3))
   clear e1 e2 e3 hc cl
   go_wp2
   exact ⟨⟨i + 1, by rw [E.out.2.1, E.out.1, E.out.2.2], by go_num, by omega, trivial⟩, by simp [intOf]; omega⟩
  ·have d1 : ¬ (i : Int) < 8 := by omega
   obtain rfl : i = 8 := by omega
   have T8 := hide' (tz8_any (colE k 8) w1 C8.out)
   have N8 := hide' (len8_any (colE k 8) w1 C8.out)
   have T64 := hide' (tzN_any k w1 hk TT.out)
   have N64 := hide' (len_any k w1 hk)
   obtain ⟨c8, hc8⟩ : ∃ x, colE k 8 = x := ⟨_, rfl⟩
   obtain ⟨a, ha⟩ : ∃ x, Lib.trailingZeros8 (colE k 8) = x := ⟨_, rfl⟩
   obtain ⟨b, hb⟩ : ∃ x, Lib.bitLen (colE k 8) = x := ⟨_, rfl⟩
   obtain ⟨z, hz⟩ : ∃ x, tzN k = x := ⟨_, rfl⟩
   obtain ⟨e, he⟩ : ∃ x, Lib.bitLen k = x := ⟨_, rfl⟩
   rw [ha, hb, hz, he] at BX
   rw [ha, hc8] at T8
   rw [hb, hc8] at N8
   rw [hz] at T64 Z64
   rw [he] at N64 L64
   rw [hb] at L8
   rw [hc8]
   obtain ⟨u, hu⟩ : ∃ x, z / 8 = x := ⟨_, rfl⟩
   obtain ⟨f, hf⟩ : ∃ x, e + 7 = x := ⟨_, rfl⟩
   obtain ⟨d, hd⟩ : ∃ x, f / 8 = x := ⟨_, rfl⟩
   rw [hu, hf, hd] at BX
   have q1 : (z : Int) / 8 = (u : Int) := by omega
   have q2 : (e : Int) + 7 = (f : Int) := by omega
   have q3 : (f : Int) / 8 = (d : Int) := by omega
   have zl : z ≤ 64 := Z64.out
   have el : e ≤ 64 := L64.out
   have DL := hide' (show d ≤ 8 by omega)
   have r0 := cell_of_row w1 rb 0 _ _ _ R1.out
   have r1 := cell_of_row w1 rb 1 _ _ _ R1.out
   have r2 := cell_of_row w1 rb 2 _ _ _ R1.out
   have r3 := cell_of_row w1 rb 3 _ _ _ R1.out
   have f0 := frozen_of_row w1 rb 0 _ _ R1.out
   have f1 := frozen_of_row w1 rb 1 _ _ R1.out
   have f2 := frozen_of_row w1 rb 2 _ _ R1.out
   have f3 := frozen_of_row w1 rb 3 _ _ R1.out
   simp at r0 r1 r2 r3
   clear hc8 ha hb hz he hu hf hd
   go_wp2_with fail
   refine T8.out.mono ?_
   rintro o w2 ⟨rfl, e2⟩
   rw [e2]
   clear e2
   go_wp2_with fail
   refine N8.out.mono ?_
   rintro o w2 ⟨rfl, e2⟩
   rw [e2]
   clear e2
   go_wp2_with fail
   refine T64.out.mono ?_
   rintro o w2 ⟨rfl, e2⟩
   rw [e2]
   clear e2
   go_wp2_with fail
   refine N64.out.mono ?_
   rintro o w2 ⟨rfl, e2⟩
   rw [e2]
   clear e2
   go_wp2
   obtain ⟨X, hX⟩ : ∃ X, (((w1.setCell ⟨rb, 0, none⟩ (.int .i64 (a : Int))).setCell ⟨rb, 1, none⟩ (.int .i64 (u : Int))).setCell ⟨rb, 2, none⟩ (.int .i64 (b : Int))).setCell ⟨rb, 3, none⟩ (.int .i64 (d : Int)) = X := ⟨_, rfl⟩
   have GX : X.heap[rb]? = some (.cells #[.int .i64 (a : Int), .int .i64 (u : Int), .int .i64 (b : Int), .int .i64 (d : Int)] 99 (0, 0)) := by rw [← hX]; exact span_res R1.out _ _ _ _
   have lw : w.heap.size ≤ rb := by have := HRB.out; omega
   have BXX : Below w.heap.size w X := by rw [← hX]; exact (((B1.out.setCell lw _).setCell lw _).setCell lw _).setCell lw _
   rw [hX]
   have i0 := cell_of_row X _ 0 _ _ _ GX
   have i1 := cell_of_row X _ 1 _ _ _ GX
   have i2 := cell_of_row X _ 2 _ _ _ GX
   have i3 := cell_of_row X _ 3 _ _ _ GX
   simp at i0 i1 i2 i3
   refine bodyPost_ret (v := .agg #[.int .i64 (a : Int), .int .i64 (u : Int), .int .i64 (b : Int), .int .i64 (d : Int)]) (by simp [results, Tryz.results100, go_sem, i0, i1, i2, i3]) rfl ?_
   have bx := BX.out
   obtain ⟨y1, v1⟩ := bx.hl
   obtain ⟨x2, v2⟩ := bx.hu
   have n1 := bx.inn _ _ v1
   have n2 := bx.inn _ _ v2
   exact ⟨a, u, b, d, rfl, ⟨L8.out, DL.out, by omega, by omega⟩, bx, BXX⟩
theorem BxF.union {U V : Int → Int → Int} {l u r d l' u' r' d' : Int} (hU : ∀ x y, 0 ≤ U x y) (hV : ∀ x y, 0 ≤ V x y) (h : BxF U l u r d) (k : BxF V l' u' r' d') : BxF (fun x y => U x y + V x y) (min l l') (min u u') (max r r') (max d d') := by
 have pu : ∀ x y, U x y ≠ 0 → U x y + V x y ≠ 0 := fun x y q => by have := hU x y; have := hV x y; omega
 have pv : ∀ x y, V x y ≠ 0 → U x y + V x y ≠ 0 := fun x y q => by have := hU x y; have := hV x y; omega
 obtain ⟨y1, a1⟩ := h.hl
 obtain ⟨y2, a2⟩ := h.hr
 obtain ⟨x3, a3⟩ := h.hu
 obtain ⟨x4, a4⟩ := h.hd
 obtain ⟨y5, b1⟩ := k.hl
 obtain ⟨y6, b2⟩ := k.hr
 obtain ⟨x7, b3⟩ := k.hu
 obtain ⟨x8, b4⟩ := k.hd
 refine ⟨fun x y q => ?_, ?_, ?_, ?_, ?_⟩
 ·by_cases c : U x y = 0
  ·have := k.inn x y (fun e => q (by show U x y + V x y = 0; omega))
   omega
  ·have := h.inn x y c
   omega
 ·by_cases c : l ≤ l'
  ·exact ⟨y1, by rw [Int.min_eq_left c]; exact pu _ _ a1⟩
  ·exact ⟨y5, by rw [Int.min_eq_right (by omega)]; exact pv _ _ b1⟩
 ·by_cases c : r' ≤ r
  ·exact ⟨y2, by rw [Int.max_eq_left c]; exact pu _ _ a2⟩
  ·exact ⟨y6, by rw [Int.max_eq_right (by omega)]; exact pv _ _ b2⟩
 ·by_cases c : u ≤ u'
  ·exact ⟨x3, by rw [Int.min_eq_left c]; exact pu _ _ a3⟩
  ·exact ⟨x7, by rw [Int.min_eq_right (by omega)]; exact pv _ _ b3⟩
 ·by_cases c : d' ≤ d
  ·exact ⟨x4, by rw [Int.max_eq_left c]; exact pu _ _ a4⟩
  ·exact ⟨x8, by rw [Int.max_eq_right (by omega)]; exact pv _ _ b4⟩
def upQ (qs : List Sq) (n : Nat) (p : Nat → Nat) : Nat → Int → Int → Int
 | 0, _, _ => 0
 | i + 1, x, y => upQ qs n p i x y + valQ qs n (p i) (x - ((i % 2 : Nat) : Int) * sideI n) (y - ((i / 2 : Nat) : Int) * sideI n)
theorem up_ge (qs : List Sq) (n : Nat) (p : Nat → Nat) : ∀ i x y, 0 ≤ upQ qs n p i x y
 | 0, _, _ => Int.le_refl _
 | i + 1, x, y => Int.add_nonneg (up_ge qs n p i x y) (val_le _ _ _ _).1
theorem up_all (qs : List Sq) (n t : Nat) (x y : Int) : upQ qs n (prt (sqA qs t)) 4 x y = valQ qs (n + 1) t x y := by
 rw [val_step]
 simp [upQ, prt]
def PaB (S : Int) (U : Int → Int → Int) (l u r d : Int) : Prop := ((∀ x y, U x y = 0) ∧ l = S ∧ u = S ∧ r = 0 ∧ d = 0) ∨ (BxF U l u r d ∧ 0 ≤ l ∧ 0 ≤ u ∧ r ≤ S ∧ d ≤ S)
theorem PaB.skip {qs : List Sq} (hS : StQ qs) {n i : Nat} {p : Nat → Nat} (h0 : p i = 0) {S l u r d : Int} (h : PaB S (upQ qs n p i) l u r d) : PaB S (upQ qs n p (i + 1)) l u r d := by
 have e : upQ qs n p (i + 1) = upQ qs n p i := by
  funext x y
  show upQ qs n p i x y + valQ qs n (p i) _ _ = _
  rw [h0, val_nil hS, Int.add_zero]
 rw [e]
 exact h
theorem PaB.next {qs : List Sq} {n i : Nat} (hi : i < 4) {p : Nat → Nat} {l u r d l' u' r' d' : Int} (h : PaB (2 * sideI n) (upQ qs n p i) l u r d) (k : BxF (valQ qs n (p i)) l' u' r' d') (kb : 0 ≤ l' ∧ 0 ≤ u' ∧ r' ≤ sideI n ∧ d' ≤ sideI n) {X Y : Int} (hX : X = ((i % 2 : Nat) : Int) * sideI n) (hY : Y = ((i / 2 : Nat) : Int) * sideI n) :
  PaB (2 * sideI n) (upQ qs n p (i + 1)) (min l (X + l')) (min u (Y + u')) (max r (X + r')) (max d (Y + d')) := by
 have sp := sideI_pos n
 have xb : 0 ≤ X ∧ X ≤ sideI n ∧ 0 ≤ Y ∧ Y ≤ sideI n := by
  rw [hX, hY]
  have : i = 0 ∨ i = 1 ∨ i = 2 ∨ i = 3 := by omega
  rcases this with rfl | rfl | rfl | rfl <;> simp <;> omega
 have s := k.shift (a := X) (b := Y) (G := fun x y => valQ qs n (p i) (x - X) (y - Y)) (fun _ _ => rfl)
 obtain ⟨y1, a1⟩ := k.hl
 obtain ⟨x2, a2⟩ := k.hu
 have n1 := k.inn _ _ a1
 have n2 := k.inn _ _ a2
 have e : upQ qs n p (i + 1) = fun x y => upQ qs n p i x y + valQ qs n (p i) (x - X) (y - Y) := by rw [hX, hY]; rfl
 rw [e]
 rcases h with ⟨z, rfl, rfl, rfl, rfl⟩ | ⟨h, b1, b2, b3, b4⟩
 ·refine Or.inr ⟨?_, by omega, by omega, by omega, by omega⟩
  have e2 : (fun x y => upQ qs n p i x y + valQ qs n (p i) (x - X) (y - Y)) = fun x y => valQ qs n (p i) (x - X) (y - Y) := by
   funext x y
   rw [z, Int.zero_add]
  rw [e2, Int.min_eq_right (by omega), Int.min_eq_right (by omega), Int.max_eq_right (by omega), Int.max_eq_right (by omega)]
  exact s
 ·exact Or.inr ⟨h.union (up_ge _ _ _ _) (fun x y => (val_le _ _ _ _).1) s, by omega, by omega, by omega, by omega⟩
def KnB (w : World) (kb N : Nat) (kn : Nat → Nat → Int) : Prop := w.heap[kb]? = some (.cells (arrF (N * 4) fun q => .int .i64 (kn (q / 4) (q % 4))) 99 (0, 0))
def KnR (qs : List Sq) (N : Nat) (kn : Nat → Nat → Int) : Prop := ∀ i, i < N → (∀ j, j < 4 → kn i j = 0) ∨ (i ≠ 0 ∧ ∃ n, WFQ qs n i ∧ BxF (valQ qs n i) (kn i 0) (kn i 1) (kn i 2) (kn i 3))
theorem KnB.cell {w : World} {kb N : Nat} {kn : Nat → Nat → Int} (h : KnB w kb N kn) {i j : Nat} (hi : i < N) (hj : j < 4) : w.cell? ⟨kb, i * 4 + j, none⟩ = some (.int .i64 (kn i j)) := by
 rw [cell_of_row w kb _ _ _ _ h, arrF_get _ (by omega), show (i * 4 + j) / 4 = i by omega, show (i * 4 + j) % 4 = j by omega]
theorem KnB.set {w : World} {kb N : Nat} {kn : Nat → Nat → Int} (h : KnB w kb N kn) (i j : Nat) (hj : j < 4) (v : Int) : KnB (w.setCell ⟨kb, i * 4 + j, none⟩ (.int .i64 v)) kb N (fun a b => if a = i ∧ b = j then v else kn a b) := by
 unfold KnB
 rw [heap_setCell_same _ _ _ _ _ _ h]
 congr 2
 rw [arrF_set]
 refine arrF_ext fun q hq => ?_
 show _ = Value.int .i64 (if q / 4 = i ∧ q % 4 = j then v else kn (q / 4) (q % 4))
 by_cases e : q = i * 4 + j
 ·subst e
  rw [if_pos rfl, if_pos (show (i * 4 + j) / 4 = i ∧ (i * 4 + j) % 4 = j by omega)]
 ·rw [if_neg e, if_neg (show ¬ (q / 4 = i ∧ q % 4 = j) by omega)]
theorem span_eq (a b c d a' b' c' d' : Int) (w : World) : (Op.equalIn 10000 99 (.agg #[.int .i64 a, .int .i64 b, .int .i64 c, .int .i64 d]) (.agg #[.int .i64 a', .int .i64 b', .int .i64 c', .int .i64 d'])).run Tryz.prog w = .ok (a == a' && (b == b' && (c == c' && d == d'))) w := by
 have hu := Tryz.underlying99
 have hf : Tryz.prog.underlying 99 = some (.struct (Tryz.prog.fieldsOf 99)) := by rw [Program.fieldsOf, hu]
 rw [run_equalIn_struct w 9999 _ _ _ hf (by kernel_rfl)]
 rw [Program.fieldsOf, hu]
 have hi := Tryz.underlying3
 have p : ∀ (k : Nat) (xs : Array Value) (v : Value), xs[k]? = some v → (part 3 xs k).run Tryz.prog w = .ok v w := fun k xs v h => by simp [part, isAgg, run_underlying hi, h]
 simp only [Op.eqFields, Sem.run_bind, Sem.run_ite]
 have n0 : ("left" ≠ "_") = True := by simp
 have n1 : ("up" ≠ "_") = True := by simp
 have n2 : ("right" ≠ "_") = True := by simp
 have n3 : ("down" ≠ "_") = True := by simp
 simp only [n0, n1, n2, n3, if_true]
 simp only [p 0 #[.int .i64 a, .int .i64 b, .int .i64 c, .int .i64 d] (.int .i64 a) rfl, p 0 #[.int .i64 a', .int .i64 b', .int .i64 c', .int .i64 d'] (.int .i64 a') rfl, Result.andThen_ok, run_equalIn_int w 9998 3 .i64 .i64 _ _ hi]
 cases h1 : (a == a')
 ·simp
 ·simp only [Bool.not_true, Bool.false_eq_true, if_false, p 1 #[.int .i64 a, .int .i64 b, .int .i64 c, .int .i64 d] (.int .i64 b) rfl, p 1 #[.int .i64 a', .int .i64 b', .int .i64 c', .int .i64 d'] (.int .i64 b') rfl, Result.andThen_ok, run_equalIn_int w 9998 3 .i64 .i64 _ _ hi]
  cases h2 : (b == b')
  ·simp
  ·simp only [Bool.not_true, Bool.false_eq_true, if_false, p 2 #[.int .i64 a, .int .i64 b, .int .i64 c, .int .i64 d] (.int .i64 c) rfl, p 2 #[.int .i64 a', .int .i64 b', .int .i64 c', .int .i64 d'] (.int .i64 c') rfl, Result.andThen_ok, run_equalIn_int w 9998 3 .i64 .i64 _ _ hi]
   cases h3 : (c == c')
   ·simp
   ·simp only [Bool.not_true, Bool.false_eq_true, if_false, p 3 #[.int .i64 a, .int .i64 b, .int .i64 c, .int .i64 d] (.int .i64 d) rfl, p 3 #[.int .i64 a', .int .i64 b', .int .i64 c', .int .i64 d'] (.int .i64 d') rfl, Result.andThen_ok, run_equalIn_int w 9998 3 .i64 .i64 _ _ hi]
    cases h4 : (d == d') <;> simp
structure BoA (w : World) (bb sb B g cap kb : Nat) (qs : List Sq) (kn : Nat → Nat → Int) : Prop where
 blk : w.heap[bb]? = some (.cells #[.pointer (some ⟨sb, 0, none⟩), .slice (some ⟨kb, 0, none⟩) qs.length qs.length] 143 (0, 0))
 stk : StkA w sb B g cap qs
 kno : KnB w kb qs.length kn
 rig : KnR qs qs.length kn
 tz : TzTab w
 lt : 1 < kb
theorem TzTab.keepW {w w' : World} (h : TzTab w) (e : w'.heap[(1 : Nat)]? = w.heap[(1 : Nat)]?) : TzTab w' := fun j hj => (World.cell?_of_block (w := w) (a := ⟨1, j, none⟩) e).trans (h j hj)
theorem KnB.ne {w : World} {kb N q : Nat} {kn : Nat → Nat → Int} {cs : Array Value} {ty : TypeId} {z : Nat × Nat} (h : KnB w kb N kn) (e : w.heap[q]? = some (.cells cs ty z)) (ht : ty ≠ 99) : q ≠ kb := fun q' => by
 rw [q', h] at e
 injection e with e
 injection e with _ e
 exact ht e.symm
theorem BoA.keep {w w' : World} {bb sb B g cap kb : Nat} {qs : List Sq} {kn kn' : Nat → Nat → Int} (h : BoA w bb sb B g cap kb qs kn) (hk : KpW kb w w') (h1 : KnB w' kb qs.length kn') (h2 : KnR qs qs.length kn') : BoA w' bb sb B g cap kb qs kn' := by
 obtain ⟨-, -, cur, ec, -, -⟩ := h.stk.rowB
 exact ⟨(hk.keep _ (lt_of_block h.blk) (h.kno.ne h.blk (by decide))).trans h.blk, h.stk.keep (hk.keep _ h.stk.lt.1 (h.kno.ne h.stk.blk (by decide))) (hk.keep _ h.stk.lt.2 (h.kno.ne ec (by decide))), h1, h2, h.tz.keepW (hk.keep _ (tz_lt h.tz) (by have := h.lt; omega)), h.lt⟩
theorem BoA.below {w w' : World} {bb sb B g cap kb : Nat} {qs : List Sq} {kn : Nat → Nat → Int} (h : BoA w bb sb B g cap kb qs kn) (hb : Below w.heap.size w w') : BoA w' bb sb B g cap kb qs kn := h.keep (KpW.of_below hb) ((hb.block _ (lt_of_block h.kno)).trans h.kno) h.rig
def OfP (bb sb B g cap kb : Nat) (qs : List Sq) (n t : Nat) (w : World) (e : Ending) (w' : World) : Prop :=
 ∃ (l u r d : Int) (kn' : Nat → Nat → Int), e = .returned (.agg #[.int .i64 l, .int .i64 u, .int .i64 r, .int .i64 d]) ∧ BxF (valQ qs n t) l u r d ∧ BoA w' bb sb B g cap kb qs kn' ∧ KpW kb w w'
theorem box_in {qs : List Sq} {n t : Nat} {l u r d : Int} (h : BxF (valQ qs n t) l u r d) : (0 ≤ l ∧ 0 ≤ u ∧ r ≤ sideI n ∧ d ≤ sideI n) ∧ l < r ∧ u < d := by
 have c : ∀ x y, valQ qs n t x y ≠ 0 → 0 ≤ x ∧ x < sideI n ∧ 0 ≤ y ∧ y < sideI n := fun x y q => Classical.byContradiction fun e => q (val_out _ _ _ _ e)
 obtain ⟨y1, a1⟩ := h.hl
 obtain ⟨y2, a2⟩ := h.hr
 obtain ⟨x3, a3⟩ := h.hu
 obtain ⟨x4, a4⟩ := h.hd
 have := c _ _ a1
 have := c _ _ a2
 have := c _ _ a3
 have := c _ _ a4
 have := h.inn _ _ a1
 have := h.inn _ _ a3
 omega
def OfC (n : Nat) : Prop := ∀ (bb sb B g cap kb : Nat) (qs : List Sq) (kn : Nat → Nat → Int) (t L : Nat) (w : World), BoA w bb sb B g cap kb qs kn → WFQ qs n t → t ≠ 0 → L = n + 3 → n ≤ 43 → qs.length ≤ 2000000 →
  Calls Tryz.prog 68 #[.pointer (some ⟨bb, 0, none⟩), .int .i32 (t : Int), .int .i64 (L : Int)] w (OfP bb sb B g cap kb qs n t w)
set_option maxRecDepth 100000 in
set_option maxHeartbeats 6400000 in
theorem of_known (n : Nat) (bb sb B g cap kb : Nat) (qs : List Sq) (kn : Nat → Nat → Int) (t L : Nat) (w : World) (h : BoA w bb sb B g cap kb qs kn) (hw : WFQ qs n t) (t0 : t ≠ 0) (hq : qs.length ≤ 2000000) (hk : ¬ ∀ j, j < 4 → kn t j = 0) :
  Calls Tryz.prog 68 #[.pointer (some ⟨bb, 0, none⟩), .int .i32 (t : Int), .int .i64 (L : Int)] w (OfP bb sb B g cap kb qs n t w) := by
 have lt := hw.lt h.stk.st
 have BX := hide' (show BxF (valQ qs n t) (kn t 0) (kn t 1) (kn t 2) (kn t 3) from by
  rcases h.rig t lt with q | ⟨_, m, q1, q2⟩
  ·exact absurd q hk
  ·rw [WFQ.level t0 hw q1]; exact q2)
 have r0 : 0 < kn t 2 := by have := box_in BX.out; omega
 obtain ⟨rb, hrb⟩ : ∃ x, w.heap.size = x := ⟨_, rfl⟩
 have HRB := hide' hrb
 obtain ⟨w1, hw1⟩ : ∃ x, w.alloc (.cells #[.int .i64 0, .int .i64 0, .int .i64 0, .int .i64 0] 99) = x := ⟨_, rfl⟩
 have HW1 := hide' hw1
 have B1 := hide' (show Below w.heap.size w w1 by rw [← hw1]; exact (Below.refl _ _).alloc (Nat.le_refl _) _)
 have R1 := hide' (show w1.heap[rb]? = some (.cells #[.int .i64 0, .int .i64 0, .int .i64 0, .int .i64 0] 99 (0, 0)) by rw [← hw1, ← hrb]; exact heap_alloc_new _ _)
 have A1 := hide' (h.below B1.out)
 have b1 := cell_of_row w1 bb 1 _ _ _ A1.out.blk
 have k0 := A1.out.kno.cell lt (j := 0) (by omega)
 have k1 := A1.out.kno.cell lt (j := 1) (by omega)
 have k2 := A1.out.kno.cell lt (j := 2) (by omega)
 have k3 := A1.out.kno.cell lt (j := 3) (by omega)
 simp at b1 k0
 obtain ⟨l, hl⟩ : ∃ x, kn t 0 = x := ⟨_, rfl⟩
 obtain ⟨u, hu⟩ : ∃ x, kn t 1 = x := ⟨_, rfl⟩
 obtain ⟨r, hr⟩ : ∃ x, kn t 2 = x := ⟨_, rfl⟩
 obtain ⟨d, hd⟩ : ∃ x, kn t 3 = x := ⟨_, rfl⟩
 rw [hl] at k0 BX
 rw [hu] at k1 BX
 rw [hr] at k2 BX r0
 rw [hd] at k3 BX
 have r0' : ¬ (r = 0) := by omega
 obtain ⟨N, hN⟩ : ∃ x, qs.length = x := ⟨_, rfl⟩
 rw [hN] at b1 lt
 have l1 : (t : Int) < (N : Int) := by omega
 have se : ∀ w, (Op.equalIn 10000 99 (.agg #[.int .i64 l, .int .i64 u, .int .i64 r, .int .i64 d]) (.agg #[.int .i64 0, .int .i64 0, .int .i64 0, .int .i64 0])).run Tryz.prog w = .ok false w := fun w => by
  rw [span_eq]
  simp [r0']
 have x0 := cell_of_row w1 rb 0 _ _ _ R1.out
 have x1 := cell_of_row w1 rb 1 _ _ _ R1.out
 have x2 := cell_of_row w1 rb 2 _ _ _ R1.out
 have x3 := cell_of_row w1 rb 3 _ _ _ R1.out
 have f0 := frozen_of_row w1 rb 0 _ _ R1.out
 have f1 := frozen_of_row w1 rb 1 _ _ R1.out
 have f2 := frozen_of_row w1 rb 2 _ _ R1.out
 have f3 := frozen_of_row w1 rb 3 _ _ R1.out
 simp at x0 x1 x2 x3
 have HB := hide' h
 clear h hw t0 hq hk hrb hw1 hl hu hr hd lt hN r0 r0'
 go_enter Tryz.func68, Tryz.ntmps68
 go_upto_region 1 with fail
 rw [HW1.out, HRB.out]
 go_wp2
 obtain ⟨X, hX⟩ : ∃ X, (((w1.setCell ⟨rb, 0, none⟩ (.int .i64 l)).setCell ⟨rb, 1, none⟩ (.int .i64 u)).setCell ⟨rb, 2, none⟩ (.int .i64 r)).setCell ⟨rb, 3, none⟩ (.int .i64 d) = X := ⟨_, rfl⟩
 have GX : X.heap[rb]? = some (.cells #[.int .i64 l, .int .i64 u, .int .i64 r, .int .i64 d] 99 (0, 0)) := by rw [← hX]; exact span_res R1.out _ _ _ _
 have lw : w.heap.size ≤ rb := by have := HRB.out; omega
 have BXX : Below w.heap.size w X := by rw [← hX]; exact (((B1.out.setCell lw _).setCell lw _).setCell lw _).setCell lw _
 rw [hX]
 have i0 := cell_of_row X _ 0 _ _ _ GX
 have i1 := cell_of_row X _ 1 _ _ _ GX
 have i2 := cell_of_row X _ 2 _ _ _ GX
 have i3 := cell_of_row X _ 3 _ _ _ GX
 simp at i0 i1 i2 i3
 refine bodyPost_ret (v := .agg #[.int .i64 l, .int .i64 u, .int .i64 r, .int .i64 d]) (by simp [results, Tryz.results68, go_sem, i0, i1, i2, i3]) rfl ?_
 exact ⟨l, u, r, d, kn, rfl, BX.out, HB.out.below BXX, KpW.of_below BXX⟩
end Go.Proofs.YtemhcpldflcfbaaGreatDoor
