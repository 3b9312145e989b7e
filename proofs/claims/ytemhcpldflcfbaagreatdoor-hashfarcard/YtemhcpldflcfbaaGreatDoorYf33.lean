/-
  What the last text of this claim leans on, part 33: Hl2, Sp3.
-/
import Derived.Test.YtemhcpldflcfbaaGreatDoorYf31
import Derived.Test.YtemhcpldflcfbaaGreatDoorYf32
import Derived.Test.YtemhcpldflcfbaaGreatDoorChecked
namespace Go.Proofs.YtemhcpldflcfbaaGreatDoor
open Go.RowKit
set_option linter.unusedVariables false
theorem cut2P {A B : Type} {P Φ : A → B → Prop} {G : Prop} (h : (∀ a b, P a b → Φ a b) → G) (k : ∀ a b, P a b → Φ a b) : G := h k
structure LeI (w wr : World) (B fb lb ts tb k most : Nat) (p : Nat × Nat) (F : Int → Int → Int) (fr0 fd0 : Int) (n0 Q t L : Nat) (fr fd : Int) (n g cap : Nat) (qs : List Sq) : Prop where
 box : wr.heap[fb]? = some (.cells #[.pointer (some ⟨ts, 0, none⟩), .int .i32 (t : Int), .int .i64 (L : Int), .int .i64 fr, .int .i64 fd] 72 (0, 0))
 res : wr.heap[fb + 1]? = some (.cells #[.pointer none, .int .i32 0, .int .i64 0, .int .i64 0, .int .i64 0] 72 (0, 0))
 ldr : wr.heap[lb]? = some (.cells #[.pointer (some ⟨ts, 0, none⟩), .pointer (some ⟨tb, 0, none⟩), .int .i64 (k : Int), .int .i64 (pfE k : Int), .int .i64 (psE k : Int), .int .i64 (most : Int), .slice none 0 0] 129 (0, 0))
 stk : StkA wr ts B g cap qs (some p)
 wf : WFQ qs n t
 lev : L = n + 3
 one : 1 ≤ n
 val : ∀ u v, valQ qs n t (u - fr) (v - fd) = F u v
 cr : 2 * fr + sideI n = 2 * fr0 + sideI n0
 cd : 2 * fd + sideI n = 2 * fd0 + sideI n0
 ge : n0 ≤ n
 len : qs.length + 5 * n0 ≤ Q + 5 * n
 bel : Below w.heap.size w wr
 bl : B ≤ wr.heap.size
def LeP (M : Int) (F : Int → Int → Int) (w : World) (e : Ending) (w' : World) : Prop :=
 Below w.heap.size w w' ∧ (e = .returned (.tuple #[.agg #[.pointer none, .int .i32 0, .int .i64 0, .int .i64 0, .int .i64 0], .bool false]) ∨ ∃ sb t L fr fd n g cap qs p, e = .returned (.tuple #[.agg #[.pointer (some ⟨sb, 0, none⟩), .int .i32 ((t : Nat) : Int), .int .i64 ((L : Nat) : Int), .int .i64 fr, .int .i64 fd], .bool true]) ∧ FldA w' w.heap.size sb t L fr fd M F n g cap qs (some p) ∧ qs.length ≤ 1000000)
def LeO (on : Prop) (M : Int) (F : Int → Int → Int) (w : World) (e : Ending) (w' : World) : Prop := LeP M F w e w' ∧ (on → e ≠ .returned (.tuple #[.agg #[.pointer none, .int .i32 0, .int .i64 0, .int .i64 0, .int .i64 0], .bool false]))
theorem PrF.shift {born stay P : Nat} {F : Int → Int → Int} {R D : Int} (h : PrF born stay F P R D) (a b : Int) : PrF born stay (fun x y => F (a + x) (b + y)) P R D := by
 refine ⟨h.pos, ?_, fun t => ?_⟩
 ·rw [stF_shift, h.again]
  funext u v
  show F (-R + (a + u)) (-D + (b + v)) = F (a + (-R + u)) (b + (-D + v))
  congr 1 <;> omega
 ·obtain ⟨l, v, q⟩ := h.box t
  refine ⟨l - a, v - b, fun x y c => ?_⟩
  rw [stF_shift]
  exact q _ _ (by omega)
set_option maxRecDepth 100000 in
set_option maxHeartbeats 12800000 in
theorem leap_on (on : Prop) (P : Nat) (R D : Int) {born stay : Nat} (hb : born % 2 = 0) {T : Nat → Nat} (hT : TbE born stay T) (hT0 : T 0 = 0) (B0 sb t L : Nat) (fr fd M : Int) (F : Int → Int → Int) (n g cap : Nat) (qs : List Sq) (tb k most : Nat) (w : World) (h : FldA w B0 sb t L fr fd M F n g cap qs) (hn : n ≤ 38) (hq : qs.length ≤ 800000) (ht : TtA w tb T) (htb : tb < w.heap.size) (hk : k ≤ 40) (hmo : most ≤ 1000000) (hM : 16 ≤ M ∧ M ≤ 36028797018963968) (hper : on → PrF born stay F P R D) (hon : on → n + 2 ≤ k ∧ qs.length + 350300 ≤ most) :
  Calls Tryz.prog 30 #[.agg #[.pointer (some ⟨sb, 0, none⟩), .int .i32 (t : Int), .int .i64 (L : Int), .int .i64 fr, .int .i64 fd], .pointer (some ⟨tb, 0, none⟩), .int .i64 (k : Int), .int .i64 (most : Int)] w (LeO on (M + 70368744177664) (stF born stay (2 ^ k) F) w) := by
 have ON := hide' (And.intro hper hon)
 clear hper hon
 obtain ⟨w2, hw2⟩ : ∃ w2, (w.alloc (.cells #[.pointer (some ⟨sb, 0, none⟩), .int .i32 (t : Int), .int .i64 (L : Int), .int .i64 fr, .int .i64 fd] 72)).alloc (.cells #[.pointer none, .int .i32 0, .int .i64 0, .int .i64 0, .int .i64 0] 72) = w2 := ⟨_, rfl⟩
 obtain ⟨fb, hfbb⟩ : ∃ fb, w.heap.size = fb := ⟨_, rfl⟩
 have HW2 := hide' hw2
 have HFB := hide' hfbb
 have B2 := hide' (show Below w.heap.size w w2 by rw [← hw2]; exact ((Below.refl _ _).alloc (Nat.le_refl _) _).alloc (by simp) _)
 have F2 := hide' (show w2.heap[fb]? = some (.cells #[.pointer (some ⟨sb, 0, none⟩), .int .i32 (t : Int), .int .i64 (L : Int), .int .i64 fr, .int .i64 fd] 72 (0, 0)) by rw [← hw2, ← hfbb]; exact (heap_alloc_old _ _ (by simp)).trans (heap_alloc_new w _))
 have R2 := hide' (show w2.heap[fb + 1]? = some (.cells #[.pointer none, .int .i32 0, .int .i64 0, .int .i64 0, .int .i64 0] 72 (0, 0)) by rw [← hw2]; exact heap_atX _ _ _ (by simp [hfbb]))
 have Z2 := hide' (show w2.heap.size = fb + 2 by rw [← hw2]; simp [hfbb])
 have HH := hide' (And.intro h (And.intro hn (And.intro hq (And.intro ht (And.intro htb (And.intro hk (And.intro hmo hM)))))))
 obtain ⟨LV, hLV⟩ : ∃ x, max L (k + 1) + 2 = x := ⟨_, rfl⟩
 have HLV := hide' (show LV = max (n + 3) (k + 1) + 2 ∧ LV ≤ 43 by have := h.lev; omega)
 have PC := hide' (fun (V : World) => paceOf_any k V (by omega))
 have m1 : max (L : Int) ((k : Int) + 1) = ((max L (k + 1) : Nat) : Int) := by omega
 have m2 : ((max L (k + 1) : Nat) : Int) + 2 = (LV : Int) := by omega
 obtain ⟨mx, hmx⟩ : ∃ x, max L (k + 1) = x := ⟨_, rfl⟩
 rw [hmx] at m1 m2
 obtain ⟨k1, hk1⟩ : ∃ x, k + 1 = x := ⟨_, rfl⟩
 have m0 : (k : Int) + 1 = (k1 : Int) := by omega
 rw [m0] at m1
 have b1 : mx ≤ 41 := by have := h.lev; omega
 have b2 : k ≤ 40 := hk
 have b3 : LV ≤ 43 := HLV.out.2
 have b4 : k1 ≤ 41 := by omega
 have b5 : L ≤ 41 := by have := h.lev; omega
 clear h hn hq ht htb hk hmo hM hw2 hfbb hLV hmx hk1
 go_enter Tryz.func30, Tryz.ntmps30
 go_upto_region 1 with fail
 rw [HW2.out, HFB.out]
 go_wp2_with fail
 refine (newKnow_any w2).mono ?_
 rintro o w3 ⟨ts, g3, p, rfl, s3, b3'⟩
 have S3 := hide' s3
 have B3 := hide' b3'
 clear s3 b3'
 go_wp2_with fail
 refine (PC.out w3).mono ?_
 rintro o w4 ⟨rfl, b4'⟩
 have B4 := hide' b4'
 clear b4'
 go_upto_region 2 with fail
 obtain ⟨lb, hlb⟩ : ∃ x, w4.heap.size = x := ⟨_, rfl⟩
 obtain ⟨w5, hw5⟩ : ∃ x, w4.alloc (.cells #[.pointer (some ⟨ts, 0, none⟩), .pointer (some ⟨tb, 0, none⟩), .int .i64 (k : Int), .int .i64 (pfE k : Int), .int .i64 (psE k : Int), .int .i64 (most : Int), .slice none 0 0] 129) = x := ⟨_, rfl⟩
 rw [hw5, hlb]
 have B35 := hide' (show Below w3.heap.size w3 w5 by rw [← hw5]; exact B4.out.alloc B4.out.size _)
 have B25 := hide' (show Below w2.heap.size w2 w5 from B3.out.trans (B35.out.mono B3.out.size))
 have B5 := hide' (show Below w.heap.size w w5 from B2.out.trans (B25.out.mono B2.out.size))
 have L5 := hide' (show w5.heap[lb]? = some (.cells #[.pointer (some ⟨ts, 0, none⟩), .pointer (some ⟨tb, 0, none⟩), .int .i64 (k : Int), .int .i64 (pfE k : Int), .int .i64 (psE k : Int), .int .i64 (most : Int), .slice none 0 0] 129 (0, 0)) by rw [← hw5, ← hlb]; exact heap_alloc_new _ _)
 have F5 := hide' ((B25.out.block fb (lt_of_block F2.out)).trans F2.out)
 have R5 := hide' ((B25.out.block (fb + 1) (lt_of_block R2.out)).trans R2.out)
 have S5 := hide' (S3.out.below B35.out)
 have LBB := hide' (show fb + 2 ≤ lb by rw [← hlb]; have := B4.out.size; have := B3.out.size; have := Z2.out; omega)
 clear hlb hw5
 have c2 := cell_of_row w5 fb 2 _ _ _ F5.out
 simp at c2
 go_upto_region 3 with fail
 clear c2
 have c0 := cell_of_row w5 fb 0 _ _ _ F5.out
 have c1 := cell_of_row w5 fb 1 _ _ _ F5.out
 have c2 := cell_of_row w5 fb 2 _ _ _ F5.out
 have c3 := cell_of_row w5 fb 3 _ _ _ F5.out
 have c4 := cell_of_row w5 fb 4 _ _ _ F5.out
 have l0 := cell_of_row w5 lb 0 _ _ _ L5.out
 simp at c0 c1 c2 c3 c4 l0
 have MV := hide' (moved_anyK sb g cap ts (fb + 2) g3 1 qs [zQ] n t L fr fd w5.drew ((HH.out.1.stk.below B5.out).drewS.weakB (Nat.zero_le _)) (show StkA w5.drew ts (fb + 2) g3 1 [zQ] (some p) by rw [← Z2.out]; exact S5.out.drewS) ⟨⟨by have := HH.out.1.stk.lt.1; have := HFB.out; omega, by have := HH.out.1.stk.lt.2; have := HFB.out; omega⟩, fun k e => absurd e id⟩ (by have := B25.out.size; have := Z2.out; show fb + 2 ≤ w5.heap.size; omega) (by have := HH.out.2.2.1; simp; omega) HH.out.1.wf)
 refine cut2P (P := fun t' X => Hid (∃ g' cap' qs', LeI w X (fb + 2) fb lb ts tb k most p F fr fd n (qs.length + 1) t' L fr fd n g' cap' qs')) (Φ := ?PH) (fun CUT => ?mn) ?rs
 case mn =>
  go_region_with (go_at_call 47; refine MV.out.mono ?_; rintro o w6 ⟨⟨g6, cap6, qs6, t6, rfl, s6, wf6, v6, l6, b6⟩, kk6⟩; have X6 := hide' (show w6.heap[fb]? = some (.cells #[.pointer (some ⟨sb, 0, none⟩), .int .i32 (t : Int), .int .i64 (L : Int), .int .i64 fr, .int .i64 fd] 72 (0, 0)) from (b6.block fb (by omega)).trans F5.out); have z0 := cell_of_row w6 fb 0 _ _ _ X6.out; have z1 := cell_of_row w6 fb 1 _ _ _ X6.out; have z2 := cell_of_row w6 fb 2 _ _ _ X6.out; have z3 := cell_of_row w6 fb 3 _ _ _ X6.out; have z4 := cell_of_row w6 fb 4 _ _ _ X6.out; have y0 := frozen_of_row w6 fb 0 _ _ X6.out; have y1 := frozen_of_row w6 fb 1 _ _ X6.out; have y2 := frozen_of_row w6 fb 2 _ _ X6.out; have y3 := frozen_of_row w6 fb 3 _ _ X6.out; have y4 := frozen_of_row w6 fb 4 _ _ X6.out; simp at z0 z1 z2 z3 z4)
  all_goals
   obtain ⟨X, hX⟩ : ∃ X, ((((w6.setCell ⟨fb, 0, none⟩ (.pointer (some ⟨ts, 0, none⟩))).setCell ⟨fb, 1, none⟩ (.int .i32 (t6 : Int))).setCell ⟨fb, 2, none⟩ (.int .i64 (L : Int))).setCell ⟨fb, 3, none⟩ (.int .i64 fr)).setCell ⟨fb, 4, none⟩ (.int .i64 fd) = X := ⟨_, rfl⟩
   rw [hX]
   have T8 := hide' (show ∃ g' cap' qs', LeI w X (fb + 2) fb lb ts tb k most p F fr fd n (qs.length + 1) t6 L fr fd n g' cap' qs' from by
    have q1 := s6.ne_four X6.out (by decide) (by decide)
    have q2 := s6.nomap X6.out
    have hlb := LBB.out
    have sz := And.intro Z2.out (And.intro B25.out.size HFB.out)
    have kl := kk6 lb (lt_of_block L5.out) (S5.out.ne_four L5.out (by decide) (by decide)).1 (S5.out.ne_four L5.out (by decide) (by decide)).2 (S5.out.nomap L5.out)
    have kr := kk6 (fb + 1) (lt_of_block R5.out) (S5.out.ne_four R5.out (by decide) (by decide)).1 (S5.out.ne_four R5.out (by decide) (by decide)).2 (S5.out.nomap R5.out)
    refine ⟨g6, cap6, qs6, ⟨by rw [← hX]; exact five_stored X6.out _ _ _ _ _, by rw [← hX]; exact (five_else (by omega) _ _ _ _ _).trans (kr.trans R5.out), by rw [← hX]; exact (five_else (by omega) _ _ _ _ _).trans (kl.trans L5.out), by rw [← hX]; exact s6.keepM (five_else (fun e => q1.1 e.symm) _ _ _ _ _) (five_else (fun e => q1.2 e.symm) _ _ _ _ _) (fun z e => five_else (fun q => q2 (by rw [← q]; exact e)) _ _ _ _ _), wf6, HH.out.1.lev, HH.out.1.one, fun u v => by rw [v6]; exact HH.out.1.val u v, rfl, rfl, Nat.le_refl _, by simp at l6; omega, ?_, ?_⟩⟩
    ·have b := b6.size
     rw [← hX]
     refine five_belowH ?_ (by omega) _ _ _ _ _
     exact B5.out.trans (show Below w.heap.size w5 w6 from ⟨b6.os, b6.tape, b6.output, b6.size, fun z hz => b6.block z (by omega)⟩)
    ·have b : w5.heap.size ≤ w6.heap.size := b6.size
     rw [← hX]
     simp only [World.size_setCell]
     omega)
   exact CUT _ _ T8
 case rs =>
  intro t1 X T9
  obtain ⟨g1, cap1, qs1, hI⟩ := T9.out
  have I1 := hide' hI
  clear hI T9 c0 c1 c2 c3 c4 l0
  go_wp2
  go_loopw [37] (fun _ wr => ∃ (t L : Nat) (fr' fd' : Int) (n' g cap : Nat) (qs' : List Sq), Hid (LeI w wr (fb + 2) fb lb ts tb k most p F fr fd n (qs.length + 1) t L fr' fd' n' g cap qs') ∧ Hid (L ≤ LV)) (fun _ wr => 50 - levW fb wr)
  case atStart => exact ⟨t1, L, fr, fd, n, g1, cap1, qs1, I1, hide' (by have := HLV.out.1; have := HH.out.1.lev; omega)⟩
  case round =>
   obtain ⟨t', L', fr', fd', n', g', cap', qs', HI, HLE⟩ := hrel
   have c2 := cell_of_row wr fb 2 _ _ _ HI.out.box
   simp at c2
   have NL := hide' (show n' ≤ 40 by have := HLE.out; have := HLV.out.2; have := HI.out.lev; omega)
   have sl := sideI_le (n := n') (by have := NL.out; omega)
   have sl0 := sideI_le (n := n) (by have := HH.out.2.1; omega)
   have BD := hide' (show (-288230376151711744 ≤ fr' ∧ fr' ≤ 288230376151711744) ∧ (-288230376151711744 ≤ fd' ∧ fd' ≤ 288230376151711744) by
    have a1 := HH.out.1.r1
    have a2 := HH.out.1.r2
    have a3 := HH.out.1.d1
    have a4 := HH.out.1.d2
    have a5 := HI.out.cr
    have a6 := HI.out.cd
    have a7 := HH.out.2.2.2.2.2.2.2
    have p1 := sideI_pos n
    have p2 := sideI_pos n'
    omega)
   clear sl sl0
   by_cases lt : L' < LV
   ·have lt1 : (L' : Int) < (LV : Int) := by omega
    have LT := hide' lt
    have l48 : L' ≤ 43 := by have := HLV.out.2; omega
    obtain ⟨m, rfl⟩ : ∃ m, n' = m + 1 := ⟨n' - 1, by have := HI.out.one; omega⟩
    obtain ⟨L1, hL1⟩ : ∃ L1, m + 5 = L1 := ⟨_, rfl⟩
    obtain ⟨fr2, hfr2⟩ : ∃ z, fr' - sideI m = z := ⟨_, rfl⟩
    obtain ⟨fd2, hfd2⟩ : ∃ z, fd' - sideI m = z := ⟨_, rfl⟩
    have QL := hide' (show qs'.length ≤ 900000 by have := HI.out.len; have := HH.out.2.2.1; have := NL.out; omega)
    have PAD := hide' (padded_any (some p) (fb + 2) ts t' L' fr' fd' F m g' cap' qs' wr HI.out.stk HI.out.wf (by have := HI.out.lev; omega) (by have := NL.out; omega) HI.out.val BD.out.1 BD.out.2 HI.out.bl (by have := QL.out; omega) L1 hL1.symm fr2 fd2 hfr2.symm hfd2.symm)
    have HLF := hide' (And.intro hL1.symm (And.intro hfr2.symm hfd2.symm))
    have c0 := cell_of_row wr fb 0 _ _ _ HI.out.box
    have c1 := cell_of_row wr fb 1 _ _ _ HI.out.box
    have c3 := cell_of_row wr fb 3 _ _ _ HI.out.box
    have c4 := cell_of_row wr fb 4 _ _ _ HI.out.box
    simp at c0 c1 c3 c4
    clear hL1 hfr2 hfd2 lt
    go_wp2_with fail
    refine PAD.out.mono ?_
    rintro o w6 ⟨t2, g2, cap2, qs2, rfl, s1, s2, s3, s4, s5⟩
    have X6 := hide' (s5.ty HI.out.stk HI.out.box (by decide) (by decide))
    have z0 := cell_of_row w6 fb 0 _ _ _ X6.out
    have z1 := cell_of_row w6 fb 1 _ _ _ X6.out
    have z2 := cell_of_row w6 fb 2 _ _ _ X6.out
    have z3 := cell_of_row w6 fb 3 _ _ _ X6.out
    have z4 := cell_of_row w6 fb 4 _ _ _ X6.out
    have y0 := frozen_of_row w6 fb 0 _ _ X6.out
    have y1 := frozen_of_row w6 fb 1 _ _ X6.out
    have y2 := frozen_of_row w6 fb 2 _ _ X6.out
    have y3 := frozen_of_row w6 fb 3 _ _ X6.out
    have y4 := frozen_of_row w6 fb 4 _ _ X6.out
    simp at z0 z1 z2 z3 z4
    obtain ⟨Y, hY⟩ : ∃ X, ((((w6.setCell ⟨fb, 0, none⟩ (.pointer (some ⟨ts, 0, none⟩))).setCell ⟨fb, 1, none⟩ (.int .i32 (t2 : Int))).setCell ⟨fb, 2, none⟩ (.int .i64 (L1 : Int))).setCell ⟨fb, 3, none⟩ (.int .i64 fr2)).setCell ⟨fb, 4, none⟩ (.int .i64 fd2) = X := ⟨_, rfl⟩
    have HY := hide' hY
    have NX := hide' (show LeI w Y (fb + 2) fb lb ts tb k most p F fr fd n (qs.length + 1) t2 L1 fr2 fd2 (m + 1 + 1) g2 cap2 qs2 ∧ 50 - levW fb Y < 50 - levW fb wr from by
     have q1 := s1.ne_four X6.out (by decide) (by decide)
     have q2 := s1.nomap X6.out
     have hlb := LBB.out
     have sn1 := sideI_next m
     have sn2 := sideI_next (m + 1)
     have hl := HLF.out
     have eY : Y.heap[fb]? = some (.cells #[.pointer (some ⟨ts, 0, none⟩), .int .i32 (t2 : Int), .int .i64 (L1 : Int), .int .i64 fr2, .int .i64 fd2] 72 (0, 0)) := by rw [← hY]; exact five_stored X6.out _ _ _ _ _
     refine ⟨⟨eY, by rw [← hY]; exact (five_else (by omega) _ _ _ _ _).trans (s5.ty HI.out.stk HI.out.res (by decide) (by decide)), by rw [← hY]; exact (five_else (by omega) _ _ _ _ _).trans (s5.ty HI.out.stk HI.out.ldr (by decide) (by decide)), by rw [← hY]; exact s1.keepM (five_else (fun e => q1.1 e.symm) _ _ _ _ _) (five_else (fun e => q1.2 e.symm) _ _ _ _ _) (fun z e => five_else (fun q => q2 (by rw [← q]; exact e)) _ _ _ _ _), s2, by omega, by omega, s3, by have := HI.out.cr; omega, by have := HI.out.cd; omega, by have := HI.out.ge; omega, by have := HI.out.len; omega, ?_, ?_⟩, ?_⟩
     ·have b := s5.bel HI.out.stk HI.out.bl
      have hf := HFB.out
      rw [← hY]
      refine five_belowH ?_ (by omega) _ _ _ _ _
      exact HI.out.bel.trans ⟨b.os, b.tape, b.output, b.size, fun z hz => b.block z (by omega)⟩
     ·have b := s5.size
      have c := HI.out.bl
      rw [← hY]
      simp only [World.size_setCell]
      omega
     ·rw [levW_of eY, levW_of HI.out.box]
      have := HI.out.lev
      have := NL.out
      omega)
    clear s1 s2 s3 s4 s5 hY c0 c1 c2 c3 c4
    go_wp2
    rw [HY.out]
    exact ⟨⟨t2, L1, fr2, fd2, m + 1 + 1, g2, cap2, qs2, hide' NX.out.1, hide' (by have := HLF.out.1; have := LT.out; have := HI.out.lev; omega)⟩, NX.out.2⟩
   ·have lt1 : ¬ (L' : Int) < (LV : Int) := by omega
    have EL := hide' (show L' = LV by have := HLE.out; omega)
    clear lt
    obtain ⟨m, rfl⟩ : ∃ m, n' = m + 1 := ⟨n' - 1, by have := HI.out.one; omega⟩
    have GE := hide' (show n + 1 ≤ m ∧ k ≤ m + 1 ∧ m ≤ 39 ∧ L' = m + 4 by have := HI.out.lev; have := EL.out; have := HLV.out; omega)
    have GEO := hide' (leap_geo (n := n) (m := m) (k := k) GE.out.1 GE.out.2.1)
    have IC := hide' (show ∃ c : LpK, c.lb = lb ∧ c.k = k ∧ c.most = most ∧ c.born = born ∧ c.stay = stay ∧ LpOk c ∧ c.B = fb + 2 ∧ c.sb = ts ∧ c.p = p ∧ LpA c wr g' cap' qs' (.slice none 0 0) [] ∧ (c.on ↔ on) ∧ WtQ c qs' (m + 1) t' from by
     refine ⟨⟨lb, ts, fb + 2, tb, k, most, born, stay, p, T, on, fun x y => F (fr' + x) (fd' + y), P, R, D, qs'.length⟩, rfl, rfl, rfl, rfl, rfl, ⟨hT, hT0, hb, by have := HH.out.2.2.2.2.1; have := HFB.out; show tb < fb + 2; omega, HH.out.2.2.2.2.2.1, HH.out.2.2.2.2.2.2.1, fun ho => (ON.out.1 ho).shift fr' fd', fun ho => by have := (ON.out.2 ho).2; have := HI.out.len; have := GE.out; show qs'.length + 350001 ≤ most; omega⟩, rfl, rfl, rfl, ⟨HI.out.ldr, HI.out.stk, ?_, ⟨rfl, Or.inl ⟨rfl, rfl⟩⟩, ⟨LBB.out, HI.out.bl⟩, by simp, fun i hi => absurd hi (by simp), fun _ u h1 h2 => absurd h2 (by show ¬ u < qs'.length; have h1 : qs'.length ≤ u := h1; omega)⟩, Iff.rfl, fun _ => ⟨0, 0, 0, ?_⟩⟩
     rotate_left
     ·intro x y _ _ _ _
      rw [Nat.zero_mul, stF_zero]
      have q := HI.out.val (fr' + x) (fd' + y)
      rw [show fr' + x - fr' = x by omega, show fd' + y - fd' = y by omega] at q
      rw [q]
      show F (fr' + x) (fd' + y) = F (fr' + (0 * _ + x)) (fd' + (0 * _ + y))
      rw [Int.zero_mul, Int.zero_add, Int.zero_add]
     exact HH.out.2.2.2.1.keepB HI.out.bel HH.out.2.2.2.2.1)
    obtain ⟨c, hc1, hc2, hc3, hc4, hc5, ok, hcB, hcs, hcp, A0, hco, hcw⟩ := IC.out
    have CON := hide' hco
    have GEK := hide' (show on → m + 1 ≤ k from fun ho => by have := (ON.out.2 ho).1; have := EL.out; have := HLV.out.1; have := GE.out.2.2.2; omega)
    have OK := hide' ok
    have CC := hide' (And.intro hc1 (And.intro hc2 (And.intro hc3 (And.intro hc4 (And.intro hc5 (And.intro hcB (And.intro hcs hcp)))))))
    have AH := hide' (fun (V : World) (hV : LpA c V g' cap' qs' (.slice none 0 0) []) => ahead_any m c ok g' cap' qs' (.slice none 0 0) [] t' L' V hV HI.out.wf GE.out.2.2.2 (by have := GE.out.2.2.1; omega) hcw (fun ho => by rw [hc2]; exact GEK.out (hco.1 ho)))
    rw [hc1] at AH
    have AD := hide' (show LpA c wr.drew g' cap' qs' (.slice none 0 0) [] from A0.drew)
    clear ok A0 IC hc1 hc2 hc3 hc4 hc5 hcB hcs hcp hco hcw
    have c1 := cell_of_row wr fb 1 _ _ _ HI.out.box
    simp at c1
    obtain ⟨L2, hL2⟩ : ∃ x, m + 2 = x := ⟨_, rfl⟩
    have e1 : (L' : Int) - 2 = (L2 : Int) := by have := GE.out; omega
    have e2 : L2 ≤ 48 := by have := GE.out; omega
    have e3 : IntKind.i64.wrap (L2 : Int) = (L2 : Int) := wrap_natK _ (by omega)
    obtain ⟨qd, hqd⟩ : ∃ x, qrI m = x := ⟨_, rfl⟩
    have q46 : qd ≤ 17592186044416 := by
     have a := sideI_le (n := m) (by have := GE.out; omega)
     have b := sideI_mono (a := m) (b := 39) (by have := GE.out; omega)
     rw [show sideI 39 = 4398046511104 by decide] at b
     have := GEO.out.2.2.2
     omega
    have qp : 4 ≤ qd := by have := GEO.out.2.2.2; have := sideI_pos m; omega
    have e4 : IntKind.i64.wrap (2 ^ L2) = qd := by
     have : (2 : Int) ^ L2 = qd := by rw [← hL2, ← hqd, ← qr_pow]; push_cast; rfl
     rw [this]
     simp [IntKind.wrap, IntKind.bits, IntKind.signed]; omega
    have HQD := hide' hqd
    have SC := hide' (fun (V : World) (e : V.heap[fb]? = wr.heap[fb]?) => show V.cell? ⟨fb, 1, none⟩ = some (.int .i32 (t' : Int)) ∧ V.cell? ⟨fb, 2, none⟩ = some (.int .i64 (L' : Int)) from ⟨(World.cell?_of_block (a := ⟨fb, 1, none⟩) e).trans c1, (World.cell?_of_block (a := ⟨fb, 2, none⟩) e).trans c2⟩)
    have l48 : L' ≤ 43 := by have := GE.out; omega
    clear hL2 hqd
    go_upto_region 6 with fail
    go_region_held3 (fun V => V.cell? ⟨fb, 1, none⟩ = some (.int .i32 (t' : Int)) ∧ V.cell? ⟨fb, 2, none⟩ = some (.int .i64 (L' : Int))) (first | with_reducible exact SG.out | exact SC.out _ rfl | fail) (first
     | (go_at_call 59; refine (AH.out _ AD.out).mono ?_; rintro o w7 ⟨g7, cap7, qs7, lv7, la7, r7, rfl, h7, ⟨e7, l7, le7⟩, wf7, s7, b7, k7⟩; have H7 := hide' h7; have P7 := hide' (And.intro e7 (And.intro l7 (And.intro wf7 (And.intro s7 (And.intro b7 k7))))); have G7 := hide' (show w7.heap[fb]? = wr.heap[fb]? from (k7 fb _ _ _ HI.out.box (by decide) (by decide) (by decide) (by decide)).trans HI.out.box.symm); have SG := hide' (SC.out w7 G7.out); clear h7 e7 l7 le7 wf7 s7 b7 k7)
     | fail)
    have FC := hide' (isFull_any c g7 cap7 qs7 lv7 la7 w7 H7.out)
    rw [CC.out.1, CC.out.2.2.1] at FC
    have BW7 := hide' (show Below w.heap.size w w7 from by
     have b := P7.out.2.2.2.2.1
     have hf := HFB.out
     have hB := CC.out.2.2.2.2.2.1
     exact HI.out.bel.trans ⟨b.os, b.tape, b.output, b.size, fun z hz => b.block z (by omega)⟩)
    have R7 := hide' (P7.out.2.2.2.2.2 (fb + 1) _ _ _ HI.out.res (by decide) (by decide) (by decide) (by decide))
    have D7 := hide' H7.out.ldr
    clear c1 c2 e1 e2 e3 e4
    go_wp2_with fail
    refine FC.out.mono ?_
    rintro o w8 ⟨rfl, q, e8⟩
    have B8 := hide' (show Below w7.heap.size w7 w8 by rw [e8]; exact below_drewN (Below.refl _ _) q)
    clear e8
    have R8 := hide' ((B8.out.block (fb + 1) (lt_of_block R7.out)).trans R7.out)
    have BW8 := hide' (BW7.out.trans (B8.out.mono BW7.out.size))
    have d0 := cell_of_row w8 (fb + 1) 0 _ _ _ R8.out
    have d1 := cell_of_row w8 (fb + 1) 1 _ _ _ R8.out
    have d2 := cell_of_row w8 (fb + 1) 2 _ _ _ R8.out
    have d3 := cell_of_row w8 (fb + 1) 3 _ _ _ R8.out
    have d4 := cell_of_row w8 (fb + 1) 4 _ _ _ R8.out
    have y0 := frozen_of_row w8 (fb + 1) 0 _ _ R8.out
    have y1 := frozen_of_row w8 (fb + 1) 1 _ _ R8.out
    have y2 := frozen_of_row w8 (fb + 1) 2 _ _ R8.out
    have y3 := frozen_of_row w8 (fb + 1) 3 _ _ R8.out
    have y4 := frozen_of_row w8 (fb + 1) 4 _ _ R8.out
    simp at d0 d1 d2 d3 d4
    by_cases full : most < qs7.length
    ·rw [decide_eq_true full]
     have FUL := hide' (show on → False from fun ho => by
      have := (H7.out.few OK.out (CON.out.2 ho)).2
      have := CC.out.2.2.1
      omega)
     clear full
     go_wp2
     obtain ⟨Y, hY⟩ : ∃ X, ((((w8.setCell ⟨fb + 1, 0, none⟩ (.pointer none)).setCell ⟨fb + 1, 1, none⟩ (.int .i32 0)).setCell ⟨fb + 1, 2, none⟩ (.int .i64 0)).setCell ⟨fb + 1, 3, none⟩ (.int .i64 0)).setCell ⟨fb + 1, 4, none⟩ (.int .i64 0) = X := ⟨_, rfl⟩
     have GY : Y.heap[fb + 1]? = some (.cells #[.pointer none, .int .i32 0, .int .i64 0, .int .i64 0, .int .i64 0] 72 (0, 0)) := by rw [← hY]; exact five_stored R8.out _ _ _ _ _
     have BY := hide' (show Below w.heap.size w Y by rw [← hY]; exact five_belowH BW8.out (by have := HFB.out; omega) _ _ _ _ _)
     rw [hY]
     clear hY d0 d1 d2 d3 d4 y0 y1 y2 y3 y4
     have i0 := cell_of_row Y _ 0 _ _ _ GY
     have i1 := cell_of_row Y _ 1 _ _ _ GY
     have i2 := cell_of_row Y _ 2 _ _ _ GY
     have i3 := cell_of_row Y _ 3 _ _ _ GY
     have i4 := cell_of_row Y _ 4 _ _ _ GY
     simp at i0 i1 i2 i3 i4
     refine bodyPost_ret (v := .tuple #[.agg #[.pointer none, .int .i32 0, .int .i64 0, .int .i64 0, .int .i64 0], .bool false]) (by simp [results, Tryz.results30, go_sem, i0, i1, i2, i3, i4]) rfl ?_
     exact ⟨⟨BY.out, Or.inl rfl⟩, fun ho => absurd (FUL.out ho) id⟩
    ·rw [decide_eq_false full]
     have NFU := hide' full
     clear full
     have X8 := hide' (show w8.heap[fb]? = some (.cells #[.pointer (some ⟨ts, 0, none⟩), .int .i32 (t' : Int), .int .i64 (L' : Int), .int .i64 fr', .int .i64 fd'] 72 (0, 0)) from (B8.out.block fb (by have := lt_of_block R7.out; omega)).trans (G7.out.trans HI.out.box))
     have x2 := cell_of_row w8 fb 2 _ _ _ X8.out
     have x3 := cell_of_row w8 fb 3 _ _ _ X8.out
     have x4 := cell_of_row w8 fb 4 _ _ _ X8.out
     have LD8 := hide' (show w8.cell? ⟨lb, 0, none⟩ = some (.pointer (some ⟨ts, 0, none⟩)) from by
      have l := (B8.out.block c.lb (lt_of_block D7.out)).trans D7.out
      rw [CC.out.1, CC.out.2.2.2.2.2.2.1] at l
      rw [cell_of_row w8 lb 0 _ _ _ l]; rfl)
     have x0 := LD8.out
     simp at x2 x3 x4
     obtain ⟨Lr, hLr⟩ : ∃ x, m + 3 = x := ⟨_, rfl⟩
     obtain ⟨fr3, hfr3⟩ : ∃ x, fr' + qd = x := ⟨_, rfl⟩
     obtain ⟨fd3, hfd3⟩ : ∃ x, fd' + qd = x := ⟨_, rfl⟩
     have f1 : (L' : Int) - 1 = (Lr : Int) := by have := GE.out; omega
     have f2 : IntKind.i64.wrap (Lr : Int) = (Lr : Int) := wrap_natK _ (by have := GE.out; omega)
     have f3 : IntKind.i64.wrap fr3 = fr3 := by have := BD.out; simp [IntKind.wrap, IntKind.bits, IntKind.signed]; omega
     have f4 : IntKind.i64.wrap fd3 = fd3 := by have := BD.out; simp [IntKind.wrap, IntKind.bits, IntKind.signed]; omega
     have f5 : wrap64 fr3 = fr3 := by have := BD.out; unfold wrap64; omega
     have f6 : wrap64 fd3 = fd3 := by have := BD.out; unfold wrap64; omega
     obtain ⟨Y, hY⟩ : ∃ X, (((((w8.setCell ⟨fb + 1, 0, none⟩ (.pointer (some ⟨ts, 0, none⟩))).setCell ⟨fb + 1, 1, none⟩ (.int .i32 (r7 : Int))).setCell ⟨fb + 1, 2, none⟩ (.int .i64 (Lr : Int))).setCell ⟨fb + 1, 3, none⟩ (.int .i64 fr3)).setCell ⟨fb + 1, 4, none⟩ (.int .i64 fd3)).drew = X := ⟨_, rfl⟩
     have HY := hide' hY
     have GY := hide' (show Y.heap[fb + 1]? = some (.cells #[.pointer (some ⟨ts, 0, none⟩), .int .i32 (r7 : Int), .int .i64 (Lr : Int), .int .i64 fr3, .int .i64 fd3] 72 (0, 0)) by rw [← hY]; exact five_stored R8.out _ _ _ _ _)
     have FIN := hide' (show LeP (M + 70368744177664) (stF born stay (2 ^ k) F) w (.returned (.tuple #[.agg #[.pointer (some ⟨ts, 0, none⟩), .int .i32 (r7 : Int), .int .i64 (Lr : Int), .int .i64 fr3, .int .i64 fd3], .bool true])) Y from by
      have cc := CC.out
      have nf := NFU.out
      have s8 : StkA w8 ts (fb + 2) g7 cap7 qs7 (some p) := by
       have := H7.out.stk.below B8.out
       rw [cc.2.2.2.2.2.1, cc.2.2.2.2.2.2.1, cc.2.2.2.2.2.2.2] at this
       exact this
      have q1 := s8.ne_four R8.out (by decide) (by decide)
      have q2 := s8.nomap R8.out
      obtain ⟨⟨ms, e7⟩, l7, wf7, s7, -, -⟩ := P7.out
      have lp := s7 (by rw [cc.2.2.1]; omega)
      unfold LpS at lp
      rw [cc.2.1, cc.2.2.2.1, cc.2.2.2.2.1, Nat.min_eq_left (by have := GE.out; omega)] at lp
      have hv : ∀ u v, valQ qs7 (m + 1) t' (u - fr') (v - fd') = F u v := fun u v => by rw [e7, HI.out.wf.val HI.out.stk.st]; exact HI.out.val u v
      have hF : InBx F fr (fr + sideI n) fd (fd + sideI n) := fun x y q => by rw [← HH.out.1.val]; exact val_out _ _ _ _ (by omega)
      have ge := GEO.out
      have cr := HI.out.cr
      have cd := HI.out.cd
      have lv := leap_val hb lp hv hF (by omega) (by omega) (by omega) (by omega)
      rw [HQD.out] at lv ge
      have a1 := HH.out.1.r1
      have a2 := HH.out.1.r2
      have a3 := HH.out.1.d1
      have a4 := HH.out.1.d2
      have pp := sideI_pos n
      refine ⟨by rw [← hY]; exact (five_belowH BW8.out (by have := HFB.out; omega) _ _ _ _ _).drew, Or.inr ⟨ts, r7, Lr, fr3, fd3, m, g7, cap7, qs7, p, rfl, ⟨?_, wf7, hLr.symm, by have := GE.out; omega, by have := GE.out; omega, by omega, by omega, by omega, by omega, fun u v => by rw [← hfr3, ← hfd3]; exact lv u v⟩, by have := HH.out.2.2.2.2.2.2.1; omega⟩⟩
      rw [← hY]
      exact (s8.keepM (five_else (fun e => q1.1 e.symm) _ _ _ _ _) (five_else (fun e => q1.2 e.symm) _ _ _ _ _) (fun z e => five_else (fun q => q2 (by rw [← q]; exact e)) _ _ _ _ _)).drewS.weakB (by have := HFB.out; omega))
     clear hY hLr
     go_upto_region 9 with fail
     go_region
     rw [HY.out]
     clear x0 x2 x3 x4 d0 d1 d2 d3 d4 y0 y1 y2 y3 y4 f1 f2 f3 f4 f5 f6
     have i0 := cell_of_row Y _ 0 _ _ _ GY.out
     have i1 := cell_of_row Y _ 1 _ _ _ GY.out
     have i2 := cell_of_row Y _ 2 _ _ _ GY.out
     have i3 := cell_of_row Y _ 3 _ _ _ GY.out
     have i4 := cell_of_row Y _ 4 _ _ _ GY.out
     simp at i0 i1 i2 i3 i4
     go_wp2
     refine bodyPost_ret (v := .tuple #[.agg #[.pointer (some ⟨ts, 0, none⟩), .int .i32 (r7 : Int), .int .i64 (Lr : Int), .int .i64 fr3, .int .i64 fd3], .bool true]) (by simp [results, Tryz.results30, go_sem, i0, i1, i2, i3, i4]) rfl ?_
     exact ⟨FIN.out, fun _ q => by injection q with q; injection q with q; injection q with q; simp at q⟩
theorem leap_any {born stay : Nat} (hb : born % 2 = 0) {T : Nat → Nat} (hT : TbE born stay T) (hT0 : T 0 = 0) (B0 sb t L : Nat) (fr fd M : Int) (F : Int → Int → Int) (n g cap : Nat) (qs : List Sq) (tb k most : Nat) (w : World) (h : FldA w B0 sb t L fr fd M F n g cap qs) (hn : n ≤ 38) (hq : qs.length ≤ 800000) (ht : TtA w tb T) (htb : tb < w.heap.size) (hk : k ≤ 40) (hmo : most ≤ 1000000) (hM : 16 ≤ M ∧ M ≤ 36028797018963968) :
  Calls Tryz.prog 30 #[.agg #[.pointer (some ⟨sb, 0, none⟩), .int .i32 (t : Int), .int .i64 (L : Int), .int .i64 fr, .int .i64 fd], .pointer (some ⟨tb, 0, none⟩), .int .i64 (k : Int), .int .i64 (most : Int)] w (LeP (M + 70368744177664) (stF born stay (2 ^ k) F) w) :=
 (leap_on False 1 0 0 hb hT hT0 B0 sb t L fr fd M F n g cap qs tb k most w h hn hq ht htb hk hmo hM (fun h => absurd h id) (fun h => absurd h id)).mono fun _ _ q => q.1
def nbD (W : Nat) (cor : Bool) (a b : Nat) : Bool :=
 decide (a % W ≤ b % W + 1) && decide (b % W ≤ a % W + 1) && decide (a / W ≤ b / W + 1) && decide (b / W ≤ a / W + 1) && (cor || decide (a % W = b % W) || decide (a / W = b / W))
def anyD (f : Nat → Bool) : Nat → Bool
 | 0 => false
 | k + 1 => anyD f k || f k
theorem any_ext {f g : Nat → Bool} : ∀ {k : Nat}, (∀ j, j < k → f j = g j) → anyD f k = anyD g k
 | 0, _ => rfl
 | k + 1, h => by rw [anyD, anyD, any_ext (fun j hj => h j (by omega)), h k (by omega)]
theorem any_iff {f : Nat → Bool} : ∀ {k : Nat}, anyD f k = true ↔ ∃ j, j < k ∧ f j = true
 | 0 => by simp [anyD]
 | k + 1 => by
  rw [anyD, Bool.or_eq_true, any_iff]
  constructor
  ·rintro (⟨j, hj, h⟩ | h)
   ·exact ⟨j, by omega, h⟩
   ·exact ⟨k, by omega, h⟩
  ·rintro ⟨j, hj, h⟩
   by_cases e : j = k
   ·subst e; exact Or.inr h
   ·exact Or.inl ⟨j, by omega, h⟩
def wetS (W N : Nat) (cor : Bool) (st inS : Nat → Bool) : Nat → Nat → Bool
 | 0, i => st i && inS i
 | t + 1, i => inS i && anyD (fun j => nbD W cor i j && wetS W N cor st inS t j) N
end Go.Proofs.YtemhcpldflcfbaaGreatDoor
