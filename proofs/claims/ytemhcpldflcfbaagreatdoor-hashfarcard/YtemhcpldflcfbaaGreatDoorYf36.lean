/-
  What the last text of this claim leans on, part 36: Hp3, Hu5.
-/
import Derived.Test.YtemhcpldflcfbaaGreatDoorYf26
import Derived.Test.YtemhcpldflcfbaaGreatDoorYf33
import Derived.Test.YtemhcpldflcfbaaGreatDoorYf35
namespace Go.Proofs.YtemhcpldflcfbaaGreatDoor
open Go.RowKit
set_option linter.unusedVariables false
theorem cutJ {P Φ : Nat → Option Addr → Int → Int → Int → Int → Bool → World → Prop} {G : Prop} (h : (∀ a b c d e f g i, P a b c d e f g i → Φ a b c d e f g i) → G) (k : ∀ a b c d e f g i, P a b c d e f g i → Φ a b c d e f g i) : G := h k
set_option maxRecDepth 100000 in
set_option maxHeartbeats 3200000 in
theorem tooWide_no (sb t L : Nat) (fr fd : Int) (w : World) (hL : L ≤ 46) (hr : -144115188075855872 ≤ fr ∧ fr ≤ 144115188075855872) (hd : -144115188075855872 ≤ fd ∧ fd ≤ 144115188075855872) :
  Calls Tryz.prog 27 #[.agg #[.pointer (some ⟨sb, 0, none⟩), .int .i32 (t : Int), .int .i64 (L : Int), .int .i64 fr, .int .i64 fd]] w fun e w' => e = .returned (.bool false) ∧ Below w.heap.size w w' := by
 obtain ⟨w1, hw1⟩ : ∃ x, w.alloc (.cells #[.pointer (some ⟨sb, 0, none⟩), .int .i32 (t : Int), .int .i64 (L : Int), .int .i64 fr, .int .i64 fd] 72) = x := ⟨_, rfl⟩
 have HW1 := hide' hw1
 have B1 := hide' (show Below w.heap.size w w1 by rw [← hw1]; exact (Below.refl _ _).alloc (Nat.le_refl _) _)
 have F1 := hide' (show w1.heap[w.heap.size]? = some (.cells #[.pointer (some ⟨sb, 0, none⟩), .int .i32 (t : Int), .int .i64 (L : Int), .int .i64 fr, .int .i64 fd] 72 (0, 0)) by rw [← hw1]; exact heap_alloc_new _ _)
 have c2 := cell_of_row w1 _ 2 _ _ _ F1.out
 have c3 := cell_of_row w1 _ 3 _ _ _ F1.out
 have c4 := cell_of_row w1 _ 4 _ _ _ F1.out
 simp at c2 c3 c4
 have a1 : ¬ (58 < (L : Int)) := by omega
 have a2 : ¬ (fr < -288230376151711744) := by omega
 have a3 : ¬ (288230376151711744 < fr) := by omega
 have a4 : ¬ (fd < -288230376151711744) := by omega
 have a5 : ¬ (288230376151711744 < fd) := by omega
 clear hw1 hL hr hd
 go_enter Tryz.func27, Tryz.ntmps27
 go_upto_region 1 with fail
 rw [HW1.out]
 go_wp2
 go_ret
 exact ⟨rfl, B1.out⟩
theorem FldA.weakF {w : World} {B B' sb t L : Nat} {fr fd M : Int} {F : Int → Int → Int} {n g cap : Nat} {qs : List Sq} {mp : Option (Nat × Nat)} (h : FldA w B sb t L fr fd M F n g cap qs mp) (hb : B' ≤ B) : FldA w B' sb t L fr fd M F n g cap qs mp := ⟨h.stk.weakB hb, h.wf, h.lev, h.one, h.hi, h.r1, h.r2, h.d1, h.d2, h.val⟩
theorem FldA.keepF {w w' : World} {B sb t L : Nat} {fr fd M : Int} {F : Int → Int → Int} {n g cap : Nat} {qs : List Sq} {mp : Option (Nat × Nat)} (h : FldA w B sb t L fr fd M F n g cap qs mp) (hs : StkA w' sb B g cap qs mp) : FldA w' B sb t L fr fd M F n g cap qs mp := ⟨hs, h.wf, h.lev, h.one, h.hi, h.r1, h.r2, h.d1, h.d2, h.val⟩
theorem sp_ne {w : World} {nb spb : Nat} {cs : Array Value} {b s o : Int} {tv pt : Value} {t L fr fd kp : Int} (h1 : w.heap[nb]? = some (.cells cs 72 (0, 0))) (h2 : w.heap[spb]? = some (spD b s o tv pt t L fr fd kp)) : spb ≠ nb := fun q => by
 rw [q, h1] at h2
 unfold spD at h2
 injection h2 with h2
 injection h2 with _ h2
 exact absurd h2 (by decide)
def LeR (M : Int) (F : Int → Int → Int) (w : World) (po : Option Addr) (x1 x2 x3 x4 : Int) (ok : Bool) (w' : World) : Prop :=
 ok = false ∨ (ok = true ∧ ∃ (sb t L n g cap : Nat) (qs : List Sq) (p : Nat × Nat), po = some ⟨sb, 0, none⟩ ∧ x1 = (t : Int) ∧ x2 = (L : Int) ∧ FldA w' w.heap.size sb t L x3 x4 M F n g cap qs (some p) ∧ qs.length ≤ 1000000)
theorem LeR.move {M : Int} {F : Int → Int → Int} {w : World} {po : Option Addr} {x1 x2 x3 x4 : Int} {ok : Bool} {w' w'' : World} (h : LeR M F w po x1 x2 x3 x4 ok w') (k : ∀ (sb g cap : Nat) (qs : List Sq) (p : Nat × Nat), StkA w' sb w.heap.size g cap qs (some p) → StkA w'' sb w.heap.size g cap qs (some p)) : LeR M F w po x1 x2 x3 x4 ok w'' := by
 rcases h with h | ⟨h1, sb, t, L, n, g, cap, qs, p, h2, h3, h4, h5, h6⟩
 ·exact Or.inl h
 ·exact Or.inr ⟨h1, sb, t, L, n, g, cap, qs, p, h2, h3, h4, h5.keepF (k _ _ _ _ _ h5.stk), h6⟩
theorem LeP.one {M : Int} {F : Int → Int → Int} {w : World} {e : Ending} {w' : World} (h : LeP M F w e w') : ∃ po x1 x2 x3 x4 ok, e = .returned (.tuple #[.agg #[.pointer po, .int .i32 x1, .int .i64 x2, .int .i64 x3, .int .i64 x4], .bool ok]) ∧ Below w.heap.size w w' ∧ LeR M F w po x1 x2 x3 x4 ok w' := by
 obtain ⟨b, h | ⟨sb, t, L, fr, fd, n, g, cap, qs, p, h1, h2, h3⟩⟩ := h
 ·exact ⟨none, 0, 0, 0, 0, false, h, b, Or.inl rfl⟩
 ·exact ⟨_, _, _, _, _, true, h1, b, Or.inr ⟨rfl, sb, t, L, n, g, cap, qs, p, rfl, rfl, rfl, h2, h3⟩⟩
def JuP (spb B born stay : Nat) (M : Int) (F : Int → Int → Int) (K : Nat) (w : World) (e : Ending) (w' : World) : Prop := e = .returned .nilIface ∧ (∃ o tv, SpB w' spb B (born : Int) (stay : Int) o tv M F K) ∧ Below B w w'
theorem stF_dead {born stay : Nat} (hb : born % 2 = 0) {F : Int → Int → Int} (h : ∀ u v, F u v = 0) (k : Nat) : stF born stay k F = F := by
 funext u v
 rw [stF_none hb (fun a b _ _ _ _ => h a b), h]
set_option maxRecDepth 100000 in
set_option maxHeartbeats 12800000 in
theorem jump_any (spb B born stay : Nat) (tv : Value) (M : Int) (F : Int → Int → Int) (K k : Nat) (l r v d : Int) (w : World) (hS : SpB w spb B (born : Int) (stay : Int) 0 tv M F K) (hb : born % 2 = 0) (hb1 : born ≤ 511) (hs1 : stay ≤ 511) (hK : K ≤ 100000) (hk : k ≤ 12) (hF : InBx F l r v d) (hlr : l ≤ r ∧ v ≤ d) (hW : r - l + 8192 ≤ 8300 ∧ d - v + 8192 ≤ 8300) (hM : 16 ≤ M ∧ M ≤ 18014398509481984) :
  Calls Tryz.prog 11 #[.pointer (some ⟨spb, 0, none⟩), .int .i64 (k : Int)] w (JuP spb B born stay (M + 70368811286528) (stF born stay (2 ^ k) F) 1600000 w) := by
 obtain ⟨hB, sb, t, L, fr, fd, n, g, cap, qs, kp, hs, hf, tg, hl, hkp⟩ := hS
 have HK := hide' (And.intro hk (And.intro hF (And.intro hlr (And.intro hW hM))))
 have n12 : n ≤ 12 := tg.low hF (by omega) (by omega)
 have k1 : ¬ ((k : Int) < 0) := by omega
 have k2 : ¬ (40 < (k : Int)) := by omega
 have k3 : (k : Int) ≤ 12 := by omega
 have hs' := hs
 unfold spD at hs'
 by_cases t0 : t = 0
 ·subst t0
  have z : ∀ u v, F u v = 0 := fun u v => by rw [← hf.val]; exact val_nil hf.stk.st _ _ _
  have FIN := hide' (show JuP spb B born stay (M + 70368811286528) (stF born stay (2 ^ k) F) 1600000 w (.returned .nilIface) w from by
   rw [stF_dead hb z]
   exact ⟨rfl, ⟨0, tv, hB, sb, 0, L, fr, fd, n, g, cap, qs, kp, hs, hf.mono (by omega), tg, by omega, by omega⟩, Below.refl _ _⟩)
  have c12 := cell_of_row w spb 12 _ _ _ hs'
  simp at c12
  clear hs hs' hf tg hl hkp hF hlr hW hM z HK
  go_enter Tryz.func11, Tryz.ntmps11
  go_wp2
  go_ret
  exact FIN.out
 ·have z0 : ((t : Int) == 0) = false := by simp; omega
  have sl := sideI_mono (a := n) (b := 12) n12
  rw [show sideI 12 = 32768 by decide] at sl
  have TW := hide' (tooWide_no sb t L fr fd w (by have := hf.lev; omega) (by have := hf.r1; have := hf.r2; have := sideI_pos n; omega) (by have := hf.d1; have := hf.d2; have := sideI_pos n; omega))
  have DO := hide' (fun (V : World) (b : Below w.heap.size w V) => do_anyO spb born stay (.pointer (some ⟨sb, 0, none⟩)) (t : Int) (L : Int) fr fd (kp : Int) tv V ((b.block spb (lt_of_block hs)).trans hs') hb1 hs1)
  have c12 := cell_of_row w spb 12 _ _ _ hs'
  have c11 := cell_of_row w spb 11 _ _ _ hs'
  have c13 := cell_of_row w spb 13 _ _ _ hs'
  have c14 := cell_of_row w spb 14 _ _ _ hs'
  have c15 := cell_of_row w spb 15 _ _ _ hs'
  simp at c11 c12 c13 c14 c15
  have HF := hide' (And.intro hf (And.intro tg (And.intro hl (And.intro n12 (And.intro hB hK)))))
  have HS := hide' hs
  have HSL := hide' (And.intro (lt_of_block hs) (hf.stk.ne_four hs' (by decide) (by decide)))
  clear hs hs' hf tg hl hkp hF hlr hW hM hb1 hs1 n12 sl t0 hB hK
  go_enter Tryz.func11, Tryz.ntmps11
  go_wp2_with fail
  refine TW.out.mono ?_
  rintro o w2 ⟨rfl, b2⟩
  have B2 := hide' b2
  clear b2 c11 c12 c13 c14 c15
  go_wp2_with fail
  refine (DO.out w2 B2.out).mono ?_
  rintro o w3 ⟨rfl, tb, s3, t3, ge3, lt3, e3, o3⟩
  have S3 := hide' s3
  have T3 := hide' t3
  have G3 := hide' (And.intro ge3 (And.intro lt3 (And.intro e3 o3)))
  have F3 := hide' (show FldA w3 B sb t L fr fd M F n g cap qs from by
   have a := HF.out.1.stk.below B2.out
   exact HF.out.1.keepF (a.keep (o3 _ (a.lt.1) (fun q => HSL.out.2.1 q.symm)) (o3 _ (a.lt.2) (fun q => HSL.out.2.2 q.symm))))
  have BE3 := hide' (show Below B w w3 from (B2.out.mono (by have := HSL.out.1; have := HF.out.2.2.2.2.1; omega)).trans ⟨e3.1, e3.2.1, e3.2.2.1, e3.2.2.2, fun q hq => o3 q (by have := B2.out.size; have := HSL.out.1; have := HF.out.2.2.2.2.1; omega) (by have := HF.out.2.2.2.2.1; omega)⟩)
  have TBN := hide' (show tb ≠ sb ∧ tb ≠ g by have := HF.out.1.stk.lt; have := B2.out.size; omega)
  clear s3 t3 ge3 lt3 e3 o3
  have SC := hide' (fun (V : World) (e : V.heap[spb]? = w3.heap[spb]?) => show V.cell? ⟨spb, 10, none⟩ = some (.pointer (some ⟨tb, 0, none⟩)) ∧ V.cell? ⟨spb, 11, none⟩ = some (.pointer (some ⟨sb, 0, none⟩)) ∧ V.cell? ⟨spb, 12, none⟩ = some (.int .i32 (t : Int)) ∧ V.cell? ⟨spb, 13, none⟩ = some (.int .i64 (L : Int)) ∧ V.cell? ⟨spb, 14, none⟩ = some (.int .i64 fr) ∧ V.cell? ⟨spb, 15, none⟩ = some (.int .i64 fd) from by
   have q := e.trans S3.out
   refine ⟨?_, ?_, ?_, ?_, ?_, ?_⟩
   all_goals (rw [cell_of_row V spb _ _ _ _ q]; rfl))
  have LE := hide' (fun (V : World) (b : Below w3.heap.size w3 V) => leap_any hb (table_is born stay) (tb_nil hb) B sb t L fr fd M F n g cap qs tb k 1000000 V (F3.out.keepF (F3.out.stk.below b)) (by have := HF.out.2.2.2.1; omega) (by have := HF.out.2.2.1; have := HF.out.2.2.2.2.2; omega) (T3.out.keepB b G3.out.2.1) (Nat.lt_of_lt_of_le G3.out.2.1 b.size) (by have := HK.out.1; omega) (by omega) (by have := HK.out.2.2.2.2; omega))
  have LB := hide' (fun (V : World) (b : Below w3.heap.size w3 V) => b.block spb (lt_of_block S3.out))
  have BD := hide' (show Below w3.heap.size w3 w3.drew from (Below.refl _ _).drew)
  have BR := hide' (show Below w3.heap.size w3 w3 from Below.refl _ _)
  have BA := hide' (show Below w3.heap.size w3 (w3.alloc (.cells #[.pointer none, .int .i32 0, .int .i64 0, .int .i64 0, .int .i64 0] 72)).drew from ((Below.refl _ _).alloc (Nat.le_refl _) _).drew)
  go_upto_region 8 with fail
  refine cutJ (P := fun nb po x1 x2 x3 x4 ok V => Hid (Below w3.heap.size w3 V ∧ w3.heap.size ≤ nb ∧ V.heap[nb]? = some (.cells #[.pointer po, .int .i32 x1, .int .i64 x2, .int .i64 x3, .int .i64 x4] 72 (0, 0)) ∧ LeR (M + 70368744177664) (stF born stay (2 ^ k) F) w3 po x1 x2 x3 x4 ok V)) (Φ := ?PH) (fun CUT => ?mn) ?rs
  case mn =>
   go_region_held3 (fun V => V.cell? ⟨spb, 10, none⟩ = some (.pointer (some ⟨tb, 0, none⟩)) ∧ V.cell? ⟨spb, 11, none⟩ = some (.pointer (some ⟨sb, 0, none⟩)) ∧ V.cell? ⟨spb, 12, none⟩ = some (.int .i32 (t : Int)) ∧ V.cell? ⟨spb, 13, none⟩ = some (.int .i64 (L : Int)) ∧ V.cell? ⟨spb, 14, none⟩ = some (.int .i64 fr) ∧ V.cell? ⟨spb, 15, none⟩ = some (.int .i64 fd)) (first | with_reducible exact SC.out _ (LB.out _ BN.out) | with_reducible exact SC.out _ (LB.out _ BD.out) | with_reducible exact SC.out _ (LB.out _ BR.out) | with_reducible exact SC.out _ (LB.out _ BA.out) | with_reducible exact SC.out _ (LB.out _ (BN.out.alloc BN.out.size _)) | with_reducible exact SC.out _ (LB.out _ (five_belowH BN.out (Nat.le_refl _) _ _ _ _ _)) | go_keep) (first
    | (go_at_call 30; refine (LE.out w3.drew BD.out).mono ?_; intro o w7 h7; obtain ⟨po, x1, x2, x3, x4, ok, rfl, b7, r7⟩ := h7.one; have BN := hide' (show Below w3.heap.size w3 w7 from BD.out.trans b7); have RN := hide' (show LeR (M + 70368744177664) (stF born stay (2 ^ k) F) w3 po x1 x2 x3 x4 ok w7 from r7); clear b7 r7 h7)
    | (go_at_call 30; refine (LE.out (w3.alloc (.cells #[.pointer none, .int .i32 0, .int .i64 0, .int .i64 0, .int .i64 0] 72)).drew BA.out).mono ?_; intro o w7 h7; obtain ⟨po, x1, x2, x3, x4, ok, rfl, b7, r7⟩ := h7.one; have BN := hide' (show Below w3.heap.size w3 w7 from BA.out.trans (b7.mono BA.out.size)); have WZ := hide' (show w7.heap[w3.heap.size]? = some (.cells #[.pointer none, .int .i32 0, .int .i64 0, .int .i64 0, .int .i64 0] 72 (0, 0)) from (b7.block w3.heap.size (by show w3.heap.size < (w3.alloc _).heap.size; simp)).trans (heap_alloc_new w3 _)); have RN := hide' (show LeR (M + 70368744177664) (stF born stay (2 ^ k) F) w3 po x1 x2 x3 x4 ok w7 from by
      rcases r7 with r7 | ⟨r1, sb', t', L', n', g', cap', qs', p', r2, r3, r4, r5, r6⟩
      ·exact Or.inl r7
      ·exact Or.inr ⟨r1, sb', t', L', n', g', cap', qs', p', r2, r3, r4, r5.weakF (by show w3.heap.size ≤ (w3.alloc _).heap.size; simp), r6⟩); have u0 := cell_of_row w7 w3.heap.size 0 _ _ _ WZ.out; have u1 := cell_of_row w7 w3.heap.size 1 _ _ _ WZ.out; have u2 := cell_of_row w7 w3.heap.size 2 _ _ _ WZ.out; have u3 := cell_of_row w7 w3.heap.size 3 _ _ _ WZ.out; have u4 := cell_of_row w7 w3.heap.size 4 _ _ _ WZ.out; have v0 := frozen_of_row w7 w3.heap.size 0 _ _ WZ.out; have v1 := frozen_of_row w7 w3.heap.size 1 _ _ WZ.out; have v2 := frozen_of_row w7 w3.heap.size 2 _ _ WZ.out; have v3 := frozen_of_row w7 w3.heap.size 3 _ _ WZ.out; have v4 := frozen_of_row w7 w3.heap.size 4 _ _ WZ.out; simp at u0 u1 u2 u3 u4; clear b7 r7 h7)
    | fail)
   ·obtain ⟨V, hV⟩ : ∃ V, w7.alloc (.cells #[.pointer po, .int .i32 x1, .int .i64 x2, .int .i64 x3, .int .i64 x4] 72) = V := ⟨_, rfl⟩
    rw [hV]
    obtain ⟨nb, hnb⟩ : ∃ q, w7.heap.size = q := ⟨_, rfl⟩
    rw [hnb]
    have T8 := hide' (show Below w3.heap.size w3 V ∧ w3.heap.size ≤ nb ∧ V.heap[nb]? = some (.cells #[.pointer po, .int .i32 x1, .int .i64 x2, .int .i64 x3, .int .i64 x4] 72 (0, 0)) ∧ LeR (M + 70368744177664) (stF born stay (2 ^ k) F) w3 po x1 x2 x3 x4 ok V from by
     rw [← hV, ← hnb]
     exact ⟨BN.out.alloc BN.out.size _, BN.out.size, heap_alloc_new _ _, RN.out.move fun _ _ _ _ _ q => q.alloc _⟩)
    exact CUT _ _ _ _ _ _ _ _ T8
   ·obtain ⟨nb, hnb⟩ : ∃ q, w3.heap.size = q := ⟨_, rfl⟩
    rw [hnb]
    obtain ⟨V, hV⟩ : ∃ V, ((((w7.setCell ⟨nb, 0, none⟩ (.pointer po)).setCell ⟨nb, 1, none⟩ (.int .i32 x1)).setCell ⟨nb, 2, none⟩ (.int .i64 x2)).setCell ⟨nb, 3, none⟩ (.int .i64 x3)).setCell ⟨nb, 4, none⟩ (.int .i64 x4) = V := ⟨_, rfl⟩
    rw [hV]
    have T8 := hide' (show Below w3.heap.size w3 V ∧ w3.heap.size ≤ nb ∧ V.heap[nb]? = some (.cells #[.pointer po, .int .i32 x1, .int .i64 x2, .int .i64 x3, .int .i64 x4] 72 (0, 0)) ∧ LeR (M + 70368744177664) (stF born stay (2 ^ k) F) w3 po x1 x2 x3 x4 ok V from by
     rw [← hV, ← hnb]
     refine ⟨five_belowH BN.out (Nat.le_refl _) _ _ _ _ _, Nat.le_refl _, five_stored WZ.out _ _ _ _ _, RN.out.move fun sb' g' cap' qs' p' q => ?_⟩
     have a := q.ne_four WZ.out (by decide) (by decide)
     exact q.keepM (five_else (fun e => a.1 e.symm) _ _ _ _ _) (five_else (fun e => a.2 e.symm) _ _ _ _ _) (fun z e => five_else (fun y => q.nomap WZ.out (by rw [← y]; exact e)) _ _ _ _ _))
    exact CUT _ _ _ _ _ _ _ _ T8
  case rs =>
   intro nb po x1 x2 x3 x4 ok V T9
   obtain ⟨bV, hnb, hV, hr⟩ := T9.out
   have BV := hide' bV
   have NB := hide' hnb
   have HV := hide' hV
   have SV := hide' (show V.heap[spb]? = some (spD (born : Int) (stay : Int) 1 (.pointer (some ⟨tb, 0, none⟩)) (.pointer (some ⟨sb, 0, none⟩)) (t : Int) (L : Int) fr fd (kp : Int)) from (LB.out V bV).trans S3.out)
   have BBV := hide' (show Below B w V from BE3.out.trans (bV.mono (by have := BE3.out.size; have := HSL.out.1; have := HF.out.2.2.2.2.1; omega)))
   have KEEP := hide' (fun (X : World) (mp : Option (Nat × Nat)) (sb' t' L' : Nat) (fr' fd' M' : Int) (n' g' cap' : Nat) (qs' : List Sq) (hX : X.heap[spb]? = some (spD (born : Int) (stay : Int) 1 (.pointer (some ⟨tb, 0, none⟩)) (.pointer (some ⟨sb, 0, none⟩)) (t : Int) (L : Int) fr fd (kp : Int))) (hfX : FldA X B sb' t' L' fr' fd' M' (stF born stay (2 ^ k) F) n' g' cap' qs' mp) (hm1 : 16 ≤ M') (hm2 : M' ≤ 144115188075855872) (hq : qs'.length + n' ≤ 1599999) => keep_new mp spb B sb' t' L' (born : Int) (stay : Int) 1 (.pointer (some ⟨tb, 0, none⟩)) (.pointer (some ⟨sb, 0, none⟩)) (t : Int) (L : Int) fr fd (kp : Int) fr' fd' M' (stF born stay (2 ^ k) F) n' g' cap' qs' X hX hfX hm1 hm2 HF.out.2.2.2.2.1 (by omega) 1600000 (by omega))
   have u0 := cell_of_row V nb 0 _ _ _ hV
   have u1 := cell_of_row V nb 1 _ _ _ hV
   have u2 := cell_of_row V nb 2 _ _ _ hV
   have u3 := cell_of_row V nb 3 _ _ _ hV
   have u4 := cell_of_row V nb 4 _ _ _ hV
   simp at u0 u1 u2 u3 u4
   have HR := hide' hr
   clear bV hnb hV hr T9
   cases ok with
   | true =>
    have hr := HR.out
    rcases hr with hr | ⟨-, sb', t', L', n', g', cap', qs', p', rfl, rfl, rfl, h5, h6⟩
    ·cases hr
    have KC := hide' (KEEP.out V (some p') sb' t' L' x3 x4 (M + 70368744177664) n' g' cap' qs' SV.out (h5.weakF (by have := BE3.out.size; have := HSL.out.1; have := HF.out.2.2.2.2.1; omega)) (by have := HK.out.2.2.2.2; omega) (by have := HK.out.2.2.2.2; omega) (by have := h5.hi; omega))
    clear h5 h6
    go_wp2_with fail
    refine KC.out.mono ?_
    rintro o w9 ⟨rfl, hsp, bb⟩
    have FIN := hide' (show JuP spb B born stay (M + 70368811286528) (stF born stay (2 ^ k) F) 1600000 w (.returned .nilIface) w9 from by
     obtain ⟨a0, sb9, t9, L9, fr9, fd9, n9, g9, cap9, qs9, kp9, a1, a2, a3, a4, a5⟩ := hsp
     exact ⟨rfl, ⟨1, _, a0, sb9, t9, L9, fr9, fd9, n9, g9, cap9, qs9, kp9, a1, a2.mono (by omega), a3, a4, a5⟩, BBV.out.trans bb⟩)
    clear hsp bb
    go_wp2
    go_ret
    exact FIN.out
   | false =>
    have WK := hide' (fun (X : World) (b : Below V.heap.size V X) => walk_any hb (table_is born stay) (tb_nil hb) B sb t L fr fd M F n g cap qs tb k 40000000 l r v d X (F3.out.keepF ((F3.out.stk.below BV.out).below b)) HF.out.2.1 (by have := HF.out.2.2.1; have := HF.out.2.2.2.2.2; omega) ((T3.out.keepB BV.out G3.out.2.1).keepB b (Nat.lt_of_lt_of_le G3.out.2.1 BV.out.size)) ⟨Nat.lt_of_lt_of_le G3.out.2.1 (Nat.le_trans BV.out.size b.size), TBN.out.1, TBN.out.2⟩ HK.out.1 (by omega) HK.out.2.1 HK.out.2.2.1 HK.out.2.2.2.1 (by have := HK.out.2.2.2.2; omega) (Nat.le_trans (Nat.le_trans (by have := HSL.out.1; have := HF.out.2.2.2.2.1; omega : B ≤ w.heap.size) BBV.out.size) b.size))
    have BVD := hide' (show Below V.heap.size V V.drew from (Below.refl _ _).drew)
    have BVR := hide' (show Below V.heap.size V V from Below.refl _ _)
    have LV := hide' (fun (X : World) (b : Below V.heap.size V X) => (b.block spb (lt_of_block SV.out)).trans (LB.out V BV.out))
    have NV := hide' (show (nb ≠ sb ∧ nb ≠ g) ∧ (spb ≠ sb ∧ spb ≠ g) from by
     have a := (F3.out.stk.below BV.out)
     exact ⟨a.ne_four HV.out (by decide) (by decide), a.ne_four SV.out (by decide) (by decide)⟩)
    clear u0 u1 u2 u3 u4 HR
    go_upto_region 10 with fail
    go_region_held3 (fun V => V.cell? ⟨spb, 10, none⟩ = some (.pointer (some ⟨tb, 0, none⟩)) ∧ V.cell? ⟨spb, 11, none⟩ = some (.pointer (some ⟨sb, 0, none⟩)) ∧ V.cell? ⟨spb, 12, none⟩ = some (.int .i32 (t : Int)) ∧ V.cell? ⟨spb, 13, none⟩ = some (.int .i64 (L : Int)) ∧ V.cell? ⟨spb, 14, none⟩ = some (.int .i64 fr) ∧ V.cell? ⟨spb, 15, none⟩ = some (.int .i64 fd)) (first | with_reducible exact SG.out | with_reducible exact SC.out _ (LV.out _ BVD.out) | with_reducible exact SC.out _ (LV.out _ BVR.out) | with_reducible exact SX.out | go_keep) (first
     | (go_at_call 31; refine (WK.out V.drew BVD.out).mono ?_; rintro o w8 ⟨sb', t', L', fr', fd', n', g', cap', qs', rfl, h1, h2, h3, h4, h5, h6⟩; have N8 := hide' (show w8.heap[nb]? = _ from (h4.keep nb (lt_of_block HV.out) NV.out.1.1 NV.out.1.2).trans HV.out); have S8 := hide' (show w8.heap[spb]? = V.heap[spb]? from h4.keep spb (lt_of_block SV.out) NV.out.2.1 NV.out.2.2); have H8 := hide' (And.intro h1 (And.intro h2 (And.intro h3 (And.intro h4 (And.intro h5 h6))))); have SG := hide' (SC.out w8 (S8.out.trans (LB.out V BV.out))); have SX := hide' (SC.out (((((w8.setCell ⟨nb, 0, none⟩ (.pointer (some ⟨sb', 0, none⟩))).setCell ⟨nb, 1, none⟩ (.int .i32 (t' : Int))).setCell ⟨nb, 2, none⟩ (.int .i64 (L' : Int))).setCell ⟨nb, 3, none⟩ (.int .i64 fr')).setCell ⟨nb, 4, none⟩ (.int .i64 fd')) ((five_else (sp_ne N8.out (S8.out.trans SV.out)) _ _ _ _ _).trans (S8.out.trans (LB.out V BV.out)))); have u0 := cell_of_row w8 nb 0 _ _ _ N8.out; have u1 := cell_of_row w8 nb 1 _ _ _ N8.out; have u2 := cell_of_row w8 nb 2 _ _ _ N8.out; have u3 := cell_of_row w8 nb 3 _ _ _ N8.out; have u4 := cell_of_row w8 nb 4 _ _ _ N8.out; have v0 := frozen_of_row w8 nb 0 _ _ N8.out; have v1 := frozen_of_row w8 nb 1 _ _ N8.out; have v2 := frozen_of_row w8 nb 2 _ _ N8.out; have v3 := frozen_of_row w8 nb 3 _ _ N8.out; have v4 := frozen_of_row w8 nb 4 _ _ N8.out; simp at u0 u1 u2 u3 u4; clear h1 h2 h3 h4 h5 h6)
     | fail)
    clear u0 u1 u2 u3 u4 v0 v1 v2 v3 v4
    obtain ⟨X, hX⟩ : ∃ X, ((((w8.setCell ⟨nb, 0, none⟩ (.pointer (some ⟨sb', 0, none⟩))).setCell ⟨nb, 1, none⟩ (.int .i32 (t' : Int))).setCell ⟨nb, 2, none⟩ (.int .i64 (L' : Int))).setCell ⟨nb, 3, none⟩ (.int .i64 fr')).setCell ⟨nb, 4, none⟩ (.int .i64 fd') = X := ⟨_, rfl⟩
    rw [hX]
    have nsb : spb ≠ nb := sp_ne N8.out (S8.out.trans SV.out)
    have GX := hide' (show X.heap[nb]? = some (.cells #[.pointer (some ⟨sb', 0, none⟩), .int .i32 (t' : Int), .int .i64 (L' : Int), .int .i64 fr', .int .i64 fd'] 72 (0, 0)) by rw [← hX]; exact five_stored N8.out _ _ _ _ _)
    have SXX := hide' (show X.heap[spb]? = some (spD (born : Int) (stay : Int) 1 (.pointer (some ⟨tb, 0, none⟩)) (.pointer (some ⟨sb, 0, none⟩)) (t : Int) (L : Int) fr fd (kp : Int)) by rw [← hX]; exact (five_else nsb _ _ _ _ _).trans (S8.out.trans SV.out))
    have h8 := H8.out
    have FX := hide' (show FldA X B sb' t' L' fr' fd' (M + 67108864) (stF born stay (2 ^ k) F) n' g' cap' qs' from by
     have a := h8.1.stk.ne_four N8.out (by decide) (by decide)
     rw [← hX]
     exact h8.1.keepF (h8.1.stk.keep (five_else (fun e => a.1 e.symm) _ _ _ _ _) (five_else (fun e => a.2 e.symm) _ _ _ _ _)))
    have BX := hide' (show Below B w X from by
     have k := h8.2.2.2.1
     have hB := HF.out.2.2.2.2.1
     have hlt := HSL.out.1
     have f3 := F3.out.stk
     have l1 := f3.le
     have l2 := f3.rowB.1
     have sz := And.intro BBV.out.size (And.intro BV.out.size (And.intro NB.out BE3.out.size))
     rw [← hX]
     refine five_belowH (BBV.out.trans ⟨k.os, k.tape, k.output, k.size, fun q hq => k.keep q ?_ ?_ ?_⟩) ?_ _ _ _ _ _
     ·show q < V.heap.size; omega
     ·omega
     ·omega
     ·omega)
    have KC := hide' (KEEP.out X none sb' t' L' fr' fd' (M + 67108864) n' g' cap' qs' SXX.out FX.out (by have := HK.out.2.2.2.2; omega) (by have := HK.out.2.2.2.2; omega) (by have := FX.out.hi; have := h8.2.2.1; omega))
    have u0 := cell_of_row X nb 0 _ _ _ GX.out
    have u1 := cell_of_row X nb 1 _ _ _ GX.out
    have u2 := cell_of_row X nb 2 _ _ _ GX.out
    have u3 := cell_of_row X nb 3 _ _ _ GX.out
    have u4 := cell_of_row X nb 4 _ _ _ GX.out
    simp at u0 u1 u2 u3 u4
    clear hX h8 nsb
    go_wp2_with fail
    refine KC.out.mono ?_
    rintro o w9 ⟨rfl, hsp, bb⟩
    have FIN := hide' (show JuP spb B born stay (M + 70368811286528) (stF born stay (2 ^ k) F) 1600000 w (.returned .nilIface) w9 from by
     obtain ⟨a0, sb9, t9, L9, fr9, fd9, n9, g9, cap9, qs9, kp9, a1, a2, a3, a4, a5⟩ := hsp
     exact ⟨rfl, ⟨1, _, a0, sb9, t9, L9, fr9, fd9, n9, g9, cap9, qs9, kp9, a1, a2.mono (by omega), a3, a4, a5⟩, BX.out.trans bb⟩)
    clear hsp bb
    go_wp2
    go_ret
    exact FIN.out
theorem LeO.oneO {on : Prop} {M : Int} {F : Int → Int → Int} {w : World} {e : Ending} {w' : World} (h : LeO on M F w e w') (ho : on) : ∃ po x1 x2 x3 x4 ok, e = .returned (.tuple #[.agg #[.pointer po, .int .i32 x1, .int .i64 x2, .int .i64 x3, .int .i64 x4], .bool ok]) ∧ Below w.heap.size w w' ∧ LeR M F w po x1 x2 x3 x4 ok w' ∧ ok = true := by
 obtain ⟨⟨b, h1 | ⟨sb, t, L, fr, fd, n, g, cap, qs, p, h1, h2, h3⟩⟩, h4⟩ := h
 ·exact absurd h1 (h4 ho)
 ·exact ⟨_, _, _, _, _, true, h1, b, Or.inr ⟨rfl, sb, t, L, n, g, cap, qs, p, rfl, rfl, rfl, h2, h3⟩, rfl⟩
set_option maxRecDepth 100000 in
set_option maxHeartbeats 12800000 in
theorem jump_far (P : Nat) (R D : Int) (spb B born stay : Nat) (tv : Value) (M : Int) (F : Int → Int → Int) (K k : Nat) (l r v d : Int) (w : World) (hS : SpB w spb B (born : Int) (stay : Int) 0 tv M F K) (hb : born % 2 = 0) (hb1 : born ≤ 511) (hs1 : stay ≤ 511) (hK : K ≤ 100000) (hk : 13 ≤ k ∧ k ≤ 40) (hF : InBx F l r v d) (hlr : l ≤ r ∧ v ≤ d) (hW : r - l ≤ 100 ∧ d - v ≤ 100) (hM : 16 ≤ M ∧ M ≤ 18014398509481984) (hper : PrF born stay F P R D) :
  Calls Tryz.prog 11 #[.pointer (some ⟨spb, 0, none⟩), .int .i64 (k : Int)] w (JuP spb B born stay (M + 70368811286528) (stF born stay (2 ^ k) F) 1600000 w) := by
 obtain ⟨hB, sb, t, L, fr, fd, n, g, cap, qs, kp, hs, hf, tg, hl, hkp⟩ := hS
 have HK := hide' (And.intro hk (And.intro hF (And.intro hlr (And.intro hW hM))))
 have n12 : n ≤ 5 := tg.below (m := 4) hF (by rw [show sideI 4 = 128 by decide]; omega) (by rw [show sideI 4 = 128 by decide]; omega)
 have PER := hide' hper
 clear hper
 have k1 : ¬ ((k : Int) < 0) := by omega
 have k2 : ¬ (40 < (k : Int)) := by omega
 have k3 : ¬ (k : Int) ≤ 12 := by omega
 have hs' := hs
 unfold spD at hs'
 by_cases t0 : t = 0
 ·subst t0
  have z : ∀ u v, F u v = 0 := fun u v => by rw [← hf.val]; exact val_nil hf.stk.st _ _ _
  have FIN := hide' (show JuP spb B born stay (M + 70368811286528) (stF born stay (2 ^ k) F) 1600000 w (.returned .nilIface) w from by
   rw [stF_dead hb z]
   exact ⟨rfl, ⟨0, tv, hB, sb, 0, L, fr, fd, n, g, cap, qs, kp, hs, hf.mono (by omega), tg, by omega, by omega⟩, Below.refl _ _⟩)
  have c12 := cell_of_row w spb 12 _ _ _ hs'
  simp at c12
  clear hs hs' hf tg hl hkp hF hlr hW hM z HK
  go_enter Tryz.func11, Tryz.ntmps11
  go_wp2
  go_ret
  exact FIN.out
 ·have z0 : ((t : Int) == 0) = false := by simp; omega
  have sl := sideI_mono (a := n) (b := 5) n12
  rw [show sideI 5 = 256 by decide] at sl
  have TW := hide' (tooWide_no sb t L fr fd w (by have := hf.lev; omega) (by have := hf.r1; have := hf.r2; have := sideI_pos n; omega) (by have := hf.d1; have := hf.d2; have := sideI_pos n; omega))
  have DO := hide' (fun (V : World) (b : Below w.heap.size w V) => do_anyO spb born stay (.pointer (some ⟨sb, 0, none⟩)) (t : Int) (L : Int) fr fd (kp : Int) tv V ((b.block spb (lt_of_block hs)).trans hs') hb1 hs1)
  have c12 := cell_of_row w spb 12 _ _ _ hs'
  have c11 := cell_of_row w spb 11 _ _ _ hs'
  have c13 := cell_of_row w spb 13 _ _ _ hs'
  have c14 := cell_of_row w spb 14 _ _ _ hs'
  have c15 := cell_of_row w spb 15 _ _ _ hs'
  simp at c11 c12 c13 c14 c15
  have HF := hide' (And.intro hf (And.intro tg (And.intro hl (And.intro n12 (And.intro hB hK)))))
  have HS := hide' hs
  have HSL := hide' (And.intro (lt_of_block hs) (hf.stk.ne_four hs' (by decide) (by decide)))
  clear hs hs' hf tg hl hkp hF hlr hW hM hb1 hs1 n12 sl t0 hB hK
  go_enter Tryz.func11, Tryz.ntmps11
  go_wp2_with fail
  refine TW.out.mono ?_
  rintro o w2 ⟨rfl, b2⟩
  have B2 := hide' b2
  clear b2 c11 c12 c13 c14 c15
  go_wp2_with fail
  refine (DO.out w2 B2.out).mono ?_
  rintro o w3 ⟨rfl, tb, s3, t3, ge3, lt3, e3, o3⟩
  have S3 := hide' s3
  have T3 := hide' t3
  have G3 := hide' (And.intro ge3 (And.intro lt3 (And.intro e3 o3)))
  have F3 := hide' (show FldA w3 B sb t L fr fd M F n g cap qs from by
   have a := HF.out.1.stk.below B2.out
   exact HF.out.1.keepF (a.keep (o3 _ (a.lt.1) (fun q => HSL.out.2.1 q.symm)) (o3 _ (a.lt.2) (fun q => HSL.out.2.2 q.symm))))
  have BE3 := hide' (show Below B w w3 from (B2.out.mono (by have := HSL.out.1; have := HF.out.2.2.2.2.1; omega)).trans ⟨e3.1, e3.2.1, e3.2.2.1, e3.2.2.2, fun q hq => o3 q (by have := B2.out.size; have := HSL.out.1; have := HF.out.2.2.2.2.1; omega) (by have := HF.out.2.2.2.2.1; omega)⟩)
  have TBN := hide' (show tb ≠ sb ∧ tb ≠ g by have := HF.out.1.stk.lt; have := B2.out.size; omega)
  clear s3 t3 ge3 lt3 e3 o3
  have SC := hide' (fun (V : World) (e : V.heap[spb]? = w3.heap[spb]?) => show V.cell? ⟨spb, 10, none⟩ = some (.pointer (some ⟨tb, 0, none⟩)) ∧ V.cell? ⟨spb, 11, none⟩ = some (.pointer (some ⟨sb, 0, none⟩)) ∧ V.cell? ⟨spb, 12, none⟩ = some (.int .i32 (t : Int)) ∧ V.cell? ⟨spb, 13, none⟩ = some (.int .i64 (L : Int)) ∧ V.cell? ⟨spb, 14, none⟩ = some (.int .i64 fr) ∧ V.cell? ⟨spb, 15, none⟩ = some (.int .i64 fd) from by
   have q := e.trans S3.out
   refine ⟨?_, ?_, ?_, ?_, ?_, ?_⟩
   all_goals (rw [cell_of_row V spb _ _ _ _ q]; rfl))
  have LE := hide' (fun (V : World) (b : Below w3.heap.size w3 V) => leap_on True P R D hb (table_is born stay) (tb_nil hb) B sb t L fr fd M F n g cap qs tb k 1000000 V (F3.out.keepF (F3.out.stk.below b)) (by have := HF.out.2.2.2.1; omega) (by have := HF.out.2.2.1; have := HF.out.2.2.2.2.2; omega) (T3.out.keepB b G3.out.2.1) (Nat.lt_of_lt_of_le G3.out.2.1 b.size) (by have := HK.out.1; omega) (by omega) (by have := HK.out.2.2.2.2; omega) (fun _ => PER.out) (fun _ => ⟨by have := HK.out.1; have := HF.out.2.2.2.1; omega, by have := HF.out.2.2.1; have := HF.out.2.2.2.2.2; omega⟩))
  have LB := hide' (fun (V : World) (b : Below w3.heap.size w3 V) => b.block spb (lt_of_block S3.out))
  have BD := hide' (show Below w3.heap.size w3 w3.drew from (Below.refl _ _).drew)
  have BR := hide' (show Below w3.heap.size w3 w3 from Below.refl _ _)
  have BA := hide' (show Below w3.heap.size w3 (w3.alloc (.cells #[.pointer none, .int .i32 0, .int .i64 0, .int .i64 0, .int .i64 0] 72)).drew from ((Below.refl _ _).alloc (Nat.le_refl _) _).drew)
  go_upto_region 8 with fail
  refine cutJ (P := fun nb po x1 x2 x3 x4 ok V => Hid (Below w3.heap.size w3 V ∧ w3.heap.size ≤ nb ∧ V.heap[nb]? = some (.cells #[.pointer po, .int .i32 x1, .int .i64 x2, .int .i64 x3, .int .i64 x4] 72 (0, 0)) ∧ LeR (M + 70368744177664) (stF born stay (2 ^ k) F) w3 po x1 x2 x3 x4 ok V ∧ ok = true)) (Φ := ?PH) (fun CUT => ?mn) ?rs
  case mn =>
   go_region_held3 (fun V => V.cell? ⟨spb, 10, none⟩ = some (.pointer (some ⟨tb, 0, none⟩)) ∧ V.cell? ⟨spb, 11, none⟩ = some (.pointer (some ⟨sb, 0, none⟩)) ∧ V.cell? ⟨spb, 12, none⟩ = some (.int .i32 (t : Int)) ∧ V.cell? ⟨spb, 13, none⟩ = some (.int .i64 (L : Int)) ∧ V.cell? ⟨spb, 14, none⟩ = some (.int .i64 fr) ∧ V.cell? ⟨spb, 15, none⟩ = some (.int .i64 fd)) (first | with_reducible exact SC.out _ (LB.out _ BN.out) | with_reducible exact SC.out _ (LB.out _ BD.out) | with_reducible exact SC.out _ (LB.out _ BR.out) | with_reducible exact SC.out _ (LB.out _ BA.out) | with_reducible exact SC.out _ (LB.out _ (BN.out.alloc BN.out.size _)) | with_reducible exact SC.out _ (LB.out _ (five_belowH BN.out (Nat.le_refl _) _ _ _ _ _)) | go_keep) (first
    | (go_at_call 30; refine (LE.out w3.drew BD.out).mono ?_; intro o w7 h7; obtain ⟨po, x1, x2, x3, x4, ok, rfl, b7, r7, ko⟩ := h7.oneO trivial; have KO := hide' ko; clear ko; have BN := hide' (show Below w3.heap.size w3 w7 from BD.out.trans b7); have RN := hide' (show LeR (M + 70368744177664) (stF born stay (2 ^ k) F) w3 po x1 x2 x3 x4 ok w7 from r7); clear b7 r7 h7)
    | (go_at_call 30; refine (LE.out (w3.alloc (.cells #[.pointer none, .int .i32 0, .int .i64 0, .int .i64 0, .int .i64 0] 72)).drew BA.out).mono ?_; intro o w7 h7; obtain ⟨po, x1, x2, x3, x4, ok, rfl, b7, r7, ko⟩ := h7.oneO trivial; have KO := hide' ko; clear ko; have BN := hide' (show Below w3.heap.size w3 w7 from BA.out.trans (b7.mono BA.out.size)); have WZ := hide' (show w7.heap[w3.heap.size]? = some (.cells #[.pointer none, .int .i32 0, .int .i64 0, .int .i64 0, .int .i64 0] 72 (0, 0)) from (b7.block w3.heap.size (by show w3.heap.size < (w3.alloc _).heap.size; simp)).trans (heap_alloc_new w3 _)); have RN := hide' (show LeR (M + 70368744177664) (stF born stay (2 ^ k) F) w3 po x1 x2 x3 x4 ok w7 from by
      rcases r7 with r7 | ⟨r1, sb', t', L', n', g', cap', qs', p', r2, r3, r4, r5, r6⟩
      ·exact Or.inl r7
      ·exact Or.inr ⟨r1, sb', t', L', n', g', cap', qs', p', r2, r3, r4, r5.weakF (by show w3.heap.size ≤ (w3.alloc _).heap.size; simp), r6⟩); have u0 := cell_of_row w7 w3.heap.size 0 _ _ _ WZ.out; have u1 := cell_of_row w7 w3.heap.size 1 _ _ _ WZ.out; have u2 := cell_of_row w7 w3.heap.size 2 _ _ _ WZ.out; have u3 := cell_of_row w7 w3.heap.size 3 _ _ _ WZ.out; have u4 := cell_of_row w7 w3.heap.size 4 _ _ _ WZ.out; have v0 := frozen_of_row w7 w3.heap.size 0 _ _ WZ.out; have v1 := frozen_of_row w7 w3.heap.size 1 _ _ WZ.out; have v2 := frozen_of_row w7 w3.heap.size 2 _ _ WZ.out; have v3 := frozen_of_row w7 w3.heap.size 3 _ _ WZ.out; have v4 := frozen_of_row w7 w3.heap.size 4 _ _ WZ.out; simp at u0 u1 u2 u3 u4; clear b7 r7 h7)
    | fail)
   ·obtain ⟨V, hV⟩ : ∃ V, w7.alloc (.cells #[.pointer po, .int .i32 x1, .int .i64 x2, .int .i64 x3, .int .i64 x4] 72) = V := ⟨_, rfl⟩
    rw [hV]
    obtain ⟨nb, hnb⟩ : ∃ q, w7.heap.size = q := ⟨_, rfl⟩
    rw [hnb]
    have T8 := hide' (show Below w3.heap.size w3 V ∧ w3.heap.size ≤ nb ∧ V.heap[nb]? = some (.cells #[.pointer po, .int .i32 x1, .int .i64 x2, .int .i64 x3, .int .i64 x4] 72 (0, 0)) ∧ LeR (M + 70368744177664) (stF born stay (2 ^ k) F) w3 po x1 x2 x3 x4 ok V ∧ ok = true from by
     rw [← hV, ← hnb]
     exact ⟨BN.out.alloc BN.out.size _, BN.out.size, heap_alloc_new _ _, RN.out.move (fun _ _ _ _ _ q => q.alloc _), KO.out⟩)
    exact CUT _ _ _ _ _ _ _ _ T8
   ·obtain ⟨nb, hnb⟩ : ∃ q, w3.heap.size = q := ⟨_, rfl⟩
    rw [hnb]
    obtain ⟨V, hV⟩ : ∃ V, ((((w7.setCell ⟨nb, 0, none⟩ (.pointer po)).setCell ⟨nb, 1, none⟩ (.int .i32 x1)).setCell ⟨nb, 2, none⟩ (.int .i64 x2)).setCell ⟨nb, 3, none⟩ (.int .i64 x3)).setCell ⟨nb, 4, none⟩ (.int .i64 x4) = V := ⟨_, rfl⟩
    rw [hV]
    have T8 := hide' (show Below w3.heap.size w3 V ∧ w3.heap.size ≤ nb ∧ V.heap[nb]? = some (.cells #[.pointer po, .int .i32 x1, .int .i64 x2, .int .i64 x3, .int .i64 x4] 72 (0, 0)) ∧ LeR (M + 70368744177664) (stF born stay (2 ^ k) F) w3 po x1 x2 x3 x4 ok V ∧ ok = true from by
     rw [← hV, ← hnb]
     refine ⟨five_belowH BN.out (Nat.le_refl _) _ _ _ _ _, Nat.le_refl _, five_stored WZ.out _ _ _ _ _, RN.out.move (fun sb' g' cap' qs' p' q => ?_), KO.out⟩
     have a := q.ne_four WZ.out (by decide) (by decide)
     exact q.keepM (five_else (fun e => a.1 e.symm) _ _ _ _ _) (five_else (fun e => a.2 e.symm) _ _ _ _ _) (fun z e => five_else (fun y => q.nomap WZ.out (by rw [← y]; exact e)) _ _ _ _ _))
    exact CUT _ _ _ _ _ _ _ _ T8
  case rs =>
   intro nb po x1 x2 x3 x4 ok V T9
   obtain ⟨bV, hnb, hV, hr, ko⟩ := T9.out
   have KO := hide' ko
   clear ko
   have BV := hide' bV
   have NB := hide' hnb
   have HV := hide' hV
   have SV := hide' (show V.heap[spb]? = some (spD (born : Int) (stay : Int) 1 (.pointer (some ⟨tb, 0, none⟩)) (.pointer (some ⟨sb, 0, none⟩)) (t : Int) (L : Int) fr fd (kp : Int)) from (LB.out V bV).trans S3.out)
   have BBV := hide' (show Below B w V from BE3.out.trans (bV.mono (by have := BE3.out.size; have := HSL.out.1; have := HF.out.2.2.2.2.1; omega)))
   have KEEP := hide' (fun (X : World) (mp : Option (Nat × Nat)) (sb' t' L' : Nat) (fr' fd' M' : Int) (n' g' cap' : Nat) (qs' : List Sq) (hX : X.heap[spb]? = some (spD (born : Int) (stay : Int) 1 (.pointer (some ⟨tb, 0, none⟩)) (.pointer (some ⟨sb, 0, none⟩)) (t : Int) (L : Int) fr fd (kp : Int))) (hfX : FldA X B sb' t' L' fr' fd' M' (stF born stay (2 ^ k) F) n' g' cap' qs' mp) (hm1 : 16 ≤ M') (hm2 : M' ≤ 144115188075855872) (hq : qs'.length + n' ≤ 1599999) => keep_new mp spb B sb' t' L' (born : Int) (stay : Int) 1 (.pointer (some ⟨tb, 0, none⟩)) (.pointer (some ⟨sb, 0, none⟩)) (t : Int) (L : Int) fr fd (kp : Int) fr' fd' M' (stF born stay (2 ^ k) F) n' g' cap' qs' X hX hfX hm1 hm2 HF.out.2.2.2.2.1 (by omega) 1600000 (by omega))
   have u0 := cell_of_row V nb 0 _ _ _ hV
   have u1 := cell_of_row V nb 1 _ _ _ hV
   have u2 := cell_of_row V nb 2 _ _ _ hV
   have u3 := cell_of_row V nb 3 _ _ _ hV
   have u4 := cell_of_row V nb 4 _ _ _ hV
   simp at u0 u1 u2 u3 u4
   have HR := hide' hr
   clear bV hnb hV hr T9
   cases ok with
   | true =>
    have hr := HR.out
    rcases hr with hr | ⟨-, sb', t', L', n', g', cap', qs', p', rfl, rfl, rfl, h5, h6⟩
    ·cases hr
    have KC := hide' (KEEP.out V (some p') sb' t' L' x3 x4 (M + 70368744177664) n' g' cap' qs' SV.out (h5.weakF (by have := BE3.out.size; have := HSL.out.1; have := HF.out.2.2.2.2.1; omega)) (by have := HK.out.2.2.2.2; omega) (by have := HK.out.2.2.2.2; omega) (by have := h5.hi; omega))
    clear h5 h6
    go_wp2_with fail
    refine KC.out.mono ?_
    rintro o w9 ⟨rfl, hsp, bb⟩
    have FIN := hide' (show JuP spb B born stay (M + 70368811286528) (stF born stay (2 ^ k) F) 1600000 w (.returned .nilIface) w9 from by
     obtain ⟨a0, sb9, t9, L9, fr9, fd9, n9, g9, cap9, qs9, kp9, a1, a2, a3, a4, a5⟩ := hsp
     exact ⟨rfl, ⟨1, _, a0, sb9, t9, L9, fr9, fd9, n9, g9, cap9, qs9, kp9, a1, a2.mono (by omega), a3, a4, a5⟩, BBV.out.trans bb⟩)
    clear hsp bb
    go_wp2
    go_ret
    exact FIN.out
   | false => exact absurd KO.out (by simp)
end Go.Proofs.YtemhcpldflcfbaaGreatDoor
