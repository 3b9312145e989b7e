/-
  What the last text of this claim leans on, part 28: Hk2, Hj10, Hj17, Hj18, Hk3, Hk4.
-/
import Derived.Test.YtemhcpldflcfbaaGreatDoorYf27
import Derived.Test.YtemhcpldflcfbaaGreatDoorYf22
import Derived.Test.YtemhcpldflcfbaaGreatDoorYf24
import Derived.Test.YtemhcpldflcfbaaGreatDoorYf18
namespace Go.Proofs.YtemhcpldflcfbaaGreatDoor
open Go.RowKit
set_option linter.unusedVariables false
def arr4 (f : Nat → Nat) : Array Value := #[.int .u64 ((f 0 : Nat) : Int), .int .u64 ((f 1 : Nat) : Int), .int .u64 ((f 2 : Nat) : Int), .int .u64 ((f 3 : Nat) : Int)]
theorem set4 {f : Nat → Nat} {i v : Nat} (hi : i < 4) : (arr4 f).setIfInBounds i (.int .u64 (v : Int)) = arr4 (fun j => if j = i then v else f j) := by
 have : i = 0 ∨ i = 1 ∨ i = 2 ∨ i = 3 := by omega
 rcases this with rfl | rfl | rfl | rfl <;> rfl
theorem get4 {f : Nat → Nat} {i : Nat} (hi : i < 4) : (arr4 f)[i]? = some (.int .u64 (f i : Int)) := by
 have : i = 0 ∨ i = 1 ∨ i = 2 ∨ i = 3 := by omega
 rcases this with rfl | rfl | rfl | rfl <;> rfl
theorem ext4 {f g : Nat → Nat} (h : ∀ j, j < 4 → f j = g j) : arr4 f = arr4 g := by
 unfold arr4
 rw [h 0 (by omega), h 1 (by omega), h 2 (by omega), h 3 (by omega)]
def SxR (qs : List Sq) (t : Nat) (w : World) (e : Ending) (w' : World) : Prop := e = .returned (.agg #[.int .u64 (sxK qs t 0 : Int), .int .u64 (sxK qs t 1 : Int), .int .u64 (sxK qs t 2 : Int), .int .u64 (sxK qs t 3 : Int)]) ∧ Below w.heap.size w w'
set_option maxRecDepth 100000 in
set_option maxHeartbeats 6400000 in
theorem sixteen_stkR {mp : Option (Nat × Nat)} (sb B g cap : Nat) (qs : List Sq) (t : Nat) (w : World) (h : StkA w sb B g cap qs mp) (ht : t < qs.length) (hp : ∀ i, prt (sqA qs t) i < qs.length) :
  Calls Tryz.prog 118 #[.pointer (some ⟨sb, 0, none⟩), .int .i32 (t : Int)] w (SxR qs t w) := by
 have HK := hide' h
 have HT := hide' ht
 have HP := hide' hp
 obtain ⟨rb, hrb⟩ : ∃ rb, w.heap.size = rb := ⟨_, rfl⟩
 obtain ⟨w2, hw2⟩ : ∃ w2, (w.alloc (.cells #[.int .u64 0, .int .u64 0, .int .u64 0, .int .u64 0] 186)).alloc (.cells #[.int .u64 0, .int .u64 0, .int .u64 0, .int .u64 0] 186) = w2 := ⟨_, rfl⟩
 have HW2 := hide' hw2
 have HRB := hide' hrb
 have B2 := hide' (show Below w.heap.size w w2 by rw [← hw2]; exact ((Below.refl _ _).alloc (Nat.le_refl _) _).alloc (by simp) _)
 have R2 := hide' (show w2.heap[rb]? = some (.cells (arr4 fun _ => 0) 186 (0, 0)) by rw [← hw2, ← hrb]; exact (heap_alloc_old _ _ (by simp)).trans (heap_alloc_new w _))
 have O2 := hide' (show w2.heap[rb + 1]? = some (.cells (arr4 fun _ => 0) 186 (0, 0)) by rw [← hw2]; exact heap_atX _ _ _ (by simp [hrb]))
 have Z2 := hide' (show w2.heap.size = rb + 2 by rw [← hw2]; simp [hrb])
 have K2 := hide' (h.below B2.out)
 obtain ⟨qn, hqn⟩ : ∃ n, qs.length = n := ⟨_, rfl⟩
 have HQN := hide' hqn
 obtain ⟨p0, hp0⟩ : ∃ p, (sqA qs t).a = p := ⟨_, rfl⟩
 obtain ⟨p1, hp1⟩ : ∃ p, (sqA qs t).b = p := ⟨_, rfl⟩
 obtain ⟨p2, hp2⟩ : ∃ p, (sqA qs t).c = p := ⟨_, rfl⟩
 obtain ⟨p3, hp3⟩ : ∃ p, (sqA qs t).d = p := ⟨_, rfl⟩
 have HPP := hide' (And.intro hp0 (And.intro hp1 (And.intro hp2 hp3)))
 have IX := hide' (fun (i : Nat) (hi : i < 4) (V : World) => index_p4 (a := p0) (b := p1) (c := p2) (d := p3) hi V)
 clear hw2 hrb h ht hp hqn hp0 hp1 hp2 hp3
 go_enter Tryz.func118, Tryz.ntmps118
 go_upto_region 2 with fail
 rw [HW2.out, HRB.out]
 have c0 := K2.out.c0
 obtain ⟨q0, q1, q2, q3, -, -⟩ := K2.out.cells HT.out
 have lt := HT.out
 rw [HQN.out] at c0 lt
 rw [HPP.out.1] at q0
 rw [HPP.out.2.1] at q1
 rw [HPP.out.2.2.1] at q2
 rw [HPP.out.2.2.2] at q3
 have l1 : (t : Int) < (qn : Int) := by omega
 go_wp2
 clear c0 q0 q1 q2 q3 l1 lt
 go_loopw [16] (fun iv wr => ∃ (i : Nat) (og : Nat → Nat), iv = .int .i64 (i : Int) ∧ i ≤ 4 ∧ Hid (wr.heap[rb + 1]? = some (.cells (arr4 og) 186 (0, 0))) ∧ Hid (∀ j, j < i → og j = sxK qs t j) ∧ Hid (KpW (rb + 1) w2 wr)) (fun iv _ => 4 - (intOf iv).toNat)
 case atStart => exact ⟨0, _, rfl, by omega, O2, hide' (fun j h => absurd h (by omega)), hide' (KpW.of_below (Below.refl _ _))⟩
 case round =>
  obtain ⟨i, og, rfl, hi, HO, HGQ, HKP⟩ := hrel
  by_cases di : i < 4
  ·have d1 : (i : Int) < 4 := by omega
   have ix := IX.out i di
   obtain ⟨pt, hpt⟩ : ∃ t, p4 p0 p1 p2 p3 i = t := ⟨_, rfl⟩
   rw [hpt] at ix
   have HPT := hide' (show prt (sqA qs t) i = pt by rw [← p4_prt, HPP.out.1, HPP.out.2.1, HPP.out.2.2.1, HPP.out.2.2.2]; exact hpt)
   clear hpt
   have KR := hide' (show StkA wr sb B g cap qs mp from K2.out.keepM (HKP.out.keep _ K2.out.lt.1 (fun e => by have := HK.out.lt.1; have := HRB.out; omega)) (HKP.out.keep _ K2.out.lt.2 (fun e => by have := HK.out.lt.2; have := HRB.out; omega)) (fun k q => HKP.out.keep _ (K2.out.map.lt q) (fun e => by have := HK.out.map.lt q; have := HRB.out; omega)))
   have c0 := KR.out.c0
   have ptl : pt < qs.length := by rw [← HPT.out]; exact HP.out i
   have q4 := (KR.out.cells ptl).2.2.2.2.1
   rw [HQN.out] at c0 ptl
   have l1 : (pt : Int) < (qn : Int) := by omega
   obtain ⟨v, hv⟩ : ∃ v, (sqA qs pt).k = v := ⟨_, rfl⟩
   rw [hv] at q4
   have HV := hide' (show sxK qs t i = v by unfold sxK; rw [HPT.out, hv])
   have r0 := (cell_of_row wr (rb + 1) i _ _ _ HO.out).trans (get4 di)
   have f0 := frozen_of_row wr (rb + 1) i _ _ HO.out
   have HO2 := hide' (show (wr.setCell ⟨rb + 1, i, none⟩ (.int .u64 (v : Int))).heap[rb + 1]? = some (.cells (arr4 (fun j => if j = i then v else og j)) 186 (0, 0)) by rw [heap_setCell_same _ _ _ _ _ _ HO.out, set4 di])
   have HG2 := hide' (show ∀ j, j < i + 1 → (fun j => if j = i then v else og j) j = sxK qs t j from fun j hj => by
    by_cases e : j = i
    ·subst e; simp only [if_true]; exact HV.out.symm
    ·simp only [if_neg e]; exact HGQ.out j (by omega))
   have HK2 := hide' (show KpW (rb + 1) w2 (wr.setCell ⟨rb + 1, i, none⟩ (.int .u64 (v : Int))) from HKP.out.set _)
   clear ptl hv
   go_wp2
   exact ⟨⟨i + 1, _, by go_num, by omega, HO2, HG2, HK2⟩, by simp [intOf]; omega⟩
  ·have d1 : ¬ (i : Int) < 4 := by omega
   obtain rfl : i = 4 := by omega
   have gp : wr.heap[rb + 1]? = some (.cells (arr4 (sxK qs t)) 186 (0, 0)) := by
    rw [HO.out, ext4 (fun j hj => HGQ.out j hj)]
   have gb := (HKP.out.keep rb (by have := Z2.out; omega) (by omega)).trans R2.out
   have BF := hide' (show Below w.heap.size w wr from B2.out.trans ⟨HKP.out.os, HKP.out.tape, HKP.out.output, HKP.out.size, fun k hk => HKP.out.keep k (by have := B2.out.size; omega) (by have := HRB.out; omega)⟩)
   have lw : w.heap.size ≤ rb := by have := HRB.out; omega
   obtain ⟨Zb, hZ⟩ : ∃ Z, arr4 (sxK qs t) = Z := ⟨_, rfl⟩
   have zs : Zb.size = 4 := by rw [← hZ]; rfl
   have za : Zb.all (·.oneCell') = true := by rw [← hZ]; simp [arr4, Value.oneCell']
   rw [hZ] at gp
   have HZ := hide' hZ
   clear hZ
   go_wp2_with (first
    | (refine wpList_load_row rfl 186 _ rfl (rb + 1) rfl 186 Zb (0, 0) _ gp Tryz.underlying186 rfl (by rw [zs]; kernel_rfl) ?_)
    | (refine wpList_store_row rfl 186 _ _ rfl rb Zb rfl rfl 186 _ gb (by rw [zs]; kernel_rfl) (by rw [zs]; rfl) za ?_))
   refine bodyPost_ret (v := .agg Zb) (results_cell_row Tryz.results118 _ _ rb 186 _ (0, 0) _ rfl (setRow_heap _ _ _ _ _ _ gb) Tryz.underlying186 rfl (by rw [zs]; kernel_rfl)) rfl ?_
   exact ⟨by rw [← HZ.out]; rfl, below_setRow BF.out lw _⟩
set_option linter.unusedSimpArgs false
def pfE (k : Nat) : Nat := if k = 0 then 1 else 2
def psE (k : Nat) : Nat := if k ≤ 1 then 0 else 2
theorem pace_sum (k : Nat) : pfE k + psE k = 2 ^ min k 2 := by
 unfold pfE psE
 have : k = 0 ∨ k = 1 ∨ 2 ≤ k := by omega
 rcases this with rfl | rfl | h
 ·decide
 ·decide
 ·rw [if_neg (by omega), if_neg (by omega), Nat.min_eq_right h]
set_option maxRecDepth 100000 in
theorem paceOf_any (k : Nat) (w : World) (hk : k < 9223372036854775808) : Calls Tryz.prog 58 #[.int .i64 (k : Int)] w fun e w' => e = .returned (.agg #[.int .i64 (pfE k : Int), .int .i64 (psE k : Int)]) ∧ Below w.heap.size w w' := by
 have : k = 0 ∨ k = 1 ∨ 2 ≤ k := by omega
 rcases this with rfl | rfl | h
 ·go_enter Tryz.func58, Tryz.ntmps58
  go_wp2
  refine bodyPost_ret (v := .agg #[.int .i64 1, .int .i64 0]) (results_cell_row Tryz.results58 _ _ w.heap.size 125 _ (0, 0) _ rfl (heap_alloc_new w _) Tryz.underlying125 rfl (by kernel_rfl)) rfl ?_
  exact ⟨rfl, (Below.refl _ _).alloc (Nat.le_refl _) _⟩
 ·go_enter Tryz.func58, Tryz.ntmps58
  go_wp2
  refine bodyPost_ret (v := .agg #[.int .i64 2, .int .i64 0]) (results_cell_row Tryz.results58 _ _ w.heap.size 125 _ (0, 0) _ rfl (heap_alloc_new w _) Tryz.underlying125 rfl (by kernel_rfl)) rfl ?_
  exact ⟨rfl, (Below.refl _ _).alloc (Nat.le_refl _) _⟩
 ·have k0 : ¬ (k : Int) = 0 := by omega
  have k1 : ¬ (k : Int) = 1 := by omega
  have E := hide' (show pfE k = 2 ∧ psE k = 2 by unfold pfE psE; exact ⟨if_neg (by omega), if_neg (by omega)⟩)
  go_enter Tryz.func58, Tryz.ntmps58
  go_wp2
  refine bodyPost_ret (v := .agg #[.int .i64 2, .int .i64 2]) (results_cell_row Tryz.results58 _ _ w.heap.size 125 _ (0, 0) _ rfl (heap_alloc_new w _) Tryz.underlying125 rfl (by kernel_rfl)) rfl ?_
  exact ⟨by rw [E.out.1, E.out.2]; rfl, (Below.refl _ _).alloc (Nat.le_refl _) _⟩
theorem val_one (qs : List Sq) (t : Nat) : valQ qs 1 t = v16 (sqA qs (sqA qs t).a).k (sqA qs (sqA qs t).b).k (sqA qs (sqA qs t).c).k (sqA qs (sqA qs t).d).k := by
 funext x y
 rw [val_step, show sideI 0 = 8 by decide]
 rfl
theorem LpS.base {born stay k : Nat} {T : Nat → Nat} (hT : TbE born stay T) {qs : List Sq} {t r : Nat} (ha : (sqA qs (sqA qs t).a).k < 18446744073709551616) (hb : (sqA qs (sqA qs t).b).k < 18446744073709551616)
  (hr : ∀ x y, valQ qs 0 r x y = bitQ (sxE T (sqA qs (sqA qs t).a).k (sqA qs (sqA qs t).b).k (sqA qs (sqA qs t).c).k (sqA qs (sqA qs t).d).k (pfE k) (psE k)) x y) : LpS born stay k qs 0 t r := by
 have m := sx_mid hT (c := (sqA qs (sqA qs t).c).k) (d := (sqA qs (sqA qs t).d).k) ha hb (s := pfE k) (u := psE k) (by unfold pfE; split <;> omega) (by unfold psE; split <;> omega)
 unfold LpS
 rw [val_one, ← pace_sum, show qrI 0 = 4 by decide]
 exact m.eq fun x y _ _ _ _ => hr x y
theorem LpS.nil {born stay k n : Nat} (hb : born % 2 = 0) {qs : List Sq} (hS : StQ qs) : LpS born stay k qs n 0 0 := fun x y _ _ _ _ => by
 rw [val_nil hS]
 exact (stF_none hb fun u v _ _ _ _ => val_nil hS _ _ _).symm
theorem LpS.app {born stay k n : Nat} {qs : List Sq} (hS : StQ qs) {t r : Nat} (ht : WFQ qs (n + 1) t) (hr : WFQ qs n r) (h : LpS born stay k qs n t r) (ms : List Sq) : LpS born stay k (qs ++ ms) n t r := by
 unfold LpS at h ⊢
 rw [show valQ (qs ++ ms) (n + 1) t = valQ qs (n + 1) t from funext fun x => funext fun y => ht.val hS ms x y, show valQ (qs ++ ms) n r = valQ qs n r from funext fun x => funext fun y => hr.val hS ms x y]
 exact h
theorem mid_eight {born stay : Nat} {qs : List Sq} {t r : Nat} (hr : ∀ x y, valQ qs 0 r x y = bitQ (betE (sqA qs (sqA qs t).a).k (sqA qs (sqA qs t).b).k (sqA qs (sqA qs t).c).k (sqA qs (sqA qs t).d).k) x y) : MdF born stay 0 (valQ qs 1 t) (valQ qs 0 r) (qrI 0) := fun x y h1 h2 h3 h4 => by
 rw [show qrI 0 = 4 by decide] at h2 h4 ⊢
 rw [hr, val_one]
 have g := bet_ag (X := 0) (Y := 0) (ag_a _ _ _ _) (ag_b (sqA qs (sqA qs t).a).k (sqA qs (sqA qs t).b).k (sqA qs (sqA qs t).c).k (sqA qs (sqA qs t).d).k) (ag_c _ _ _ _) (ag_d _ _ _ _) x y h1 (by omega) h3 (by omega)
 rw [g, stF_zero]
 congr 1 <;> omega
theorem mid_more {born stay n : Nat} {qs : List Sq} {t r : Nat} (hr : JnS4 qs n r (gridQ qs t 5) (gridQ qs t 6) (gridQ qs t 9) (gridQ qs t 10)) : MdF born stay 0 (valQ qs (n + 2) t) (valQ qs (n + 1) r) (qrI (n + 1)) := fun x y h1 h2 h3 h4 => by
 have s2 := qr_side n
 rw [qr_next, ← s2] at h2 h4 ⊢
 have a0 := grid_ag qs n t (a := 1) (b := 1) (by omega) (by omega)
 have a1 := grid_ag qs n t (a := 2) (b := 1) (by omega) (by omega)
 have a2 := grid_ag qs n t (a := 1) (b := 2) (by omega) (by omega)
 have a3 := grid_ag qs n t (a := 2) (b := 2) (by omega) (by omega)
 have o : ((1 : Nat) : Int) * sideI n = sideI n := by simp
 have w : ((2 : Nat) : Int) * sideI n = sideI n + sideI n := by simp; omega
 rw [o] at a0 a1 a2
 rw [w] at a1 a2 a3
 have j := jn_ag (val_sup _ _ _) (val_sup _ _ _) (val_sup _ _ _) (val_sup _ _ _) a0 a1 a2 a3
 rw [hr x y, stF_zero, j x y h1 h2 h3 h4, Int.add_comm x, Int.add_comm y]
theorem JoinQ.shows {qs qs' : List Sq} {a b c d t n : Nat} (hS : StQ qs) (h : JoinQ qs a b c d qs' t) (ha : WFQ qs n a) (hb : WFQ qs n b) (hc : WFQ qs n c) (hd : WFQ qs n d) : JnS4 qs' n t a b c d := fun x y => by
 obtain ⟨ms, e, _⟩ := h.app
 rw [h.val hS ha hb hc hd]
 unfold jnF
 rw [e, ha.val hS, hb.val hS, hc.val hS, hd.val hS]
theorem JnS4.app {qs : List Sq} (hS : StQ qs) {n t a b c d : Nat} (ht : WFQ qs (n + 1) t) (ha : WFQ qs n a) (hb : WFQ qs n b) (hc : WFQ qs n c) (hd : WFQ qs n d) (h : JnS4 qs n t a b c d) (ms : List Sq) : JnS4 (qs ++ ms) n t a b c d := fun x y => by
 rw [ht.val hS, h x y]
 unfold jnF
 rw [ha.val hS, hb.val hS, hc.val hS, hd.val hS]
theorem grid_app {qs : List Sq} (hS : StQ qs) {n t : Nat} (ht : WFQ qs (n + 2) t) (ms : List Sq) (i : Nat) : gridQ (qs ++ ms) t i = gridQ qs t i := by
 have hl := ht.lt hS
 obtain ⟨a, b, c, d⟩ := ht.parts hS
 have h1 : prt (sqA qs t) (i / 8 * 2 + i % 4 / 2) < qs.length := by unfold prt; split; exact a.lt hS; split; exact b.lt hS; split; exact c.lt hS; exact d.lt hS
 unfold gridQ
 rw [sqA_old hl, sqA_old h1]
theorem WFQ.k_lt {qs : List Sq} (hS : StQ qs) {t : Nat} (h : WFQ qs 0 t) : (sqA qs t).k < 18446744073709551616 := by
 rcases h with rfl | h
 ·rw [hS.2.2.2.2.2]; decide
 ·exact h.2.2
theorem WFQ.prt {qs : List Sq} (hS : StQ qs) {n t : Nat} (h : WFQ qs (n + 1) t) (i : Nat) : WFQ qs n (prt (sqA qs t) i) := by
 obtain ⟨a, b, c, d⟩ := h.parts hS
 unfold Go.Proofs.YtemhcpldflcfbaaGreatDoor.prt
 split; exact a; split; exact b; split; exact c; exact d
theorem sxK_lt {qs : List Sq} (hS : StQ qs) {t : Nat} (h : WFQ qs 1 t) (i : Nat) : sxK qs t i < 18446744073709551616 := (h.prt hS i).k_lt hS
theorem sxK_app {qs : List Sq} (hS : StQ qs) {t : Nat} (h : WFQ qs 1 t) (ms : List Sq) (i : Nat) : sxK (qs ++ ms) t i = sxK qs t i := by
 unfold sxK
 rw [sqA_old (h.lt hS), sqA_old ((h.prt hS i).lt hS)]
def MiP (mp : Option (Nat × Nat)) (born stay sb B g : Nat) (qs : List Sq) (n t : Nat) (w : World) (e : Ending) (w' : World) : Prop :=
 ∃ g' cap' qs' t', e = .returned (.int .i32 ((t' : Nat) : Int)) ∧ StkA w' sb B g' cap' qs' mp ∧ (∃ ms, qs' = qs ++ ms ∧ ms.length ≤ 1 ∧ (ms = [] ∨ t' = qs.length)) ∧ WFQ qs' n t' ∧ MdF born stay 0 (valQ qs' (n + 1) t) (valQ qs' n t') (qrI n) ∧ KpS sb g g' w w' mp
set_option maxRecDepth 100000 in
set_option maxHeartbeats 6400000 in
theorem middle_least (mp : Option (Nat × Nat)) (born stay sb B g cap : Nat) (qs : List Sq) (t : Nat) (w : World) (h : StkA w sb B g cap qs mp) (hB : B ≤ w.heap.size) (hn : qs.length ≤ 2000000) (hw : WFQ qs 1 t) :
  Calls Tryz.prog 119 #[.pointer (some ⟨sb, 0, none⟩), .int .i32 (t : Int), .int .i64 4] w (MiP mp born stay sb B g qs 0 t w) := by
 have HK := hide' h
 have HW := hide' hw
 have HBB := hide' hB
 have HN := hide' hn
 have SC := hide' (sixteen_stkR sb B g cap qs t w h (hw.lt h.st) (fun i => (hw.prt h.st i).lt h.st))
 have L0 := hide' (sxK_lt h.st hw)
 clear h hw hB hn
 go_enter Tryz.func119, Tryz.ntmps119
 go_wp2_with fail
 refine SC.out.mono ?_
 rintro e w2 ⟨rfl, b2⟩
 obtain ⟨k0, hk0⟩ : ∃ k, sxK qs t 0 = k := ⟨_, rfl⟩
 obtain ⟨k1, hk1⟩ : ∃ k, sxK qs t 1 = k := ⟨_, rfl⟩
 obtain ⟨k2, hk2⟩ : ∃ k, sxK qs t 2 = k := ⟨_, rfl⟩
 obtain ⟨k3, hk3⟩ : ∃ k, sxK qs t 3 = k := ⟨_, rfl⟩
 have l0 := L0.out 0
 have l1 := L0.out 1
 have l2 := L0.out 2
 have l3 := L0.out 3
 rw [hk0] at l0 ⊢
 rw [hk1] at l1 ⊢
 rw [hk2] at l2 ⊢
 rw [hk3] at l3 ⊢
 have HKS := hide' (And.intro hk0 (And.intro hk1 (And.intro hk2 hk3)))
 obtain ⟨w3, hw3⟩ : ∃ w3, w2.alloc (.cells #[.int .u64 (k0 : Int), .int .u64 (k1 : Int), .int .u64 (k2 : Int), .int .u64 (k3 : Int)] 186) = w3 := ⟨_, rfl⟩
 have B3 := hide' (show Below w.heap.size w w3 by rw [← hw3]; exact b2.alloc b2.size _)
 obtain ⟨ab, hab⟩ : ∃ a, w2.heap.size = a := ⟨_, rfl⟩
 have G3 := hide' (show w3.heap[ab]? = some (.cells #[.int .u64 (k0 : Int), .int .u64 (k1 : Int), .int .u64 (k2 : Int), .int .u64 (k3 : Int)] 186 (0, 0)) by rw [← hw3, ← hab]; exact heap_alloc_new _ _)
 have BC := hide' (between_any k0 k1 k2 k3 w3 l0 l1 l2 l3)
 have S3 := hide' (HK.out.below B3.out)
 have HW3 := hide' hw3
 have HAB := hide' hab
 clear b2 hw3 hab hk0 hk1 hk2 hk3 l0 l1 l2 l3
 go_upto_region 3 with fail
 rw [HW3.out, HAB.out]
 have c0 := cell_of_row w3 ab 0 _ _ _ G3.out
 have c1 := cell_of_row w3 ab 1 _ _ _ G3.out
 have c2 := cell_of_row w3 ab 2 _ _ _ G3.out
 have c3 := cell_of_row w3 ab 3 _ _ _ G3.out
 simp at c0 c1 c2 c3
 go_wp2_with fail
 refine BC.out.mono ?_
 rintro e w4 ⟨rfl, rfl⟩
 obtain ⟨kk, hkk⟩ : ∃ k, betE k0 k1 k2 k3 = k := ⟨_, rfl⟩
 have KL := hide' (show kk < 2 ^ 64 by rw [← hkk]; exact bet_lt _ _ _ _)
 have HKK := hide' hkk
 rw [hkk]
 clear hkk
 go_wp2_with fail
 refine (eight_stkM mp sb B g cap qs kk w4 S3.out (Nat.le_trans HBB.out B3.out.size) HN.out KL.out).mono ?_
 rintro e w5 ⟨g', cap', qs', t', rfl, hs, he, hk⟩
 have FIN := hide' (show MiP mp born stay sb B g qs 0 t w (.returned (.int .i32 (t' : Int))) w5 from by
  obtain ⟨ms, e1, l1⟩ := he.one
  refine ⟨g', cap', qs', t', rfl, hs, ⟨ms, e1, l1⟩, he.wf KL.out, ?_, (KpS.of_below B3.out).trans hk⟩
  refine mid_eight fun x y => ?_
  rw [he.val HK.out.st]
  have a := fun i => sxK_app HK.out.st HW.out ms i
  rw [← e1] at a
  have e : betE (sxK qs' t 0) (sxK qs' t 1) (sxK qs' t 2) (sxK qs' t 3) = kk := by rw [a, a, a, a, HKS.out.1, HKS.out.2.1, HKS.out.2.2.1, HKS.out.2.2.2, HKK.out]
  rw [← e]
  rfl)
 clear hs he hk c0 c1 c2 c3
 go_wp2
 go_ret
 exact FIN.out
set_option maxRecDepth 100000 in
set_option maxHeartbeats 6400000 in
theorem middle_more (mp : Option (Nat × Nat)) (born stay sb B g cap : Nat) (qs : List Sq) (n t L : Nat) (w : World) (h : StkA w sb B g cap qs mp) (hB : B ≤ w.heap.size) (hn : qs.length ≤ 2000000) (hw : WFQ qs (n + 2) t) (hL : L = n + 5) :
  Calls Tryz.prog 119 #[.pointer (some ⟨sb, 0, none⟩), .int .i32 (t : Int), .int .i64 (L : Int)] w (MiP mp born stay sb B g qs (n + 1) t w) := by
 have HK := hide' h
 have HW := hide' hw
 have HBB := hide' hB
 have HN := hide' hn
 have GC := hide' (grid_stk sb B g cap qs t w h (hw.lt h.st) (fun i => (hw.prt h.st i).lt h.st))
 have d0 : ((L : Int) == 4) = false := by simp; omega
 have GW := hide' (fun i => grid_wf h.st hw i)
 clear h hw hB hn hL
 go_enter Tryz.func119, Tryz.ntmps119
 go_wp2_with fail
 refine GC.out.mono ?_
 rintro e w3 ⟨rfl, b3⟩
 obtain ⟨Z, hZ⟩ : ∃ Z, arr16 (gridQ qs t) = Z := ⟨_, rfl⟩
 rw [hZ]
 have HZ := hide' hZ
 have zs : Z.size = 16 := by rw [← hZ]; rfl
 have za : Z.all (·.oneCell') = true := by rw [← hZ]; simp [arr16, Value.oneCell']
 have hz : (w3.alloc (.cells #[.int .i32 0, .int .i32 0, .int .i32 0, .int .i32 0, .int .i32 0, .int .i32 0, .int .i32 0, .int .i32 0, .int .i32 0, .int .i32 0, .int .i32 0, .int .i32 0, .int .i32 0, .int .i32 0, .int .i32 0, .int .i32 0] 154)).heap[w3.heap.size]? = some (.cells #[.int .i32 0, .int .i32 0, .int .i32 0, .int .i32 0, .int .i32 0, .int .i32 0, .int .i32 0, .int .i32 0, .int .i32 0, .int .i32 0, .int .i32 0, .int .i32 0, .int .i32 0, .int .i32 0, .int .i32 0, .int .i32 0] 154 (0, 0)) := heap_alloc_new _ _
 obtain ⟨w4, hw4⟩ : ∃ w4, (w3.alloc (.cells #[.int .i32 0, .int .i32 0, .int .i32 0, .int .i32 0, .int .i32 0, .int .i32 0, .int .i32 0, .int .i32 0, .int .i32 0, .int .i32 0, .int .i32 0, .int .i32 0, .int .i32 0, .int .i32 0, .int .i32 0, .int .i32 0] 154)).setRow w3.heap.size Z = w4 := ⟨_, rfl⟩
 have g4 : w4.heap[w3.heap.size]? = some (.cells Z 154 (0, 0)) := by rw [← hw4]; exact setRow_heap _ _ _ _ _ _ hz
 have B4 := hide' (show Below w.heap.size w w4 by rw [← hw4]; exact below_setRow (b3.alloc b3.size _) b3.size _)
 obtain ⟨gb, hgb⟩ : ∃ gb, w3.heap.size = gb := ⟨_, rfl⟩
 have G4 := hide' (show w4.heap[gb]? = some (.cells Z 154 (0, 0)) by rw [← hgb]; exact g4)
 have HGB := hide' hgb
 have S4 := hide' (HK.out.below B4.out)
 clear hZ b3 g4 hgb
 go_upto_region 5 with (first
  | (refine wpList_store_row rfl 154 _ _ rfl w3.heap.size Z rfl rfl 154 _ hz (by rw [zs]; kernel_rfl) (by rw [zs]; rfl) za ?_; rw [hw4]))
 rw [HGB.out]
 clear hz hw4
 have ZG := hide' (fun (j : Nat) (hj : j < 16) => show w4.cell? ⟨gb, j, none⟩ = some (.int .i32 ((gridQ qs t j : Nat) : Int)) from by rw [cell_of_row w4 gb j _ _ _ G4.out, ← HZ.out]; exact get16 hj)
 obtain ⟨v0, hv0⟩ : ∃ v, gridQ qs t 5 = v := ⟨_, rfl⟩
 obtain ⟨v1, hv1⟩ : ∃ v, gridQ qs t 6 = v := ⟨_, rfl⟩
 obtain ⟨v2, hv2⟩ : ∃ v, gridQ qs t 9 = v := ⟨_, rfl⟩
 obtain ⟨v3, hv3⟩ : ∃ v, gridQ qs t 10 = v := ⟨_, rfl⟩
 have k0 := ZG.out 5 (by omega)
 have k1 := ZG.out 6 (by omega)
 have k2 := ZG.out 9 (by omega)
 have k3 := ZG.out 10 (by omega)
 rw [hv0] at k0
 rw [hv1] at k1
 rw [hv2] at k2
 rw [hv3] at k3
 have HV := hide' (And.intro hv0 (And.intro hv1 (And.intro hv2 hv3)))
 have WV := hide' (show (WFQ qs n v0 ∧ WFQ qs n v1) ∧ WFQ qs n v2 ∧ WFQ qs n v3 by rw [← hv0, ← hv1, ← hv2, ← hv3]; exact ⟨⟨GW.out _, GW.out _⟩, GW.out _, GW.out _⟩)
 clear hv0 hv1 hv2 hv3
 obtain ⟨w5, hw5⟩ : ∃ w5, w4.alloc (.cells #[.int .i32 (v0 : Int), .int .i32 (v1 : Int), .int .i32 (v2 : Int), .int .i32 (v3 : Int)] 21) = w5 := ⟨_, rfl⟩
 have B5 := hide' (show Below w.heap.size w w5 by rw [← hw5]; exact B4.out.alloc B4.out.size _)
 have A5 := (show w5.heap[w4.heap.size]? = some (.cells #[.int .i32 (v0 : Int), .int .i32 (v1 : Int), .int .i32 (v2 : Int), .int .i32 (v3 : Int)] 21 (0, 0)) by rw [← hw5]; exact heap_alloc_new _ _)
 have JC := hide' (join_stkM mp sb B g cap qs v0 v1 v2 v3 w4.heap.size 4 w5 (HK.out.below B5.out) (Nat.le_trans HBB.out B5.out.size) HN.out (WV.out.1.1.lt HK.out.st) (WV.out.1.2.lt HK.out.st) (WV.out.2.1.lt HK.out.st) (WV.out.2.2.lt HK.out.st) (cell_of_row w5 _ 0 _ _ _ A5) (cell_of_row w5 _ 1 _ _ _ A5) (cell_of_row w5 _ 2 _ _ _ A5) (cell_of_row w5 _ 3 _ _ _ A5))
 have HW5 := hide' hw5
 clear A5 hw5
 go_wp2_with fail
 rw [HW5.out]
 refine JC.out.mono ?_
 rintro e w6 ⟨g', cap', qs', t', rfl, hs, hj, hk⟩
 have FIN := hide' (show MiP mp born stay sb B g qs (n + 1) t w (.returned (.int .i32 (t' : Int))) w6 from by
  obtain ⟨ms, e1, l1⟩ := hj.one
  refine ⟨g', cap', qs', t', rfl, hs, ⟨ms, e1, l1⟩, hj.wf HK.out.st WV.out.1.1 WV.out.1.2 WV.out.2.1 WV.out.2.2, ?_, (KpS.of_below B5.out).trans hk⟩
  have a := fun i => grid_app HK.out.st HW.out ms i
  rw [← e1] at a
  refine mid_more ?_
  rw [a, a, a, a, HV.out.1, HV.out.2.1, HV.out.2.2.1, HV.out.2.2.2]
  exact hj.shows HK.out.st WV.out.1.1 WV.out.1.2 WV.out.2.1 WV.out.2.2)
 clear hs hj hk k0 k1 k2 k3
 go_wp2
 go_ret
 exact FIN.out
theorem middle_any (mp : Option (Nat × Nat)) (born stay sb B g cap : Nat) (qs : List Sq) (n t L : Nat) (w : World) (h : StkA w sb B g cap qs mp) (hB : B ≤ w.heap.size) (hn : qs.length ≤ 2000000) (hw : WFQ qs (n + 1) t) (hL : L = n + 4) :
  Calls Tryz.prog 119 #[.pointer (some ⟨sb, 0, none⟩), .int .i32 (t : Int), .int .i64 (L : Int)] w (MiP mp born stay sb B g qs n t w) := by
 cases n with
 | zero => subst hL; exact middle_least mp born stay sb B g cap qs t w h hB hn hw
 | succ m => exact middle_more mp born stay sb B g cap qs m t L w h hB hn hw (by omega)
structure LpK where
 lb : Nat
 sb : Nat
 B : Nat
 tb : Nat
 k : Nat
 most : Nat
 born : Nat
 stay : Nat
 p : Nat × Nat
 T : Nat → Nat
 on : Prop
 F : Int → Int → Int
 P : Nat
 R : Int
 D : Int
 bs : Nat
structure LpOk (c : LpK) : Prop where
 hT : TbE c.born c.stay c.T
 h0 : c.T 0 = 0
 hb : c.born % 2 = 0
 tb : c.tb < c.B
 hk : c.k ≤ 40
 hm : c.most ≤ 1000000
 per : c.on → PrF c.born c.stay c.F c.P c.R c.D
 fit : c.on → c.bs + 350001 ≤ c.most
def AwQ (c : LpK) (qs : List Sq) : Prop := c.on → ∀ u, c.bs ≤ u → u < qs.length → u ≠ 0 ∧ ∃ n, n ≤ 42 ∧ WFQ qs n u ∧ ∃ m a b, WnF c.born c.stay c.F qs n u m a b
def WtQ (c : LpK) (qs : List Sq) (n t : Nat) : Prop := c.on → ∃ m a b, WnF c.born c.stay c.F qs n t m a b
theorem WtQ.app {c : LpK} {qs : List Sq} (hS : StQ qs) {n t : Nat} (hw : WFQ qs n t) (h : WtQ c qs n t) (ms : List Sq) : WtQ c (qs ++ ms) n t := fun ho => by
 obtain ⟨m, a, b, q⟩ := h ho
 exact ⟨m, a, b, q.app hS hw ms⟩
theorem AwQ.grow {c : LpK} {qs ms : List Sq} (h : AwQ c qs) (hS : StQ qs) {t n : Nat} (e : ms.length ≤ 1) (ht : ms = [] ∨ t = qs.length) (hn : n ≤ 42) (hw : WFQ (qs ++ ms) n t) (hwn : WtQ c (qs ++ ms) n t) : AwQ c (qs ++ ms) := fun ho u h1 h2 => by
 by_cases q : u < qs.length
 ·obtain ⟨u0, n', hn', hw', m, a, b, q'⟩ := h ho u h1 q
  exact ⟨u0, n', hn', hw'.app ms, m, a, b, q'.app hS hw' ms⟩
 ·rw [List.length_append] at h2
  have eu : u = qs.length := by omega
  rcases ht with rfl | et
  ·simp at h2; omega
  ·have : u = t := by omega
   subst this
   exact ⟨by have := hS.1; omega, n, hn, hw, hwn ho⟩
def MemL (c : LpK) (qs : List Sq) (la : List Nat) : Prop := ∀ i, i < la.length → la.getD i 0 ≠ 0 → ∀ n, WFQ qs (n + 1) i → WFQ qs n (la.getD i 0 - 1) ∧ (qs.length ≤ c.most → LpS c.born c.stay c.k qs n i (la.getD i 0 - 1))
def laV (la : List Nat) : List Value := la.map fun (v : Nat) => .int .i32 (v : Int)
structure LpA (c : LpK) (w : World) (g cap : Nat) (qs : List Sq) (lv : Value) (la : List Nat) : Prop where
 ldr : w.heap[c.lb]? = some (.cells #[.pointer (some ⟨c.sb, 0, none⟩), .pointer (some ⟨c.tb, 0, none⟩), .int .i64 (c.k : Int), .int .i64 (pfE c.k : Int), .int .i64 (psE c.k : Int), .int .i64 (c.most : Int), lv] 129 (0, 0))
 stk : StkA w c.sb c.B g cap qs (some c.p)
 tab : TtA w c.tb c.T
 row : w.ownsRow c.B 21 1 lv la.length (laV la)
 le : c.B ≤ c.lb ∧ c.B ≤ w.heap.size
 len : la.length ≤ qs.length
 mem : MemL c qs la
 win : AwQ c qs
def KpT (V V' : World) : Prop := ∀ (k : Nat) (cs : Array Value) (ty : TypeId) (z : Nat × Nat), V.heap[k]? = some (.cells cs ty z) → ty ≠ 90 → ty ≠ 86 → ty ≠ 129 → ty ≠ 21 → V'.heap[k]? = some (.cells cs ty z)
theorem KpT.refl (V : World) : KpT V V := fun _ _ _ _ h _ _ _ _ => h
theorem KpT.trans {U V W : World} (h : KpT U V) (k : KpT V W) : KpT U W := fun i cs ty z e a b c d => k i cs ty z (h i cs ty z e a b c d) a b c d
theorem KpT.of_below {V V' : World} (h : Below V.heap.size V V') : KpT V V' := fun i cs ty z e _ _ _ _ => (h.block i (lt_of_block e)).trans e
theorem KpS.ty {sb B g g' cap : Nat} {V V' : World} {mp : Option (Nat × Nat)} {qs : List Sq} (h : KpS sb g g' V V' mp) (hs : StkA V sb B g cap qs mp) {i : Nat} {cs : Array Value} {ty : TypeId} {z : Nat × Nat} (e : V.heap[i]? = some (.cells cs ty z)) (a : ty ≠ 90) (b : ty ≠ 86) : V'.heap[i]? = some (.cells cs ty z) := by
 have n := hs.ne_four e a b
 exact (h.keepM i (lt_of_block e) n.1 n.2 (hs.nomap e)).trans e
theorem KpS.kpt {sb B g g' cap : Nat} {V V' : World} {mp : Option (Nat × Nat)} {qs : List Sq} (h : KpS sb g g' V V' mp) (hs : StkA V sb B g cap qs mp) : KpT V V' := fun i cs ty z e a b _ _ => h.ty hs e a b
theorem KpS.bel {sb B g g' cap : Nat} {V V' : World} {mp : Option (Nat × Nat)} {qs : List Sq} (h : KpS sb g g' V V' mp) (hs : StkA V sb B g cap qs mp) (hB : B ≤ V.heap.size) : Below B V V' := h.belowM hs.le hs.rowB.1 hB (fun k e => hs.map.ge e)
theorem WFQ.back {qs : List Sq} (hL : LvQ qs) (ms : List Sq) : ∀ {n t : Nat}, t < qs.length → WFQ (qs ++ ms) n t → WFQ qs n t
 | 0, t, ht, h => by
  rcases h with h | ⟨_, h⟩
  ·exact Or.inl h
  ·rw [sqA_old ht] at h
   exact Or.inr ⟨ht, h⟩
 | n + 1, t, ht, h => by
  rcases h with h | ⟨_, h1, h2, a, b, c, d⟩
  ·exact Or.inl h
  ·rw [sqA_old ht] at h1 h2 a b c d
   obtain ⟨_, _, la, lb, lc, ld⟩ := hL.2 t ht
   exact Or.inr ⟨ht, h1, h2, a.back hL ms la, b.back hL ms lb, c.back hL ms lc, d.back hL ms ld⟩
theorem MemL.app {c : LpK} {qs : List Sq} {la : List Nat} (h : MemL c qs la) (hS : StQ qs) (hL : LvQ qs) (hl : la.length ≤ qs.length) (ms : List Sq) : MemL c (qs ++ ms) la := fun i hi h0 n hw => by
 have w := hw.back hL ms (Nat.lt_of_lt_of_le hi hl)
 obtain ⟨a, b⟩ := h i hi h0 n w
 exact ⟨a.app ms, fun q => (b (by rw [List.length_append] at q; omega)).app hS w a ms⟩
theorem MemL.more {c : LpK} {qs : List Sq} {la : List Nat} (h : MemL c qs la) : MemL c qs (la ++ [0]) := fun i hi h0 n hw => by
 have e : (la ++ [0]).getD i 0 = la.getD i 0 := by
  by_cases q : i < la.length
  ·simp [List.getD_eq_getElem?_getD, List.getElem?_append_left q]
  ·have : i = la.length := by simp at hi; omega
   subst this
   simp [List.getD_eq_getElem?_getD]
 rw [e] at h0 ⊢
 by_cases q : i < la.length
 ·exact h i q h0 n hw
 ·exact absurd (by simp [List.getD_eq_getElem?_getD, List.getElem?_eq_none (by omega : la.length ≤ i)]) h0
theorem MemL.put {c : LpK} {qs : List Sq} {la : List Nat} (h : MemL c qs la) {t t' n : Nat} (t0 : t ≠ 0) (hw : WFQ qs (n + 1) t) (h1 : WFQ qs n t') (h2 : qs.length ≤ c.most → LpS c.born c.stay c.k qs n t t') : MemL c qs (la.set t (t' + 1)) := fun i hi h0 m hm => by
 rw [List.length_set] at hi
 by_cases e : i = t
 ·subst e
  have g : (la.set i (t' + 1)).getD i 0 = t' + 1 := by simp [List.getD_eq_getElem?_getD, List.getElem?_set_self hi]
  rw [g, Nat.add_sub_cancel]
  have := WFQ.level t0 hw hm
  obtain rfl : n = m := by omega
  exact ⟨h1, h2⟩
 ·have g : (la.set t (t' + 1)).getD i 0 = la.getD i 0 := by simp [List.getD_eq_getElem?_getD, List.getElem?_set_ne (fun q => e q.symm)]
  rw [g] at h0 ⊢
  exact h i hi h0 m hm
theorem TtA.keepB {w w' : World} {B tb : Nat} {T : Nat → Nat} (h : TtA w tb T) (hb : Below B w w') (ht : tb < B) : TtA w' tb T := ⟨fun i hi => (World.cell?_of_block (a := ⟨tb, i, none⟩) (hb.block tb ht)).trans (h.cell i hi), h.low⟩
theorem own_rowB {w w' : World} {B : Nat} {e : TypeId} {m n : Nat} {v : Value} {xs : List Value} (h : w.ownsRow B e m v n xs) (hk : ∀ g, v.ownBlock = some g → w'.heap[g]? = w.heap[g]?) : w'.ownsRow B e m v n xs := by
 refine ⟨h.1, ?_⟩
 rcases h.2 with q | ⟨g, cap, cur, rfl, hb, hh, r⟩
 ·exact Or.inl q
 ·exact Or.inr ⟨g, cap, cur, rfl, hb, (hk g rfl).trans hh, r⟩
theorem own_blk {w : World} {B : Nat} {e : TypeId} {m n : Nat} {v : Value} {xs : List Value} (h : w.ownsRow B e m v n xs) {g : Nat} (hg : v.ownBlock = some g) : B ≤ g ∧ ∃ cur, w.heap[g]? = some (.cells cur e (0, 0)) := by
 rcases h.2 with ⟨rfl, _⟩ | ⟨g', cap, cur, rfl, hb, hh, r⟩
 ·cases hg
 ·injection hg with hg
  subst hg
  exact ⟨hb, cur, hh⟩
theorem LpA.grown {c : LpK} (ok : LpOk c) {w w' : World} {g cap g' cap' : Nat} {qs qs' : List Sq} {lv : Value} {la : List Nat} (h : LpA c w g cap qs lv la) (hs : StkA w' c.sb c.B g' cap' qs' (some c.p)) (hk : KpS c.sb g g' w w' (some c.p)) (he : ∃ ms, qs' = qs ++ ms) (hwin : AwQ c qs') : LpA c w' g' cap' qs' lv la := by
 obtain ⟨ms, rfl⟩ := he
 refine ⟨hk.ty h.stk h.ldr (by decide) (by decide), hs, h.tab.keepB (hk.bel h.stk h.le.2) ok.tb, own_rowB h.row (fun g0 e => ?_), ⟨h.le.1, Nat.le_trans h.le.2 hk.size⟩, by rw [List.length_append]; have := h.len; omega, h.mem.app h.stk.st h.stk.lv h.len ms, hwin⟩
 obtain ⟨_, cur, e2⟩ := own_blk h.row e
 exact (hk.ty h.stk e2 (by decide) (by decide)).trans e2.symm
theorem LpA.below {c : LpK} (ok : LpOk c) {w w' : World} {g cap : Nat} {qs : List Sq} {lv : Value} {la : List Nat} (h : LpA c w g cap qs lv la) (hb : Below w.heap.size w w') : LpA c w' g cap qs lv la :=
 h.grown ok (h.stk.below hb) (KpS.of_below hb) ⟨[], by simp⟩ h.win
theorem LpA.set {c : LpK} (ok : LpOk c) {w : World} {g cap : Nat} {qs : List Sq} {lv : Value} {la : List Nat} (h : LpA c w g cap qs lv la) {q i : Nat} {cs : Array Value} {ty : TypeId} {z : Nat × Nat} (e : w.heap[q]? = some (.cells cs ty z)) (a : ty ≠ 90) (b : ty ≠ 86) (d : ty ≠ 129) (f : ty ≠ 21) (hq : c.B ≤ q) (v : Value) : LpA c (w.setCell ⟨q, i, none⟩ v) g cap qs lv la := by
 have n := h.stk.ne_four e a b
 have o : ∀ k, k ≠ q → (w.setCell ⟨q, i, none⟩ v).heap[k]? = w.heap[k]? := fun k hk => Below.heap_setCell _ _ _ _ hk
 have l : c.lb ≠ q := fun e2 => by
  have := h.ldr
  rw [e2, e] at this
  injection this with this
  injection this with _ this
  exact d this
 refine ⟨(o _ l).trans h.ldr, h.stk.setM n.1 n.2 (h.stk.nomap e) v, ⟨fun j hj => (World.cell?_of_block (a := ⟨c.tb, j, none⟩) (o c.tb (by have := ok.tb; omega))).trans (h.tab.cell j hj), h.tab.low⟩, own_rowB h.row (fun g0 e2 => o _ fun e3 => ?_), ⟨h.le.1, by rw [World.size_setCell]; exact h.le.2⟩, h.len, h.mem, h.win⟩
 obtain ⟨_, cur, e4⟩ := own_blk h.row e2
 rw [e3, e] at e4
 injection e4 with e4
 injection e4 with _ e4
 exact f e4
theorem LpA.drew {c : LpK} {w : World} {g cap : Nat} {qs : List Sq} {lv : Value} {la : List Nat} (h : LpA c w g cap qs lv la) : LpA c w.drew g cap qs lv la := ⟨h.ldr, h.stk.drewS, ⟨h.tab.cell, h.tab.low⟩, h.row, h.le, h.len, h.mem, h.win⟩
theorem LpA.few {c : LpK} (ok : LpOk c) {w : World} {g cap : Nat} {qs : List Sq} {lv : Value} {la : List Nat} (h : LpA c w g cap qs lv la) (ho : c.on) : qs.length ≤ c.bs + 350000 ∧ qs.length ≤ c.most := by
 have := few_sq (ok.per ho) h.stk.st h.stk.map.2.2.2 (h.win ho)
 exact ⟨this, by have := ok.fit ho; omega⟩
set_option maxRecDepth 100000 in
set_option maxHeartbeats 3200000 in
theorem isFull_any (c : LpK) (g cap : Nat) (qs : List Sq) (lv : Value) (la : List Nat) (w : World) (h : LpA c w g cap qs lv la) :
  Calls Tryz.prog 60 #[.pointer (some ⟨c.lb, 0, none⟩)] w fun e w' => e = .returned (.bool (decide (c.most < qs.length))) ∧ ∃ q, w' = w.drewN q := by
 have x0 := cell_of_row w c.lb 0 _ _ _ h.ldr
 have x5 := cell_of_row w c.lb 5 _ _ _ h.ldr
 have c0 := h.stk.c0
 simp at x0 x5
 obtain ⟨lb, hlb⟩ : ∃ l, c.lb = l := ⟨_, rfl⟩
 obtain ⟨sb, hsb⟩ : ∃ l, c.sb = l := ⟨_, rfl⟩
 obtain ⟨most, hmost⟩ : ∃ l, c.most = l := ⟨_, rfl⟩
 obtain ⟨n, hn⟩ : ∃ l, qs.length = l := ⟨_, rfl⟩
 rw [hlb] at x0 x5
 rw [hsb] at x0 c0
 rw [hmost] at x5
 rw [hn] at c0
 rw [hlb, hmost, hn]
 clear h hlb hsb hmost hn
 by_cases q : most < n
 ·have q1 : (most : Int) < (n : Int) := by omega
  have D := hide' (decide_eq_true q)
  clear q
  go_enter Tryz.func60, Tryz.ntmps60
  go_upto_region 1 with fail
  go_quiet (fail)
  go_wp2
  go_ret
  exact ⟨by rw [D.out]; rfl, _, rfl⟩
 ·have q1 : ¬ (most : Int) < (n : Int) := by omega
  have D := hide' (decide_eq_false q)
  clear q
  go_enter Tryz.func60, Tryz.ntmps60
  go_upto_region 1 with fail
  go_quiet (fail)
  go_wp2
  go_ret
  exact ⟨by rw [D.out]; rfl, _, rfl⟩
end Go.Proofs.YtemhcpldflcfbaaGreatDoor
