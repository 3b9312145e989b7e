/-
  What the last text of this claim leans on, part 29: Hk5, Hk6, Hk7, Hk8.
-/
import Derived.Test.YtemhcpldflcfbaaGreatDoorYf28
import Derived.Test.YtemhcpldflcfbaaGreatDoorYf24
namespace Go.Proofs.YtemhcpldflcfbaaGreatDoor
open Go.RowKit
set_option linter.unusedVariables false
def LkP (c : LpK) (M : Nat) (qs : List Sq) (la : List Nat) (n t : Nat) (w : World) (e : Ending) (w' : World) : Prop :=
 ∃ g' cap' qs' lv' la' t', e = .returned (.int .i32 ((t' : Nat) : Int)) ∧ LpA c w' g' cap' qs' lv' la' ∧ ((∃ ms, qs' = qs ++ ms) ∧ qs'.length ≤ M ∧ la.length ≤ la'.length) ∧ WFQ qs' n t' ∧ (qs'.length ≤ c.most → LpS c.born c.stay c.k qs' n t t') ∧ Below c.B w w' ∧ KpT w w'
def LookC (n : Nat) : Prop := ∀ (c : LpK) (ok : LpOk c) (g cap : Nat) (qs : List Sq) (lv : Value) (la : List Nat) (t L : Nat) (w : World), LpA c w g cap qs lv la → qs.length ≤ c.most → WFQ qs (n + 1) t → L = n + 4 → n ≤ 41 → WtQ c qs (n + 1) t → (c.on → n + 1 ≤ c.k) →
  Calls Tryz.prog 96 #[.pointer (some ⟨c.lb, 0, none⟩), .int .i32 (t : Int), .int .i64 (L : Int)] w (LkP c (c.most + 18 * (n + 1)) qs la n t w)
def AheadC (n : Nat) : Prop := ∀ (c : LpK) (ok : LpOk c) (g cap : Nat) (qs : List Sq) (lv : Value) (la : List Nat) (t L : Nat) (w : World), LpA c w g cap qs lv la → WFQ qs (n + 1) t → L = n + 4 → n ≤ 41 → WtQ c qs (n + 1) t → (c.on → n + 1 ≤ c.k) →
  Calls Tryz.prog 59 #[.pointer (some ⟨c.lb, 0, none⟩), .int .i32 (t : Int), .int .i64 (L : Int)] w (LkP c (max qs.length (c.most + 18 * (n + 1))) qs la n t w)
theorem LpA.drewN {c : LpK} {w : World} {g cap : Nat} {qs : List Sq} {lv : Value} {la : List Nat} (ok : LpOk c) (h : LpA c w g cap qs lv la) (q : Nat) : LpA c (w.drewN q) g cap qs lv la := h.below ok (below_drewN (Below.refl _ _) q)
def lenW (lb : Nat) (w : World) : Nat := match w.cell? ⟨lb, 6, none⟩ with
 | some (.slice _ n _) => n
 | _ => 0
theorem own_slice {w : World} {B : Nat} {e : TypeId} {m n : Nat} {v : Value} {xs : List Value} (h : w.ownsRow B e m v n xs) : ∃ a c, v = .slice a n c := by
 rcases h.2 with ⟨rfl, rfl⟩ | ⟨g, cap, cur, rfl, _⟩
 ·exact ⟨_, _, rfl⟩
 ·exact ⟨_, _, rfl⟩
theorem LpA.lenW {c : LpK} {w : World} {g cap : Nat} {qs : List Sq} {lv : Value} {la : List Nat} (h : LpA c w g cap qs lv la) : Go.Proofs.YtemhcpldflcfbaaGreatDoor.lenW c.lb w = la.length := by
 obtain ⟨a, d, rfl⟩ := own_slice h.row
 have := cell_of_row w c.lb 6 _ _ _ h.ldr
 simp at this
 unfold Go.Proofs.YtemhcpldflcfbaaGreatDoor.lenW
 rw [this]
theorem laV_len (la : List Nat) : (laV la).length = la.length := by unfold laV; simp
theorem laV_get {la : List Nat} {i : Nat} (h : i < la.length) : (laV la)[i]? = some (.int .i32 (la.getD i 0 : Int)) := by unfold laV; simp [List.getD_eq_getElem?_getD, h]
theorem laV_set (la : List Nat) (i v : Nat) : laV (la.set i v) = (laV la).set i (.int .i32 (v : Int)) := by unfold laV; simp [List.map_set]
theorem LpA.noted {c : LpK} (ok : LpOk c) {w U : World} {g cap : Nat} {qs : List Sq} {lv : Value} {la : List Nat} (h : LpA c w g cap qs lv la) {o : Obj} {gg cap' : Nat} (hown : U.ownsRow c.B 21 1 (.slice (some ⟨gg, 0, none⟩) (la.length + 1) cap') (la.length + 1) (laV la ++ [.int .i32 0])) (hgr : (w.alloc o).grownBy U lv.ownBlock) (hlt : la.length < qs.length) : LpA c (U.setCell ⟨c.lb, 6, none⟩ (.slice (some ⟨gg, 0, none⟩) (la.length + 1) cap')) g cap qs (.slice (some ⟨gg, 0, none⟩) (la.length + 1) cap') (la ++ [0]) ∧ Below c.B w (U.setCell ⟨c.lb, 6, none⟩ (.slice (some ⟨gg, 0, none⟩) (la.length + 1) cap')) ∧ KpT w (U.setCell ⟨c.lb, 6, none⟩ (.slice (some ⟨gg, 0, none⟩) (la.length + 1) cap')) := by
 have keep : ∀ (k : Nat) (cs : Array Value) (ty : TypeId) (z : Nat × Nat), w.heap[k]? = some (.cells cs ty z) → ty ≠ 21 → U.heap[k]? = w.heap[k]? := fun k cs ty z e ht => by
  refine (hgr.block k (by simp; have := lt_of_block e; omega) (fun q => ?_)).trans (heap_alloc_old _ _ (lt_of_block e))
  obtain ⟨_, cur, e2⟩ := own_blk h.row q.symm
  rw [e] at e2
  injection e2 with e2
  injection e2 with _ e2
  exact ht e2
 have keepB : ∀ k, k < c.B → U.heap[k]? = w.heap[k]? := fun k hk => by
  have hB := h.le.2
  refine (hgr.block k (by simp; omega) (fun q => ?_)).trans (heap_alloc_old _ _ (by omega))
  obtain ⟨hb, _⟩ := own_blk h.row q.symm
  omega
 obtain ⟨-, -, cur, ec, -, -⟩ := h.stk.rowB
 have ksb := keep _ _ _ _ h.stk.blkM (by decide)
 have kg := keep _ _ _ _ ec (by decide)
 have kl := keep _ _ _ _ h.ldr (by decide)
 have km : ∀ k, mpB (some c.p) k → U.heap[k]? = w.heap[k]? := fun k q => by
  obtain ⟨es, cl, em⟩ := h.stk.map.isMap q
  refine (hgr.block k (by simp; have := h.stk.map.lt q; omega) (fun q2 => ?_)).trans (heap_alloc_old _ _ (h.stk.map.lt q))
  obtain ⟨_, cur, e2⟩ := own_blk h.row q2.symm
  rw [em] at e2
  cases e2
 have nl : gg ≠ c.lb := fun e => by
  rcases hown.2 with ⟨q, _⟩ | ⟨g', cap2, cur, e2, _, hh, _⟩
  ·cases q
  ·injection e2 with e2
   injection e2 with e2
   injection e2 with e2
   subst e2
   rw [e, kl, h.ldr] at hh
   injection hh with hh
   injection hh with _ hh
   exact absurd hh (by decide)
 have ls := h.stk.ne_four h.ldr (by decide) (by decide)
 have o2 : ∀ k, k ≠ c.lb → (U.setCell ⟨c.lb, 6, none⟩ (.slice (some ⟨gg, 0, none⟩) (la.length + 1) cap')).heap[k]? = U.heap[k]? := fun k hk => Below.heap_setCell _ _ _ _ hk
 have os : U.os = w.os := hgr.os
 have sz : w.heap.size ≤ U.heap.size := by have := hgr.size; simp at this; omega
 refine ⟨⟨?_, h.stk.keepM ((o2 _ (fun e => ls.1 e.symm)).trans ksb) ((o2 _ (fun e => ls.2 e.symm)).trans kg) (fun k q => (o2 _ (fun e => h.stk.nomap h.ldr (by rw [← e]; exact q))).trans (km k q)), ?_, ?_, ⟨h.le.1, by rw [World.size_setCell]; have := h.le.2; omega⟩, by simp; omega, h.mem.more, h.win⟩, ⟨hgr.os, hgr.tape, hgr.output, by rw [World.size_setCell]; exact sz, fun k hk => (o2 k (by have := h.le.1; omega)).trans (keepB k hk)⟩, fun k cs ty z e a b d f => (o2 k (fun q => ?_)).trans ((keep k cs ty z e f).trans e)⟩
 ·rw [heap_setCell_same _ _ _ _ _ _ (kl.trans h.ldr)]; rfl
 ·exact ⟨fun j hj => (World.cell?_of_block (a := ⟨c.tb, j, none⟩) ((o2 c.tb (by have := ok.tb; have := h.le.1; omega)).trans (keepB _ ok.tb))).trans (h.tab.cell j hj), h.tab.low⟩
 ·have e1 : (la ++ [0]).length = la.length + 1 := by simp
  have e2 : laV (la ++ [0]) = laV la ++ [.int .i32 0] := by unfold laV; simp
  rw [e1, e2]
  exact own_rowB hown (fun g0 q => by
   injection q with q
   exact o2 _ (by rw [← q]; exact nl))
 ·rw [q, h.ldr] at e
  injection e with e
  injection e with _ e
  exact d e.symm
theorem LpA.note {c : LpK} (ok : LpOk c) {w : World} {g cap : Nat} {qs : List Sq} {la : List Nat} {lg lc : Nat} (h : LpA c w g cap qs (.slice (some ⟨lg, 0, none⟩) la.length lc) la) {t t' n : Nat} (t0 : t ≠ 0) (ht : t < la.length) (hw : WFQ qs (n + 1) t) (h1 : WFQ qs n t') (h2 : qs.length ≤ c.most → LpS c.born c.stay c.k qs n t t') : LpA c (w.setCell ⟨lg, t, none⟩ (.int .i32 ((t' + 1 : Nat) : Int))) g cap qs (.slice (some ⟨lg, 0, none⟩) (la.set t (t' + 1)).length lc) (la.set t (t' + 1)) ∧ Below c.B w (w.setCell ⟨lg, t, none⟩ (.int .i32 ((t' + 1 : Nat) : Int))) ∧ KpT w (w.setCell ⟨lg, t, none⟩ (.int .i32 ((t' + 1 : Nat) : Int))) := by
 have e1 : (la.set t (t' + 1)).length = la.length := by simp
 rcases h.row.2 with ⟨q, _⟩ | ⟨g', cap2, cur, e2, hb, hh, h5, h6, h7, h8⟩
 ·cases q
 ·injection e2 with e2 _ e3
  injection e2 with e2
  injection e2 with e2
  subst e2
  subst e3
  have o2 : ∀ k, k ≠ lg → (w.setCell ⟨lg, t, none⟩ (.int .i32 ((t' + 1 : Nat) : Int))).heap[k]? = w.heap[k]? := fun k hk => Below.heap_setCell _ _ _ _ hk
  have ne : ∀ {k : Nat} {cs : Array Value} {ty : TypeId} {z : Nat × Nat}, w.heap[k]? = some (.cells cs ty z) → ty ≠ 21 → k ≠ lg := fun e f q => by
   rw [q, hh] at e
   injection e with e
   injection e with _ e
   exact f e.symm
  obtain ⟨-, -, cu, ec, -, -⟩ := h.stk.rowB
  have len : la.length ≤ qs.length := h.len
  rw [e1]
  refine ⟨⟨(o2 _ (ne h.ldr (by decide))).trans h.ldr, h.stk.keepM (o2 _ (ne h.stk.blkM (by decide))) (o2 _ (ne ec (by decide))) (fun k q => o2 k (fun e => ?_)), ⟨fun j hj => (World.cell?_of_block (a := ⟨c.tb, j, none⟩) (o2 c.tb (by have := ok.tb; omega))).trans (h.tab.cell j hj), h.tab.low⟩, ?_, ⟨h.le.1, by rw [World.size_setCell]; exact h.le.2⟩, by rw [e1]; exact len, h.mem.put t0 hw h1 h2, h.win⟩, ⟨rfl, rfl, rfl, by rw [World.size_setCell]; exact Nat.le_refl _, fun k hk => o2 k (by omega)⟩, fun k cs ty z e a b d f => (o2 k (ne e f)).trans e⟩
  ·obtain ⟨es, cl, em⟩ := h.stk.map.isMap q
   rw [e, hh] at em
   cases em
  ·rw [e1, laV_set]
   refine ⟨by simp [laV_len], Or.inr ⟨lg, lc, cur.setIfInBounds t (.int .i32 ((t' + 1 : Nat) : Int)), rfl, hb, heap_setCell_same _ _ _ _ _ _ hh, h5, h6, by rw [Array.size_setIfInBounds]; exact h7, ?_⟩⟩
   rw [Array.toList_setIfInBounds, List.take_set, h8]
theorem LpA.kl {c : LpK} {w U : World} {g cap : Nat} {qs : List Sq} {lv : Value} {la : List Nat} (h : LpA c w g cap qs lv la) {o : Obj} (hgr : (w.alloc o).grownBy U lv.ownBlock) : U.heap[c.lb]? = w.heap[c.lb]? := by
 refine (hgr.block c.lb (by simp; have := lt_of_block h.ldr; omega) (fun q => ?_)).trans (heap_alloc_old _ _ (lt_of_block h.ldr))
 obtain ⟨_, cur, e2⟩ := own_blk h.row q.symm
 rw [h.ldr] at e2
 injection e2 with e2
 injection e2 with _ e2
 exact absurd e2 (by decide)
theorem one_new (w : World) (ty : TypeId) (u : Value) : ∀ j x, ([u] : List Value)[j]? = some x → (w.alloc (.cells #[u] ty)).cell? ((⟨w.heap.size, 0, none⟩ : Addr).add j) = some x := World.news_of_block (cs := #[u]) (heap_alloc_new w _)
theorem info_32 : (Tryz.prog.info? 21).map (fun i => (i.zero, i.size, i.bytes)) = some (some (.int .i32 0), 1, 4) := by kernel_rfl
theorem LpA.row_at {c : LpK} {w : World} {g cap : Nat} {qs : List Sq} {la : List Nat} {la0 : Option Addr} {m lc : Nat} (h : LpA c w g cap qs (.slice la0 m lc) la) {t : Nat} (ht : t < la.length) : ∃ lg, la0 = some ⟨lg, 0, none⟩ ∧ m = la.length ∧ w.cell? ⟨lg, t, none⟩ = some (.int .i32 ((la.getD t 0 : Nat) : Int)) ∧ w.frozen? ⟨lg, t, none⟩ = false := by
 rcases h.row.2 with ⟨_, q⟩ | ⟨lg, cap2, cur, e2, hb, hh, h5, h6, h7, h8⟩
 ·omega
 ·injection e2 with e2 e3 e4
  refine ⟨lg, e2, e3, ?_, frozen_of_row _ _ _ _ _ hh⟩
  have := laV_get ht
  rw [← h8, List.getElem?_take_of_lt (by omega)] at this
  rw [cell_of_row w lg t cur _ _ hh, ← this]
  simp
set_option maxRecDepth 100000 in
set_option maxHeartbeats 6400000 in
theorem ahead_of (n : Nat) (ih : LookC n) : AheadC n := by
 intro c ok g cap qs lv la t L w h hw hL hn hwt hkk
 have WTK := hide' (And.intro hwt hkk)
 clear hwt hkk
 have HK := hide' h
 have HW := hide' hw
 have HOK := hide' ok
 have HL := hide' (And.intro hL hn)
 obtain ⟨lb, hlb⟩ : ∃ l, c.lb = l := ⟨_, rfl⟩
 have HLB := hide' hlb
 have FC := hide' (isFull_any c g cap qs lv la w h)
 rw [hlb] at FC ⊢
 by_cases t0 : t = 0
 ·subst t0
  have FIN := hide' (show LkP c (max qs.length (c.most + 18 * (n + 1))) qs la n 0 w (.returned (.int .i32 0)) w from ⟨g, cap, qs, lv, la, 0, rfl, h, ⟨⟨[], by simp⟩, by omega, Nat.le_refl _⟩, WFQ.nil _ _, fun _ => LpS.nil ok.hb h.stk.st, Below.refl _ _, KpT.refl _⟩)
  clear h hw hL hn hlb ok
  go_enter Tryz.func59, Tryz.ntmps59
  go_wp2
  go_ret
  exact FIN.out
 ·have z0 : ((t : Int) == 0) = false := by simp; omega
  have T0 := hide' t0
  by_cases full : c.most < qs.length
  ·rw [decide_eq_true full] at FC
   have FIN := hide' (fun q => show LkP c (max qs.length (c.most + 18 * (n + 1))) qs la n t w (.returned (.int .i32 0)) (w.drewN q) from ⟨g, cap, qs, lv, la, 0, rfl, h.drewN ok q, ⟨⟨[], by simp⟩, by omega, Nat.le_refl _⟩, WFQ.nil _ _, fun q => absurd q (by omega), (below_drewN (Below.refl _ _) q), KpT.of_below (below_drewN (Below.refl _ _) q)⟩)
   clear h hw hL hn hlb ok t0 full
   go_enter Tryz.func59, Tryz.ntmps59
   go_wp2_with fail
   refine FC.out.mono ?_
   rintro e w2 ⟨rfl, q, rfl⟩
   go_wp2
   go_ret
   exact FIN.out q
  ·rw [decide_eq_false full] at FC
   have NF := hide' full
   clear h hw hL hn hlb ok t0 full
   go_enter Tryz.func59, Tryz.ntmps59
   go_wp2_with fail
   refine FC.out.mono ?_
   rintro e w2 ⟨rfl, q, hq⟩
   have H2 := hide' (show LpA c w2 g cap qs lv la by rw [hq]; exact HK.out.drewN HOK.out q)
   have B2 := hide' (show Below w.heap.size w w2 by rw [hq]; exact below_drewN (Below.refl _ _) q)
   obtain ⟨sb, hsb⟩ : ∃ l, c.sb = l := ⟨_, rfl⟩
   obtain ⟨qn, hqn⟩ : ∃ l, qs.length = l := ⟨_, rfl⟩
   have HSB := hide' hsb
   have HQN := hide' hqn
   have BT2 := hide' (show Below c.B w w2 ∧ KpT w w2 from ⟨B2.out.mono HK.out.le.2, KpT.of_below B2.out⟩)
   obtain ⟨i0, hi0, hz0, hz1, hz2⟩ := info_parts info_32
   clear hq hsb hqn
   go_wp2
   go_loopw [27] (fun _ wr => ∃ (lv' : Value) (la' : List Nat), Hid (LpA c wr g cap qs lv' la') ∧ Hid (la.length ≤ la'.length) ∧ Hid (Below c.B w wr ∧ KpT w wr)) (fun _ wr => qn - lenW lb wr)
   case atStart => exact ⟨lv, la, H2, hide' (Nat.le_refl _), BT2⟩
   case round =>
    obtain ⟨lv', la', HA, HLE, HBT⟩ := hrel
    obtain ⟨la0, lc0, elv⟩ := own_slice HA.out.row
    subst elv
    have x0 := cell_of_row wr lb 0 _ _ _ (by rw [← HLB.out]; exact HA.out.ldr)
    have x6 := cell_of_row wr lb 6 _ _ _ (by rw [← HLB.out]; exact HA.out.ldr)
    have f6 := frozen_of_row wr lb 6 _ _ (by rw [← HLB.out]; exact HA.out.ldr)
    have c0 := HA.out.stk.c0
    simp at x0 x6
    rw [HSB.out] at x0 c0
    rw [HQN.out] at c0
    obtain ⟨ln, hln⟩ : ∃ l, la'.length = l := ⟨_, rfl⟩
    have HLN := hide' hln
    rw [hln] at x6
    by_cases lt : ln < qn
    ·have lt1 : (ln : Int) < (qn : Int) := by omega
     have LT := hide' lt
     have QB := hide' (show qn ≤ 1000000 by have := HOK.out.hm; have := NF.out; have := HQN.out; omega)
     have AN := hide' (fun (U : World) (gg cap' : Nat) (hown : U.ownsRow c.B 21 1 (.slice (some ⟨gg, 0, none⟩) (ln + 1) cap') (ln + 1) (laV la' ++ [.int .i32 0])) (hgr : (wr.drew.alloc (.cells #[.int .i32 0] 21)).grownBy U (Value.slice la0 ln lc0).ownBlock) => show (LpA c (U.setCell ⟨lb, 6, none⟩ (.slice (some ⟨gg, 0, none⟩) (ln + 1) cap')) g cap qs (.slice (some ⟨gg, 0, none⟩) (ln + 1) cap') (la' ++ [0]) ∧ Below c.B wr.drew (U.setCell ⟨lb, 6, none⟩ (.slice (some ⟨gg, 0, none⟩) (ln + 1) cap')) ∧ KpT wr.drew (U.setCell ⟨lb, 6, none⟩ (.slice (some ⟨gg, 0, none⟩) (ln + 1) cap'))) ∧ U.heap[lb]? = wr.heap[lb]? from by
      have hA : LpA c wr.drew g cap qs (.slice la0 ln lc0) la' := by have := HA.out.drew; rw [hln] at this; exact this
      have a := hA.noted HOK.out (by rw [hln]; exact hown) hgr (by rw [hln, HQN.out]; exact lt)
      have b := hA.kl hgr
      rw [hln, HLB.out] at a
      rw [HLB.out] at b
      exact ⟨a, b⟩)
     have OW := hide' (show wr.drew.ownsRow c.B 21 1 (.slice la0 ln lc0) ln (laV la') by have := HA.out.drew.row; rw [hln] at this; exact this)
     have WB := hide' HA.out.le.2
     have LDR := hide' (show wr.heap[lb]? = some (.cells #[.pointer (some ⟨c.sb, 0, none⟩), .pointer (some ⟨c.tb, 0, none⟩), .int .i64 (c.k : Int), .int .i64 (pfE c.k : Int), .int .i64 (psE c.k : Int), .int .i64 (c.most : Int), .slice la0 la'.length lc0] 129 (0, 0)) by rw [← HLB.out]; exact HA.out.ldr)
     clear hln lt
     go_wp2
     go_region
     go_wp2_with (at_builtin; go_loud (refine wpList_append_lies _ rfl _ _ 127 rfl c.B 21 i0 (.int .i32 0) 1 4 Tryz.underlying127 hi0 hz0 hz1 hz2 rfl (by decide) (.slice la0 ln lc0) ln (laV la') rfl (OW.out.alloc _) ⟨wr.drew.heap.size, 0, none⟩ 1 1 [.int .i32 0] rfl rfl (one_new _ _ _) (fun u hu => by simp at hu; rw [hu]; rfl) (by omega) (by unfold maxLen; have := QB.out; have := LT.out; omega) (by have := QB.out; have := LT.out; omega) (by simp; have := WB.out; omega) (wr.drew.heap.size + 1) (by simp) ?_; intro g5 cap5 w5 hown hgr hat hlt; obtain ⟨AN1, AN2⟩ := AN.out w5 g5 cap5 hown hgr; have y6 := cell_of_row w5 lb 6 _ _ _ (AN2.trans LDR.out); have k6 := frozen_of_row w5 lb 6 _ _ (AN2.trans LDR.out); simp at y6; go_frame))
     exact ⟨⟨_, la' ++ [0], hide' AN1.1, hide' (by have := HLE.out; simp; omega), hide' ⟨HBT.out.1.trans (by have := AN1.2.1; exact ⟨this.os, this.tape, this.output, this.size, this.block⟩), HBT.out.2.trans (by have := AN1.2.2; exact this)⟩⟩, by
      have a1 := AN1.1.lenW
      have a2 := HA.out.lenW
      rw [HLB.out] at a1 a2
      rw [a1, a2]
      have := LT.out
      have := HLN.out
      simp; omega⟩
    ·have lt1 : ¬ (ln : Int) < (qn : Int) := by omega
     have TL := hide' (show t < la'.length by have := HW.out.lt HK.out.stk.st; have := HQN.out; have := HLN.out; omega)
     obtain ⟨lg, rfl, -, cv, fv⟩ := HA.out.row_at TL.out
     have AD := hide' (show LpA c wr.drew g cap qs (.slice (some ⟨lg, 0, none⟩) ln lc0) la' by have := HA.out.drew; rw [hln] at this; exact this)
     have BD := hide' (show Below c.B w wr.drew ∧ KpT w wr.drew from ⟨HBT.out.1.drew, HBT.out.2⟩)
     have QB := hide' (show qn ≤ 1000000 by have := HOK.out.hm; have := NF.out; have := HQN.out; omega)
     have t1 : (t : Int) < (ln : Int) := by have := TL.out; omega
     obtain ⟨v, hv⟩ : ∃ v, la'.getD t 0 = v := ⟨_, rfl⟩
     rw [hv] at cv
     by_cases v0 : v = 0
     ·subst v0
      have cv0 : wr.cell? ⟨lg, t, none⟩ = some (.int .i32 0) := cv
      have LC := hide' (ih c HOK.out g cap qs (.slice (some ⟨lg, 0, none⟩) ln lc0) la' t L wr.drew AD.out (by have := NF.out; omega) HW.out HL.out.1 HL.out.2 WTK.out.1 WTK.out.2)
      rw [HLB.out] at LC
      clear cv fv hv hln f6
      go_wp2
      go_region
      go_wp2_with fail
      refine LC.out.mono ?_
      rintro e w5 ⟨g5, cap5, qs5, lv5, la5, t5, rfl, h5, ⟨⟨ms, e5⟩, l5, le5⟩, wf5, s5, b5, k5⟩
      obtain ⟨a5, c5, elv⟩ := own_slice h5.row
      subst elv
      have T5 := hide' (show t < la5.length by have := TL.out; omega)
      obtain ⟨lg5, rfl, -, cv5, fv5⟩ := h5.row_at T5.out
      have y6 := cell_of_row w5 lb 6 _ _ _ (by rw [← HLB.out]; exact h5.ldr)
      simp at y6
      have tb5 : t5 ≤ 1100000 := by
       have := wf5.lt h5.stk.st
       have := HOK.out.hm
       have := HL.out.2
       omega
      have t5l : (t : Int) < (la5.length : Int) := by have := T5.out; omega
      have FIN := hide' (show LkP c (max qs.length (c.most + 18 * (n + 1))) qs la n t w (.returned (.int .i32 (t5 : Int))) (w5.setCell ⟨lg5, t, none⟩ (.int .i32 ((t5 + 1 : Nat) : Int))) from by
       have nt := h5.note HOK.out T0.out T5.out (by rw [e5]; exact HW.out.app ms) wf5 s5
       exact ⟨g5, cap5, qs5, _, _, t5, rfl, nt.1, ⟨⟨ms, e5⟩, by omega, by simp; have := HLE.out; omega⟩, wf5, s5, BD.out.1.trans (b5.trans nt.2.1), BD.out.2.trans (k5.trans nt.2.2)⟩)
      obtain ⟨ln5, hln5⟩ : ∃ l, la5.length = l := ⟨_, rfl⟩
      rw [hln5] at y6 t5l
      obtain ⟨cv', hcv'⟩ : ∃ l, la5.getD t 0 = l := ⟨_, rfl⟩
      rw [hcv'] at cv5
      have e6 : ((t5 + 1 : Nat) : Int) = (t5 : Int) + 1 := by push_cast; rfl
      rw [e6] at FIN
      clear h5 e5 l5 le5 wf5 s5 b5 k5 hln5 hcv' e6
      go_wp2
      go_ret
      exact FIN.out
     ·obtain ⟨v', rfl⟩ : ∃ v', v = v' + 1 := ⟨v - 1, by omega⟩
      have z1 : (((v' + 1 : Nat) : Int) == 0) = false := by simp; omega
      have z2 : ((v' + 1 : Nat) : Int) - 1 = (v' : Int) := by omega
      have mm := HA.out.mem t TL.out (by rw [hv]; omega) n HW.out
      rw [hv, Nat.add_sub_cancel] at mm
      have vb : v' ≤ 1000000 := by have := mm.1.lt HK.out.stk.st; have := QB.out; have := HQN.out; omega
      have FIN := hide' (show LkP c (max qs.length (c.most + 18 * (n + 1))) qs la n t w (.returned (.int .i32 (v' : Int))) wr.drew from ⟨g, cap, qs, _, la', v', rfl, AD.out, ⟨⟨[], by simp⟩, by omega, HLE.out⟩, mm.1, mm.2, BD.out.1, BD.out.2⟩)
      obtain ⟨x, hx⟩ : ∃ x : Int, ((v' + 1 : Nat) : Int) = x := ⟨_, rfl⟩
      have xb : 1 ≤ x ∧ x ≤ 1000001 := by omega
      rw [hx] at cv z1 z2
      obtain ⟨xb1, xb2⟩ := xb
      clear mm hv hln v0 hx fv f6
      go_wp2
      go_region
      go_wp2
      go_ret
      exact FIN.out
set_option maxRecDepth 100000 in
set_option maxHeartbeats 6400000 in
theorem look_least : LookC 0 := by
 intro c ok g cap qs lv la t L w h hq hw hL hn hwt hkk
 have HK := hide' h
 have HW := hide' hw
 have HOK := hide' ok
 have HQ := hide' hq
 have lt := hw.lt h.stk.st
 have P2 := hide' (show pfE c.k ≤ 2 ∧ psE c.k ≤ 2 from ⟨by unfold pfE; split <;> omega, by unfold psE; split <;> omega⟩)
 have pp : ∀ i, prt (sqA qs t) i < qs.length := fun i => (hw.prt h.stk.st i).lt h.stk.st
 have SX := hide' (fun V (hV : LpA c V g cap qs lv la) => sixteen_stkR c.sb c.B g cap qs t V hV.stk lt pp)
 unfold SxR at SX
 have TX := hide' (fun V (hV : LpA c V g cap qs lv la) => sixteen_any c.tb (sxK qs t 0) (sxK qs t 1) (sxK qs t 2) (sxK qs t 3) (pfE c.k) (psE c.k) c.T V (sxK_lt h.stk.st hw 0) (sxK_lt h.stk.st hw 1) (sxK_lt h.stk.st hw 2) (sxK_lt h.stk.st hw 3) hV.tab ok.h0 P2.out.1 P2.out.2 (by have := ok.tb; have := hV.le.2; omega))
 have EG := hide' (fun V (hV : LpA c V g cap qs lv la) => eight_stkM (some c.p) c.sb c.B g cap qs (sxE c.T (sxK qs t 0) (sxK qs t 1) (sxK qs t 2) (sxK qs t 3) (pfE c.k) (psE c.k)) V hV.stk hV.le.2 (by have := ok.hm; omega) (sx_lt _ _ _ _ _ _ _))
 have FIN := hide' (fun (V w6 : World) (g' cap' : Nat) (qs' : List Sq) (r : Nat) (bV : Below w.heap.size w V) (hs : StkA w6 c.sb c.B g' cap' qs' (some c.p)) (he : EightQ qs (sxE c.T (sxK qs t 0) (sxK qs t 1) (sxK qs t 2) (sxK qs t 3) (pfE c.k) (psE c.k)) qs' r) (hk : KpS c.sb g g' V w6 (some c.p)) => show LkP c (c.most + 18 * (0 + 1)) qs la 0 t w (.returned (.int .i32 (r : Int))) w6 from by
  obtain ⟨ms, e, lms⟩ := he.app
  have hV := h.below ok bV
  have hw' : WFQ qs' 1 t := by rw [e]; exact hw.app ms
  have st' : StQ qs' := hs.st
  have k0 : sxK qs' t 0 = sxK qs t 0 := by rw [e]; exact sxK_app h.stk.st hw ms 0
  have k1 : sxK qs' t 1 = sxK qs t 1 := by rw [e]; exact sxK_app h.stk.st hw ms 1
  have k2 : sxK qs' t 2 = sxK qs t 2 := by rw [e]; exact sxK_app h.stk.st hw ms 2
  have k3 : sxK qs' t 3 = sxK qs t 3 := by rw [e]; exact sxK_app h.stk.st hw ms 3
  have lps : LpS c.born c.stay c.k qs' 0 t r := by
   refine LpS.base ok.hT (sxK_lt st' hw' 0) (sxK_lt st' hw' 1) fun x y => ?_
   rw [he.val h.stk.st]
   show _ = bitQ (sxE c.T (sxK qs' t 0) (sxK qs' t 1) (sxK qs' t 2) (sxK qs' t 3) (pfE c.k) (psE c.k)) x y
   rw [k0, k1, k2, k3]
  have wfr := he.wf (sx_lt _ _ _ _ _ _ _)
  have win : AwQ c qs' := by
   obtain ⟨ms2, e2, l2, t2⟩ := he.one
   have wt' : WtQ c qs' 0 r := fun ho => by
    obtain ⟨m, a, b, q⟩ := hwt ho
    have q2 : WnF c.born c.stay c.F qs' 1 t m a b := by rw [e]; exact q.app h.stk.st hw ms
    exact ⟨_, _, _, wn_look (hkk ho) q2 lps⟩
   rw [e2] at wt' wfr ⊢
   exact h.win.grow h.stk.st l2 t2 (by omega) wfr wt'
  exact ⟨g', cap', qs', lv, la, r, rfl, hV.grown ok hs hk ⟨ms, e⟩ win, ⟨⟨ms, e⟩, by rw [e, List.length_append]; omega, Nat.le_refl _⟩, wfr, fun _ => lps, (bV.mono h.le.2).trans (hk.bel hV.stk hV.le.2), (KpT.of_below bV).trans (hk.kpt hV.stk)⟩)
 obtain ⟨lb, hlb⟩ : ∃ l, c.lb = l := ⟨_, rfl⟩
 obtain ⟨sb, hsb⟩ : ∃ l, c.sb = l := ⟨_, rfl⟩
 obtain ⟨tb, htb⟩ : ∃ l, c.tb = l := ⟨_, rfl⟩
 obtain ⟨ps, hps⟩ : ∃ l, pfE c.k = l := ⟨_, rfl⟩
 obtain ⟨pu, hpu⟩ : ∃ l, psE c.k = l := ⟨_, rfl⟩
 obtain ⟨a0, ha0⟩ : ∃ l, sxK qs t 0 = l := ⟨_, rfl⟩
 obtain ⟨a1, ha1⟩ : ∃ l, sxK qs t 1 = l := ⟨_, rfl⟩
 obtain ⟨a2, ha2⟩ : ∃ l, sxK qs t 2 = l := ⟨_, rfl⟩
 obtain ⟨a3, ha3⟩ : ∃ l, sxK qs t 3 = l := ⟨_, rfl⟩
 have LD := hide' (fun (V : World) (eV : V.heap[c.lb]? = w.heap[c.lb]?) => show V.cell? ⟨lb, 0, none⟩ = some (.pointer (some ⟨sb, 0, none⟩)) ∧ V.cell? ⟨lb, 1, none⟩ = some (.pointer (some ⟨tb, 0, none⟩)) ∧ V.cell? ⟨lb, 3, none⟩ = some (.int .i64 (ps : Int)) ∧ V.cell? ⟨lb, 4, none⟩ = some (.int .i64 (pu : Int)) from by
  have l := eV.trans h.ldr
  rw [hlb, hsb, htb, hps, hpu] at l
  refine ⟨?_, ?_, ?_, ?_⟩
  all_goals (rw [cell_of_row V lb _ _ _ _ l]; rfl))
 rw [hps, hpu, ha0, ha1, ha2, ha3] at TX EG FIN
 rw [ha0, ha1, ha2, ha3, hsb] at SX
 rw [htb] at TX
 rw [hsb] at EG
 obtain ⟨gn, hgn⟩ : ∃ l, sxE c.T a0 a1 a2 a3 ps pu = l := ⟨_, rfl⟩
 rw [hgn] at TX EG FIN
 rw [hlb]
 have WL := hide' h.ldr
 have LB := hide' (fun (V : World) (b : Below w.heap.size w V) => b.block c.lb (lt_of_block h.ldr))
 have BW := hide' (fun (V : World) (b : Below w.heap.size w V) => h.below ok b)
 have CSB := hide' hsb
 subst hL
 clear h hq hw hn hwt hkk lt pp hlb hsb htb hps hpu ha0 ha1 ha2 ha3 hgn ok
 go_enter Tryz.func96, Tryz.ntmps96
 go_upto_region 2 with fail
 have BD := hide' (show Below w.heap.size w w.drew from (Below.refl _ _).drew)
 have BR := hide' (show Below w.heap.size w w from Below.refl _ _)
 go_region_held3 (fun V => V.cell? ⟨lb, 0, none⟩ = some (.pointer (some ⟨sb, 0, none⟩)) ∧ V.cell? ⟨lb, 1, none⟩ = some (.pointer (some ⟨tb, 0, none⟩)) ∧ V.cell? ⟨lb, 3, none⟩ = some (.int .i64 (ps : Int)) ∧ V.cell? ⟨lb, 4, none⟩ = some (.int .i64 (pu : Int))) (first | with_reducible exact SG.out | with_reducible exact LD.out _ (LB.out _ BS.out) | with_reducible exact LD.out _ (LB.out _ BA.out) | with_reducible exact LD.out _ (LB.out _ BD.out) | with_reducible exact LD.out _ (LB.out _ BR.out) | fail) (first
  | (go_at_call 118; refine (SX.out _ (BW.out _ BD.out)).mono ?_; rintro o w4 ⟨rfl, b4⟩; have BA := hide' (BD.out.trans b4))
  | (go_at_call 97; refine (TX.out _ (BW.out _ BA.out)).mono ?_; rintro o w5 ⟨rfl, b5⟩; have BS := hide' (BA.out.trans (b5.mono BA.out.size)))
  | (go_at_call 90; refine (EG.out _ (BW.out _ BS.out)).mono ?_; rintro o w6 ⟨g', cap', qs', r, rfl, hs, he, hk⟩; have FN := hide' (FIN.out _ _ g' cap' qs' r BS.out (by rw [CSB.out]; exact hs) he (by rw [CSB.out]; exact hk)); have SG := hide' (LD.out w6 (((show KpS c.sb g g' _ w6 (some c.p) by rw [CSB.out]; exact hk).ty (BW.out _ BS.out).stk (BW.out _ BS.out).ldr (by decide) (by decide)).trans WL.out.symm)); clear hs he hk)
  | fail)
 go_wp2
 go_ret
 exact FN.out
def lpR (c : LpK) (md : Bool) (qs : List Sq) (n t r : Nat) : Prop := if md = true then MdF c.born c.stay 0 (valQ qs (n + 1) t) (valQ qs n r) (qrI n) else LpS c.born c.stay c.k qs n t r
theorem lpR.app {c : LpK} {md : Bool} {qs : List Sq} (hS : StQ qs) {n t r : Nat} (ht : WFQ qs (n + 1) t) (hr : WFQ qs n r) (h : lpR c md qs n t r) (ms : List Sq) : lpR c md (qs ++ ms) n t r := by
 unfold lpR at h ⊢
 cases md with
 | false => simp only [Bool.false_eq_true, if_false] at h ⊢; exact h.app hS ht hr ms
 | true =>
  simp only [if_true] at h ⊢
  rw [show valQ (qs ++ ms) (n + 1) t = valQ qs (n + 1) t from funext fun x => funext fun y => ht.val hS ms x y, show valQ (qs ++ ms) n r = valQ qs n r from funext fun x => funext fun y => hr.val hS ms x y]
  exact h
structure NkQ (c : LpK) (md : Bool) (qs : List Sq) (n P r a b d e : Nat) : Prop where
 wp : WFQ qs (n + 1) P
 wa : WFQ qs n a
 wb : WFQ qs n b
 wd : WFQ qs n d
 we : WFQ qs n e
 jn : JnS4 qs n P a b d e
 wr : WFQ qs n r
 lp : qs.length ≤ c.most → lpR c md qs n P r
theorem NkQ.app {c : LpK} {md : Bool} {qs : List Sq} (hS : StQ qs) {n P r a b d e : Nat} (h : NkQ c md qs n P r a b d e) (ms : List Sq) : NkQ c md (qs ++ ms) n P r a b d e :=
 ⟨h.wp.app ms, h.wa.app ms, h.wb.app ms, h.wd.app ms, h.we.app ms, h.jn.app hS h.wp h.wa h.wb h.wd h.we ms, h.wr.app ms, fun q => (h.lp (by rw [List.length_append] at q; omega)).app hS h.wp h.wr ms⟩
theorem NkQ.look {c : LpK} {qs qs' : List Sq} (hS : StQ qs) {ms : List Sq} (e : qs' = qs ++ ms) {n t r : Nat} (ht : WFQ qs (n + 2) t) {P N Q M : Nat → Nat}
  (hP : ∀ i, i < 9 → NkQ c false qs' n (P i) (N i) (gridQ qs t (i / 3 * 4 + i % 3)) (gridQ qs t (i / 3 * 4 + i % 3 + 1)) (gridQ qs t (i / 3 * 4 + i % 3 + 4)) (gridQ qs t (i / 3 * 4 + i % 3 + 5)))
  (hQ : ∀ i, i < 4 → NkQ c (decide (n + 3 > c.k)) qs' n (Q i) (M i) (N (i / 2 * 3 + i % 2)) (N (i / 2 * 3 + i % 2 + 1)) (N (i / 2 * 3 + i % 2 + 3)) (N (i / 2 * 3 + i % 2 + 4)))
  (hR : JnS4 qs' n r (M 0) (M 1) (M 2) (M 3)) (hm : qs'.length ≤ c.most) : LpS c.born c.stay c.k qs' (n + 1) t r := by
 have g : ∀ i, gridQ qs' t i = gridQ qs t i := fun i => by rw [e]; exact grid_app hS ht ms i
 refine look_step (P := P) (N := N) (Q := Q) (M := M) (fun i hi => ?_) (fun i hi => ?_) (fun i hi => (hQ i hi).jn) (fun i hi => ?_) hR
 ·rw [g, g, g, g]; exact (hP i hi).jn
 ·have := (hP i hi).lp hm
  unfold lpR at this
  simpa using this
 ·have := (hQ i hi).lp hm
  unfold lpR at this
  by_cases q : n + 3 > c.k
  ·rw [if_pos q]
   simpa [q] using this
  ·rw [if_neg q]
   simpa [q] using this
end Go.Proofs.YtemhcpldflcfbaaGreatDoor
