/-
  What the last text of this claim leans on, part 22: Ar0, Hm1, Hm2, Hm3.
-/
import Derived.Test.YtemhcpldflcfbaaGreatDoorYf1
import Derived.Test.YtemhcpldflcfbaaGreatDoorYf12
import Derived.Test.YtemhcpldflcfbaaGreatDoorYf18
import Derived.Deep.OwnRows
import Derived.Deep.AppendLies
import Derived.Laws.OwnMore
import Derived.BigRegion
namespace Go.Proofs.YtemhcpldflcfbaaGreatDoor
open Go.RowKit
set_option linter.unusedVariables false
set_option linter.unusedSimpArgs false
def arrQ (n : Nat) (f : Nat → Value) : Array Value := ((List.range n).map f).toArray
theorem arrQ_get {n k : Nat} (f : Nat → Value) (h : k < n) : (arrQ n f)[k]? = some (f k) := by simp [arrQ, h]
theorem arrQ_set (n i : Nat) (f : Nat → Value) (v : Value) : (arrQ n f).setIfInBounds i v = arrQ n (fun k => if k = i then v else f k) := by
 apply Array.ext
 ·simp [arrQ]
 ·intro k h1 h2
  simp only [arrQ, List.getElem_toArray, List.getElem_map, List.getElem_range]
  by_cases q : k = i
  ·simp [q]
  ·simp [q, Ne.symm q]
theorem arrQ_ext {n : Nat} {f g : Nat → Value} (h : ∀ k, k < n → f k = g k) : arrQ n f = arrQ n g := by
 unfold arrQ
 congr 1
 apply List.map_congr_left
 intro k hk
 exact h k (List.mem_range.1 hk)
theorem lt_blockQ {w : World} {p : Nat} {o : Obj} (h : w.heap[p]? = some o) : p < w.heap.size := (Array.getElem?_eq_some_iff.1 h).1
def ArV (V : World) (g n : Nat) (T : TypeId) (f : Nat → Value) : Prop := V.heap[g]? = some (.cells (arrQ n f) T (0, 0))
theorem ArV.lt {V : World} {g n : Nat} {T : TypeId} {f : Nat → Value} (h : ArV V g n T f) : g < V.heap.size := lt_blockQ h
theorem ArV.cell {V : World} {g n : Nat} {T : TypeId} {f : Nat → Value} (h : ArV V g n T f) {k : Nat} (hk : k < n) : V.cell? ⟨g, k, none⟩ = some (f k) := by
 rw [cell_of_row V _ _ _ _ _ h, arrQ_get _ hk]
theorem ArV.frozen {V : World} {g n : Nat} {T : TypeId} {f : Nat → Value} (h : ArV V g n T f) (k : Nat) : V.frozen? ⟨g, k, none⟩ = false := frozen_of_row _ _ _ _ _ h
theorem ArV.set {V : World} {g n : Nat} {T : TypeId} {f : Nat → Value} (h : ArV V g n T f) (k : Nat) (v : Value) : ArV (V.setCell ⟨g, k, none⟩ v) g n T (fun y => if y = k then v else f y) := by
 unfold ArV
 rw [heap_setCell_same _ _ _ _ _ _ h, arrQ_set]
theorem ArV.ext {V : World} {g n : Nat} {T : TypeId} {f f' : Nat → Value} (h : ArV V g n T f) (e : ∀ k, k < n → f k = f' k) : ArV V g n T f' := by
 unfold ArV at h ⊢
 rw [h]
 congr 2
 exact arrQ_ext e
theorem ArV.keep {V V' : World} {g n : Nat} {T : TypeId} {f : Nat → Value} (h : ArV V g n T f) (e : V'.heap[g]? = V.heap[g]?) : ArV V' g n T f := e.trans h
theorem ArV.below {V V' : World} {g n B : Nat} {T : TypeId} {f : Nat → Value} (h : ArV V g n T f) (b : Below B V V') (hg : g < B) : ArV V' g n T f := (b.block g hg).trans h
theorem ArV.made (V : World) (n : Nat) (T : TypeId) (z : Value) : ArV (V.alloc (.cells (arrQ n fun _ => z) T)) V.heap.size n T (fun _ => z) := heap_alloc_new _ _
theorem ArV.alloc {V : World} {g n : Nat} {T : TypeId} {f : Nat → Value} (h : ArV V g n T f) (o : Obj) : ArV (V.alloc o) g n T f := (heap_alloc_old _ _ h.lt).trans h
theorem ArV.apart {V : World} {g h n m : Nat} {T U : TypeId} {f e : Nat → Value} (a : ArV V g n T f) (b : ArV V h m U e) (hne : T ≠ U) : g ≠ h := by
 rintro rfl
 have := a.symm.trans b
 simp at this
 exact hne this.2
def uQ (f : Nat → Nat) (k : Nat) : Value := .int .u64 ((f k : Nat) : Int)
theorem set_other {V : World} {g h k : Nat} {v : Value} (e : h ≠ g) : (V.setCell ⟨g, k, none⟩ v).heap[h]? = V.heap[h]? := Below.heap_setCell _ _ _ _ (fun x => e (by simpa using x))
def uptQ (f : Nat → Nat) (i j : Nat) : Nat := if j < i then f j else 0
theorem upt_next {K : IntKind} {f : Nat → Nat} {i v : Nat} (h : f i = v) (j : Nat) : (if j = i then Value.int K (v : Int) else Value.int K ((uptQ f i j : Nat) : Int)) = Value.int K ((uptQ f (i + 1) j : Nat) : Int) := by
 unfold uptQ
 by_cases e : j = i
 ·subst e; rw [if_pos rfl, if_pos (by omega), h]
 ·rw [if_neg e]
  by_cases e2 : j < i
  ·rw [if_pos e2, if_pos (by omega)]
  ·rw [if_neg e2, if_neg (by omega)]
theorem upt_all {f : Nat → Nat} {n j : Nat} (h : j < n) : uptQ f n j = f j := by unfold uptQ; rw [if_pos h]
theorem arrQ_one {K : IntKind} (n : Nat) (f : Nat → Nat) : (arrQ n (fun k => Value.int K ((f k : Nat) : Int))).all (·.oneCell') = true := by simp [arrQ, Value.oneCell']
theorem arrQ_size (n : Nat) (f : Nat → Value) : (arrQ n f).size = n := by simp [arrQ]
def jQ (f : Nat → Nat) (k : Nat) : Value := .int .i32 ((f k : Nat) : Int)
def sxK (qs : List Sq) (t i : Nat) : Nat := (sqA qs (prt (sqA qs t) i)).k
def WkA (w : World) (wb fs ts tb s u : Nat) (most : Int) : Prop := w.heap[wb]? = some (.cells #[.pointer (some ⟨fs, 0, none⟩), .pointer (some ⟨ts, 0, none⟩), .pointer (some ⟨tb, 0, none⟩), .int .i64 (s : Int), .int .i64 (u : Int), .int .i64 most] 132 (0, 0))
theorem WkA.below {w w' : World} {wb fs ts tb s u : Nat} {most : Int} (h : WkA w wb fs ts tb s u most) (b : Below w.heap.size w w') : WkA w' wb fs ts tb s u most := (b.block _ (lt_of_block h)).trans h
def NrP (qs : List Sq) (nine : Nat → Nat) (x y : Nat) (w : World) (e : Ending) (w' : World) : Prop := e = .returned (.agg (arrQ 9 (jQ (nrQ qs nine x y)))) ∧ Below w.heap.size w w'
set_option maxRecDepth 100000 in
set_option maxHeartbeats 6400000 in
theorem nearer_any {mp : Option (Nat × Nat)} (wb ts tb s u : Nat) (most : Int) (sb B g cap : Nat) (qs : List Sq) (nine : Nat → Nat) (x y : Nat) (w : World) (h : StkA w sb B g cap qs mp) (hW : WkA w wb sb ts tb s u most) (hx : x ≤ 3) (hy : y ≤ 3) (hp : ∀ i, i < 9 → nine i < qs.length) :
  Calls Tryz.prog 99 #[.pointer (some ⟨wb, 0, none⟩), .agg (arrQ 9 (jQ nine)), .int .i64 (x : Int), .int .i64 (y : Int)] w (NrP qs nine x y w) := by
 have HK := hide' h
 have HWK := hide' hW
 have HP := hide' hp
 obtain ⟨A, hA⟩ : ∃ A, arrQ 9 (jQ nine) = A := ⟨_, rfl⟩
 have HA := hide' hA
 rw [hA]
 obtain ⟨rb, hrb⟩ : ∃ rb, w.heap.size = rb := ⟨_, rfl⟩
 obtain ⟨w2, hw2⟩ : ∃ w2, ((w.alloc (.cells A 134)).alloc (.cells #[.int .i32 0, .int .i32 0, .int .i32 0, .int .i32 0, .int .i32 0, .int .i32 0, .int .i32 0, .int .i32 0, .int .i32 0] 134)).alloc (.cells #[.int .i32 0, .int .i32 0, .int .i32 0, .int .i32 0, .int .i32 0, .int .i32 0, .int .i32 0, .int .i32 0, .int .i32 0] 134) = w2 := ⟨_, rfl⟩
 have HW2 := hide' hw2
 have HRB := hide' hrb
 have B2 := hide' (show Below w.heap.size w w2 by rw [← hw2]; exact (((Below.refl _ _).alloc (Nat.le_refl _) _).alloc (by simp) _).alloc (by simp; omega) _)
 have A2 := hide' (show ArV w2 rb 9 134 (jQ nine) by unfold ArV; rw [← hw2, ← hrb, hA]; exact (heap_alloc_old _ _ (by simp; omega)).trans ((heap_alloc_old _ _ (by simp)).trans (heap_alloc_new w _)))
 have R2 := hide' (show w2.heap[rb + 1]? = some (.cells #[.int .i32 0, .int .i32 0, .int .i32 0, .int .i32 0, .int .i32 0, .int .i32 0, .int .i32 0, .int .i32 0, .int .i32 0] 134 (0, 0)) by rw [← hw2]; exact (heap_alloc_old _ _ (by simp [hrb])).trans (heap_atX _ _ _ (by simp [hrb])))
 have O2 := hide' (show ArV w2 (rb + 2) 9 134 (jQ (uptQ (nrQ qs nine x y) 0)) by unfold ArV; rw [← hw2]; exact heap_atX _ _ _ (by simp [hrb]))
 have Z2 := hide' (show w2.heap.size = rb + 3 by rw [← hw2]; simp [hrb])
 have K2 := hide' (h.below B2.out)
 have W2 := hide' (hW.below B2.out)
 obtain ⟨qn, hqn⟩ : ∃ n, qs.length = n := ⟨_, rfl⟩
 have HQN := hide' hqn
 have HX := hide' (And.intro hx hy)
 have WL := hide' (lt_of_block hW)
 clear hw2 hrb h hW hp hqn hA hx hy
 go_enter Tryz.func99, Tryz.ntmps99
 go_upto_region 2 with fail
 rw [HW2.out, HRB.out]
 go_wp2
 go_loopw [14] (fun iv wr => ∃ (i : Nat), iv = .int .i64 (i : Int) ∧ i ≤ 9 ∧ Hid (ArV wr (rb + 2) 9 134 (jQ (uptQ (nrQ qs nine x y) i))) ∧ Hid (KpW (rb + 2) w2 wr)) (fun iv _ => 9 - (intOf iv).toNat)
 case atStart => exact ⟨0, rfl, by omega, O2, hide' (KpW.of_below (Below.refl _ _))⟩
 case round =>
  obtain ⟨i, rfl, hi, HO, HKP⟩ := hrel
  by_cases di : i < 9
  ·have d1 : (i : Int) < 9 := by omega
   obtain ⟨c, hc⟩ : ∃ c, x + i % 3 = c := ⟨_, rfl⟩
   obtain ⟨r, hr⟩ : ∃ c, y + i / 3 = c := ⟨_, rfl⟩
   have hx := HX.out
   have e1 : (x : Int) + (i : Int) % 3 = (c : Int) := by omega
   have e2 : (y : Int) + (i : Int) / 3 = (r : Int) := by omega
   obtain ⟨p, hp⟩ : ∃ p, r / 2 * 3 + c / 2 = p := ⟨_, rfl⟩
   obtain ⟨q, hq⟩ : ∃ p, r % 2 * 2 + c % 2 = p := ⟨_, rfl⟩
   have e3 : (r : Int) / 2 * 3 + (c : Int) / 2 = (p : Int) := by omega
   have e4 : (r : Int) % 2 * 2 + (c : Int) % 2 = (q : Int) := by omega
   have p9 : p < 9 := by omega
   have q4 : q < 4 := by omega
   have p9' : (p : Int) < 9 := by omega
   have q4i : (q : Int) < 4 := by omega
   have cb : c ≤ 5 := by omega
   have rb5 : r ≤ 5 := by omega
   have AR := (show ArV wr rb 9 134 (jQ nine) from A2.out.keep (HKP.out.keep _ (by have := Z2.out; omega) (by omega)))
   have ac := AR.cell p9
   obtain ⟨pt, hpt⟩ : ∃ t, nine p = t := ⟨_, rfl⟩
   unfold jQ at ac
   rw [hpt] at ac
   have KR := hide' (show StkA wr sb B g cap qs mp from K2.out.keepM (HKP.out.keep _ K2.out.lt.1 (fun e => by have := HK.out.lt.1; have := HRB.out; omega)) (HKP.out.keep _ K2.out.lt.2 (fun e => by have := HK.out.lt.2; have := HRB.out; omega)) (fun k q => HKP.out.keep _ (K2.out.map.lt q) (fun e => by have := HK.out.map.lt q; have := HRB.out; omega)))
   have WR := (show WkA wr wb sb ts tb s u most from (HKP.out.keep _ (lt_of_block W2.out) (fun e => by have := WL.out; have := HRB.out; omega)).trans W2.out)
   have k0 := cell_of_row wr wb 0 _ _ _ WR
   simp at k0
   have c0 := KR.out.c0
   have ptl : pt < qs.length := by rw [← hpt]; exact HP.out p p9
   obtain ⟨q0, q1, q2, q3, q4c, q5⟩ := KR.out.cells ptl
   rw [HQN.out] at c0 ptl
   have l1 : (pt : Int) < (qn : Int) := by omega
   have HV := hide' (show nrQ qs nine x y i = prt (sqA qs pt) q by unfold nrQ; rw [hr, hc, hp, hq, hpt])
   obtain ⟨Q, hQ⟩ : ∃ Q, sqA qs pt = Q := ⟨_, rfl⟩
   rw [hQ] at q0 q1 q2 q3 q4c q5 HV
   clear hQ hpt hp hq hc hr hx ptl AR WR
   obtain ⟨w3, hw3⟩ : ∃ w3, (wr.alloc (.cells #[.int .i32 (Q.a : Int), .int .i32 (Q.b : Int), .int .i32 (Q.c : Int), .int .i32 (Q.d : Int), .int .u64 (Q.k : Int), .int .i64 Q.l] 90)).drew = w3 := ⟨_, rfl⟩
   obtain ⟨ib, hib⟩ : ∃ ib, wr.heap.size = ib := ⟨_, rfl⟩
   have HW3 := hide' hw3
   have HIB := hide' hib
   have I3 := hide' (show w3.heap[ib]? = some (.cells #[.int .i32 (Q.a : Int), .int .i32 (Q.b : Int), .int .i32 (Q.c : Int), .int .i32 (Q.d : Int), .int .u64 (Q.k : Int), .int .i64 Q.l] 90 (0, 0)) by rw [← hw3, ← hib]; exact heap_alloc_new _ _)
   have O3 := hide' (show ArV w3 (rb + 2) 9 134 (jQ (uptQ (nrQ qs nine x y) i)) by rw [← hw3]; exact (HO.out.alloc _).keep rfl)
   have P3 := hide' (show KpW (rb + 2) w2 w3 by rw [← hw3]; exact (HKP.out.trans (KpW.of_below ((Below.refl _ _).alloc (Nat.le_refl _) _))).drew)
   clear hw3 hib
   have lrb : rb < wr.heap.size := by have := HKP.out.size; have := Z2.out; omega
   have lwb : wb < wr.heap.size := by have := HKP.out.size; have := WL.out; have := B2.out.size; omega
   have lsb := KR.out.lt.1
   have lg := KR.out.lt.2
   have ac' : ∀ o, (wr.alloc o).cell? ⟨rb, p, none⟩ = _ := fun o => (World.cell?_alloc_lt _ o ⟨rb, p, none⟩ lrb).trans ac
   have k0' : ∀ o, (wr.alloc o).cell? ⟨wb, 0, none⟩ = _ := fun o => (World.cell?_alloc_lt _ o ⟨wb, 0, none⟩ lwb).trans k0
   have c0' : ∀ o, (wr.alloc o).cell? ⟨sb, 0, none⟩ = _ := fun o => (World.cell?_alloc_lt _ o ⟨sb, 0, none⟩ lsb).trans c0
   have q0' : ∀ o, (wr.alloc o).cell? ⟨g, pt * 6, none⟩ = _ := fun o => (World.cell?_alloc_lt _ o ⟨g, pt * 6, none⟩ lg).trans q0
   have q1' : ∀ o, (wr.alloc o).cell? ⟨g, pt * 6 + 1, none⟩ = _ := fun o => (World.cell?_alloc_lt _ o ⟨g, pt * 6 + 1, none⟩ lg).trans q1
   have q2' : ∀ o, (wr.alloc o).cell? ⟨g, pt * 6 + 2, none⟩ = _ := fun o => (World.cell?_alloc_lt _ o ⟨g, pt * 6 + 2, none⟩ lg).trans q2
   have q3' : ∀ o, (wr.alloc o).cell? ⟨g, pt * 6 + 3, none⟩ = _ := fun o => (World.cell?_alloc_lt _ o ⟨g, pt * 6 + 3, none⟩ lg).trans q3
   have q4' : ∀ o, (wr.alloc o).cell? ⟨g, pt * 6 + 4, none⟩ = _ := fun o => (World.cell?_alloc_lt _ o ⟨g, pt * 6 + 4, none⟩ lg).trans q4c
   have q5' : ∀ o, (wr.alloc o).cell? ⟨g, pt * 6 + 5, none⟩ = _ := fun o => (World.cell?_alloc_lt _ o ⟨g, pt * 6 + 5, none⟩ lg).trans q5
   clear lrb lwb lsb lg
   go_upto_region 6 with fail
   go_region
   rw [HW3.out, HIB.out]
   clear q0 q1 q2 q3 q4c q5 k0 c0 l1 ac q0' q1' q2' q3' q4' q5' k0' c0' ac'
   have vc : w3.cell? ⟨ib, q, none⟩ = some (.int .i32 ((prt Q q : Nat) : Int)) := by
    rw [cell_of_row w3 ib q _ _ _ I3.out]
    have : q = 0 ∨ q = 1 ∨ q = 2 ∨ q = 3 := by omega
    rcases this with rfl | rfl | rfl | rfl <;> rfl
   obtain ⟨v, hv⟩ : ∃ v, prt Q q = v := ⟨_, rfl⟩
   rw [hv] at vc HV
   have rc := O3.out.cell di
   have rf := O3.out.frozen i
   have A5 := hide' ((O3.out.set i (.int .i32 (v : Int))).ext (f' := jQ (uptQ (nrQ qs nine x y) (i + 1))) fun j _ => upt_next HV.out j)
   have P5 := hide' (P3.out.set (i := i) (.int .i32 (v : Int)))
   clear hv
   go_wp2
   exact ⟨⟨i + 1, by go_num, by omega, A5, P5⟩, by simp [intOf]; omega⟩
  ·have d1 : ¬ (i : Int) < 9 := by omega
   obtain rfl : i = 9 := by omega
   have gp : wr.heap[rb + 2]? = some (.cells (arrQ 9 (jQ (nrQ qs nine x y))) 134 (0, 0)) := HO.out.ext (f' := jQ (nrQ qs nine x y)) fun j hj => by unfold jQ; rw [upt_all hj]
   have gb := (HKP.out.keep (rb + 1) (by have := Z2.out; omega) (by omega)).trans R2.out
   obtain ⟨Zb, hZ⟩ : ∃ Z, arrQ 9 (jQ (nrQ qs nine x y)) = Z := ⟨_, rfl⟩
   have zs : Zb.size = 9 := by rw [← hZ]; exact arrQ_size _ _
   have za : Zb.all (·.oneCell') = true := by rw [← hZ]; exact arrQ_one 9 _
   rw [hZ] at gp
   have HZ := hide' hZ
   have BF := hide' (show Below w.heap.size w wr from B2.out.trans ⟨HKP.out.os, HKP.out.tape, HKP.out.output, HKP.out.size, fun k hk => HKP.out.keep k (by have := B2.out.size; omega) (by have := HRB.out; omega)⟩)
   have lw : w.heap.size ≤ rb + 1 := by have := HRB.out; omega
   clear hZ
   go_wp2_with (first
    | (refine wpList_load_row rfl 134 _ rfl (rb + 2) rfl 134 Zb (0, 0) _ gp Tryz.underlying134 rfl (by rw [zs]; kernel_rfl) ?_)
    | (refine wpList_store_row rfl 134 _ _ rfl (rb + 1) Zb rfl rfl 134 _ gb (by rw [zs]; kernel_rfl) (by rw [zs]; rfl) za ?_))
   refine bodyPost_ret (v := .agg Zb) (results_cell_row Tryz.results99 _ _ (rb + 1) 134 _ (0, 0) _ rfl (setRow_heap _ _ _ _ _ _ gb) Tryz.underlying134 rfl (by rw [zs]; kernel_rfl)) rfl ?_
   exact ⟨by rw [HZ.out], below_setRow BF.out lw _⟩
theorem index_j90 (x0 x1 x2 x3 x4 x5 x6 x7 x8 : Nat) (w : World) : (Instr.index 134 (.agg #[.int .i32 (x0 : Int), .int .i32 (x1 : Int), .int .i32 (x2 : Int), .int .i32 (x3 : Int), .int .i32 (x4 : Int), .int .i32 (x5 : Int), .int .i32 (x6 : Int), .int .i32 (x7 : Int), .int .i32 (x8 : Int)]) (.int .i64 0)).run Tryz.prog w = .ok (.int .i32 (x0 : Int)) w := by kernel_rfl
theorem index_j91 (x0 x1 x2 x3 x4 x5 x6 x7 x8 : Nat) (w : World) : (Instr.index 134 (.agg #[.int .i32 (x0 : Int), .int .i32 (x1 : Int), .int .i32 (x2 : Int), .int .i32 (x3 : Int), .int .i32 (x4 : Int), .int .i32 (x5 : Int), .int .i32 (x6 : Int), .int .i32 (x7 : Int), .int .i32 (x8 : Int)]) (.int .i64 1)).run Tryz.prog w = .ok (.int .i32 (x1 : Int)) w := by kernel_rfl
theorem index_j92 (x0 x1 x2 x3 x4 x5 x6 x7 x8 : Nat) (w : World) : (Instr.index 134 (.agg #[.int .i32 (x0 : Int), .int .i32 (x1 : Int), .int .i32 (x2 : Int), .int .i32 (x3 : Int), .int .i32 (x4 : Int), .int .i32 (x5 : Int), .int .i32 (x6 : Int), .int .i32 (x7 : Int), .int .i32 (x8 : Int)]) (.int .i64 2)).run Tryz.prog w = .ok (.int .i32 (x2 : Int)) w := by kernel_rfl
theorem index_j93 (x0 x1 x2 x3 x4 x5 x6 x7 x8 : Nat) (w : World) : (Instr.index 134 (.agg #[.int .i32 (x0 : Int), .int .i32 (x1 : Int), .int .i32 (x2 : Int), .int .i32 (x3 : Int), .int .i32 (x4 : Int), .int .i32 (x5 : Int), .int .i32 (x6 : Int), .int .i32 (x7 : Int), .int .i32 (x8 : Int)]) (.int .i64 3)).run Tryz.prog w = .ok (.int .i32 (x3 : Int)) w := by kernel_rfl
theorem index_j94 (x0 x1 x2 x3 x4 x5 x6 x7 x8 : Nat) (w : World) : (Instr.index 134 (.agg #[.int .i32 (x0 : Int), .int .i32 (x1 : Int), .int .i32 (x2 : Int), .int .i32 (x3 : Int), .int .i32 (x4 : Int), .int .i32 (x5 : Int), .int .i32 (x6 : Int), .int .i32 (x7 : Int), .int .i32 (x8 : Int)]) (.int .i64 4)).run Tryz.prog w = .ok (.int .i32 (x4 : Int)) w := by kernel_rfl
theorem index_j95 (x0 x1 x2 x3 x4 x5 x6 x7 x8 : Nat) (w : World) : (Instr.index 134 (.agg #[.int .i32 (x0 : Int), .int .i32 (x1 : Int), .int .i32 (x2 : Int), .int .i32 (x3 : Int), .int .i32 (x4 : Int), .int .i32 (x5 : Int), .int .i32 (x6 : Int), .int .i32 (x7 : Int), .int .i32 (x8 : Int)]) (.int .i64 5)).run Tryz.prog w = .ok (.int .i32 (x5 : Int)) w := by kernel_rfl
theorem index_j96 (x0 x1 x2 x3 x4 x5 x6 x7 x8 : Nat) (w : World) : (Instr.index 134 (.agg #[.int .i32 (x0 : Int), .int .i32 (x1 : Int), .int .i32 (x2 : Int), .int .i32 (x3 : Int), .int .i32 (x4 : Int), .int .i32 (x5 : Int), .int .i32 (x6 : Int), .int .i32 (x7 : Int), .int .i32 (x8 : Int)]) (.int .i64 6)).run Tryz.prog w = .ok (.int .i32 (x6 : Int)) w := by kernel_rfl
theorem index_j97 (x0 x1 x2 x3 x4 x5 x6 x7 x8 : Nat) (w : World) : (Instr.index 134 (.agg #[.int .i32 (x0 : Int), .int .i32 (x1 : Int), .int .i32 (x2 : Int), .int .i32 (x3 : Int), .int .i32 (x4 : Int), .int .i32 (x5 : Int), .int .i32 (x6 : Int), .int .i32 (x7 : Int), .int .i32 (x8 : Int)]) (.int .i64 7)).run Tryz.prog w = .ok (.int .i32 (x7 : Int)) w := by kernel_rfl
theorem index_j98 (x0 x1 x2 x3 x4 x5 x6 x7 x8 : Nat) (w : World) : (Instr.index 134 (.agg #[.int .i32 (x0 : Int), .int .i32 (x1 : Int), .int .i32 (x2 : Int), .int .i32 (x3 : Int), .int .i32 (x4 : Int), .int .i32 (x5 : Int), .int .i32 (x6 : Int), .int .i32 (x7 : Int), .int .i32 (x8 : Int)]) (.int .i64 8)).run Tryz.prog w = .ok (.int .i32 (x8 : Int)) w := by kernel_rfl
theorem index_j9 (nine : Nat → Nat) (i : Nat) (hi : i < 9) (w : World) : (Instr.index 134 (.agg (arrQ 9 (jQ nine))) (.int .i64 (i : Int))).run Tryz.prog w = .ok (.int .i32 ((nine i : Nat) : Int)) w := by
 match i, hi with
 | 0, _ => exact index_j90 (nine 0) (nine 1) (nine 2) (nine 3) (nine 4) (nine 5) (nine 6) (nine 7) (nine 8) w
 | 1, _ => exact index_j91 (nine 0) (nine 1) (nine 2) (nine 3) (nine 4) (nine 5) (nine 6) (nine 7) (nine 8) w
 | 2, _ => exact index_j92 (nine 0) (nine 1) (nine 2) (nine 3) (nine 4) (nine 5) (nine 6) (nine 7) (nine 8) w
 | 3, _ => exact index_j93 (nine 0) (nine 1) (nine 2) (nine 3) (nine 4) (nine 5) (nine 6) (nine 7) (nine 8) w
 | 4, _ => exact index_j94 (nine 0) (nine 1) (nine 2) (nine 3) (nine 4) (nine 5) (nine 6) (nine 7) (nine 8) w
 | 5, _ => exact index_j95 (nine 0) (nine 1) (nine 2) (nine 3) (nine 4) (nine 5) (nine 6) (nine 7) (nine 8) w
 | 6, _ => exact index_j96 (nine 0) (nine 1) (nine 2) (nine 3) (nine 4) (nine 5) (nine 6) (nine 7) (nine 8) w
 | 7, _ => exact index_j97 (nine 0) (nine 1) (nine 2) (nine 3) (nine 4) (nine 5) (nine 6) (nine 7) (nine 8) w
 | 8, _ => exact index_j98 (nine 0) (nine 1) (nine 2) (nine 3) (nine 4) (nine 5) (nine 6) (nine 7) (nine 8) w
def sqK (qs : List Sq) (nine : Nat → Nat) (i : Nat) : Nat := (sqA qs (nine i)).k
def ArP (qs : List Sq) (nine : Nat → Nat) (w : World) (e : Ending) (w' : World) : Prop := e = .returned (.agg #[.int .u64 ((arE (sqK qs nine) 0 : Nat) : Int), .int .u64 ((arE (sqK qs nine) 1 : Nat) : Int), .int .u64 ((arE (sqK qs nine) 2 : Nat) : Int), .int .u64 ((arE (sqK qs nine) 3 : Nat) : Int)]) ∧ Below w.heap.size w w'
set_option maxRecDepth 100000 in
set_option maxHeartbeats 12800000 in
theorem around_any {mp : Option (Nat × Nat)} (wb ts tb s u : Nat) (most : Int) (sb B g cap : Nat) (qs : List Sq) (nine : Nat → Nat) (w : World) (h : StkA w sb B g cap qs mp) (hW : WkA w wb sb ts tb s u most) (hp : ∀ i, i < 9 → nine i < qs.length) (hl : ∀ i, i < 9 → sqK qs nine i < 18446744073709551616) :
  Calls Tryz.prog 98 #[.pointer (some ⟨wb, 0, none⟩), .agg (arrQ 9 (jQ nine))] w (ArP qs nine w) := by
 have HK := hide' h
 have HWK := hide' hW
 have HP := hide' hp
 have HL := hide' hl
 have IX := hide' (fun i hi V => index_j9 nine i hi V)
 obtain ⟨A, hA⟩ : ∃ A, arrQ 9 (jQ nine) = A := ⟨_, rfl⟩
 have HA := hide' hA
 rw [hA] at IX ⊢
 have zA : A.size = 9 := by rw [← hA]; exact arrQ_size _ _
 obtain ⟨rb, hrb⟩ : ∃ rb, w.heap.size = rb := ⟨_, rfl⟩
 obtain ⟨w2, hw2⟩ : ∃ w2, ((w.alloc (.cells A 134)).alloc (.cells #[.int .u64 0, .int .u64 0, .int .u64 0, .int .u64 0] 186)).alloc (.cells #[.int .u64 0, .int .u64 0, .int .u64 0, .int .u64 0, .int .u64 0, .int .u64 0, .int .u64 0, .int .u64 0, .int .u64 0] 225) = w2 := ⟨_, rfl⟩
 have HW2 := hide' hw2
 have HRB := hide' hrb
 have B2 := hide' (show Below w.heap.size w w2 by rw [← hw2]; exact (((Below.refl _ _).alloc (Nat.le_refl _) _).alloc (by simp) _).alloc (by simp; omega) _)
 have A2 := hide' (show w2.heap[rb]? = some (.cells A 134 (0, 0)) by rw [← hw2, ← hrb]; exact (heap_alloc_old _ _ (by simp; omega)).trans ((heap_alloc_old _ _ (by simp)).trans (heap_alloc_new w _)))
 have R2 := hide' (show w2.heap[rb + 1]? = some (.cells #[.int .u64 0, .int .u64 0, .int .u64 0, .int .u64 0] 186 (0, 0)) by rw [← hw2]; exact (heap_alloc_old _ _ (by simp [hrb])).trans (heap_atX _ _ _ (by simp [hrb])))
 have O2 := hide' (show ArV w2 (rb + 2) 9 225 (uQ (uptQ (sqK qs nine) 0)) by unfold ArV; rw [← hw2]; exact heap_atX _ _ _ (by simp [hrb]))
 have Z2 := hide' (show w2.heap.size = rb + 3 by rw [← hw2]; simp [hrb])
 have K2 := hide' (h.below B2.out)
 have W2 := hide' (hW.below B2.out)
 obtain ⟨qn, hqn⟩ : ∃ n, qs.length = n := ⟨_, rfl⟩
 have HQN := hide' hqn
 have WL := hide' (lt_of_block hW)
 clear hw2 hrb h hW hp hqn hA hl
 go_enter Tryz.func98, Tryz.ntmps98
 go_upto_region 2 with fail
 rw [HW2.out, HRB.out]
 have a2 := A2.out
 go_wp2_with (first
  | (refine wpList_load_row rfl 134 _ rfl rb rfl 134 A (0, 0) _ a2 Tryz.underlying134 rfl (by rw [zA]; kernel_rfl) ?_))
 clear a2
 go_loopw [9] (fun iv wr => ∃ (i : Nat), iv = .int .i64 (i : Int) ∧ i ≤ 9 ∧ Hid (ArV wr (rb + 2) 9 225 (uQ (uptQ (sqK qs nine) i))) ∧ Hid (KpW (rb + 2) w2 wr)) (fun iv _ => 9 - (intOf iv).toNat)
 case atStart => exact ⟨0, rfl, by omega, O2, hide' (KpW.of_below (Below.refl _ _))⟩
 case round =>
  obtain ⟨i, rfl, hi, HO, HKP⟩ := hrel
  by_cases di : i < 9
  ·have d1 : (i : Int) < 9 := by omega
   have ix := IX.out i di
   obtain ⟨pt, hpt⟩ : ∃ t, nine i = t := ⟨_, rfl⟩
   rw [hpt] at ix
   have KR := hide' (show StkA wr sb B g cap qs mp from K2.out.keepM (HKP.out.keep _ K2.out.lt.1 (fun e => by have := HK.out.lt.1; have := HRB.out; omega)) (HKP.out.keep _ K2.out.lt.2 (fun e => by have := HK.out.lt.2; have := HRB.out; omega)) (fun k q => HKP.out.keep _ (K2.out.map.lt q) (fun e => by have := HK.out.map.lt q; have := HRB.out; omega)))
   have WR := (show WkA wr wb sb ts tb s u most from (HKP.out.keep _ (lt_of_block W2.out) (fun e => by have := WL.out; have := HRB.out; omega)).trans W2.out)
   have k0 := cell_of_row wr wb 0 _ _ _ WR
   simp at k0
   have c0 := KR.out.c0
   have ptl : pt < qs.length := by rw [← hpt]; exact HP.out i di
   obtain ⟨-, -, -, -, q4, -⟩ := KR.out.cells ptl
   rw [HQN.out] at c0 ptl
   have l1 : (pt : Int) < (qn : Int) := by omega
   obtain ⟨v, hv⟩ : ∃ v, (sqA qs pt).k = v := ⟨_, rfl⟩
   rw [hv] at q4
   have HV := hide' (show sqK qs nine i = v by unfold sqK; rw [hpt]; exact hv)
   have rc := HO.out.cell di
   have rf := HO.out.frozen i
   have A5 := hide' ((HO.out.set i (.int .u64 (v : Int))).ext (f' := uQ (uptQ (sqK qs nine) (i + 1))) fun j _ => upt_next HV.out j)
   have P5 := hide' (HKP.out.set (i := i) (.int .u64 (v : Int)))
   clear hv ptl hpt WR
   go_wp2
   exact ⟨⟨i + 1, by go_num, by omega, A5, P5⟩, by simp [intOf]; omega⟩
  ·have d1 : ¬ (i : Int) < 9 := by omega
   obtain rfl : i = 9 := by omega
   have gb := (HKP.out.keep (rb + 1) (by have := Z2.out; omega) (by omega)).trans R2.out
   have GB := hide' gb
   have BF := hide' (show Below w.heap.size w wr from B2.out.trans ⟨HKP.out.os, HKP.out.tape, HKP.out.output, HKP.out.size, fun k hk => HKP.out.keep k (by have := B2.out.size; omega) (by have := HRB.out; omega)⟩)
   have k0 : wr.cell? ⟨rb + 2, 0, none⟩ = some (.int .u64 ((sqK qs nine 0 : Nat) : Int)) := by rw [HO.out.cell (by decide)]; unfold uQ; rw [upt_all (by decide)]
   have k1 : wr.cell? ⟨rb + 2, 1, none⟩ = some (.int .u64 ((sqK qs nine 1 : Nat) : Int)) := by rw [HO.out.cell (by decide)]; unfold uQ; rw [upt_all (by decide)]
   have k2 : wr.cell? ⟨rb + 2, 2, none⟩ = some (.int .u64 ((sqK qs nine 2 : Nat) : Int)) := by rw [HO.out.cell (by decide)]; unfold uQ; rw [upt_all (by decide)]
   have k3 : wr.cell? ⟨rb + 2, 3, none⟩ = some (.int .u64 ((sqK qs nine 3 : Nat) : Int)) := by rw [HO.out.cell (by decide)]; unfold uQ; rw [upt_all (by decide)]
   have k4 : wr.cell? ⟨rb + 2, 4, none⟩ = some (.int .u64 ((sqK qs nine 4 : Nat) : Int)) := by rw [HO.out.cell (by decide)]; unfold uQ; rw [upt_all (by decide)]
   have k5 : wr.cell? ⟨rb + 2, 5, none⟩ = some (.int .u64 ((sqK qs nine 5 : Nat) : Int)) := by rw [HO.out.cell (by decide)]; unfold uQ; rw [upt_all (by decide)]
   have k6 : wr.cell? ⟨rb + 2, 6, none⟩ = some (.int .u64 ((sqK qs nine 6 : Nat) : Int)) := by rw [HO.out.cell (by decide)]; unfold uQ; rw [upt_all (by decide)]
   have k7 : wr.cell? ⟨rb + 2, 7, none⟩ = some (.int .u64 ((sqK qs nine 7 : Nat) : Int)) := by rw [HO.out.cell (by decide)]; unfold uQ; rw [upt_all (by decide)]
   have k8 : wr.cell? ⟨rb + 2, 8, none⟩ = some (.int .u64 ((sqK qs nine 8 : Nat) : Int)) := by rw [HO.out.cell (by decide)]; unfold uQ; rw [upt_all (by decide)]
   have C0 := hide' (fun V => between_any (sqK qs nine 0) (sqK qs nine 1) (sqK qs nine 3) (sqK qs nine 4) V (HL.out _ (by decide)) (HL.out _ (by decide)) (HL.out _ (by decide)) (HL.out _ (by decide)))
   have E0 := hide' (show arE (sqK qs nine) 0 = betE (sqK qs nine 0) (sqK qs nine 1) (sqK qs nine 3) (sqK qs nine 4) from rfl)
   have C1 := hide' (fun V => between_any (sqK qs nine 1) (sqK qs nine 2) (sqK qs nine 4) (sqK qs nine 5) V (HL.out _ (by decide)) (HL.out _ (by decide)) (HL.out _ (by decide)) (HL.out _ (by decide)))
   have E1 := hide' (show arE (sqK qs nine) 1 = betE (sqK qs nine 1) (sqK qs nine 2) (sqK qs nine 4) (sqK qs nine 5) from rfl)
   have C2 := hide' (fun V => between_any (sqK qs nine 3) (sqK qs nine 4) (sqK qs nine 6) (sqK qs nine 7) V (HL.out _ (by decide)) (HL.out _ (by decide)) (HL.out _ (by decide)) (HL.out _ (by decide)))
   have E2 := hide' (show arE (sqK qs nine) 2 = betE (sqK qs nine 3) (sqK qs nine 4) (sqK qs nine 6) (sqK qs nine 7) from rfl)
   have C3 := hide' (fun V => between_any (sqK qs nine 4) (sqK qs nine 5) (sqK qs nine 7) (sqK qs nine 8) V (HL.out _ (by decide)) (HL.out _ (by decide)) (HL.out _ (by decide)) (HL.out _ (by decide)))
   have E3 := hide' (show arE (sqK qs nine) 3 = betE (sqK qs nine 4) (sqK qs nine 5) (sqK qs nine 7) (sqK qs nine 8) from rfl)
   obtain ⟨y0, hy0⟩ : ∃ y, sqK qs nine 0 = y := ⟨_, rfl⟩
   obtain ⟨y1, hy1⟩ : ∃ y, sqK qs nine 1 = y := ⟨_, rfl⟩
   obtain ⟨y2, hy2⟩ : ∃ y, sqK qs nine 2 = y := ⟨_, rfl⟩
   obtain ⟨y3, hy3⟩ : ∃ y, sqK qs nine 3 = y := ⟨_, rfl⟩
   obtain ⟨y4, hy4⟩ : ∃ y, sqK qs nine 4 = y := ⟨_, rfl⟩
   obtain ⟨y5, hy5⟩ : ∃ y, sqK qs nine 5 = y := ⟨_, rfl⟩
   obtain ⟨y6, hy6⟩ : ∃ y, sqK qs nine 6 = y := ⟨_, rfl⟩
   obtain ⟨y7, hy7⟩ : ∃ y, sqK qs nine 7 = y := ⟨_, rfl⟩
   obtain ⟨y8, hy8⟩ : ∃ y, sqK qs nine 8 = y := ⟨_, rfl⟩
   rw [hy0] at k0
   rw [hy1] at k1
   rw [hy2] at k2
   rw [hy3] at k3
   rw [hy4] at k4
   rw [hy5] at k5
   rw [hy6] at k6
   rw [hy7] at k7
   rw [hy8] at k8
   rw [hy0, hy1, hy3, hy4] at C0 E0
   obtain ⟨m0, hm0⟩ : ∃ m, betE y0 y1 y3 y4 = m := ⟨_, rfl⟩
   rw [hm0] at C0 E0
   rw [hy1, hy2, hy4, hy5] at C1 E1
   obtain ⟨m1, hm1⟩ : ∃ m, betE y1 y2 y4 y5 = m := ⟨_, rfl⟩
   rw [hm1] at C1 E1
   rw [hy3, hy4, hy6, hy7] at C2 E2
   obtain ⟨m2, hm2⟩ : ∃ m, betE y3 y4 y6 y7 = m := ⟨_, rfl⟩
   rw [hm2] at C2 E2
   rw [hy4, hy5, hy7, hy8] at C3 E3
   obtain ⟨m3, hm3⟩ : ∃ m, betE y4 y5 y7 y8 = m := ⟨_, rfl⟩
   rw [hm3] at C3 E3
   clear hy0 hy1 hy2 hy3 hy4 hy5 hy6 hy7 hy8 hm0 hm1 hm2 hm3
   have g0 := cell_of_row wr (rb + 1) 0 _ _ _ gb
   have g1 := cell_of_row wr (rb + 1) 1 _ _ _ gb
   have g2 := cell_of_row wr (rb + 1) 2 _ _ _ gb
   have g3 := cell_of_row wr (rb + 1) 3 _ _ _ gb
   have f0 := frozen_of_row wr (rb + 1) 0 _ _ gb
   have f1 := frozen_of_row wr (rb + 1) 1 _ _ gb
   have f2 := frozen_of_row wr (rb + 1) 2 _ _ gb
   have f3 := frozen_of_row wr (rb + 1) 3 _ _ gb
   simp at g0 g1 g2 g3
   clear gb
   have SK := hide' (And.intro k0 (And.intro k1 (And.intro k2 (And.intro k3 (And.intro k4 (And.intro k5 (And.intro k6 (And.intro k7 k8))))))))
   have SX := hide' (fun (a b c d : Value) (V : World) (hV : V = ((((wr.setCell ⟨rb + 1, 0, none⟩ a).setCell ⟨rb + 1, 1, none⟩ b).setCell ⟨rb + 1, 2, none⟩ c).setCell ⟨rb + 1, 3, none⟩ d).drew) => show V.cell? ⟨rb + 2, 0, none⟩ = some (.int .u64 (y0 : Int)) ∧ V.cell? ⟨rb + 2, 1, none⟩ = some (.int .u64 (y1 : Int)) ∧ V.cell? ⟨rb + 2, 2, none⟩ = some (.int .u64 (y2 : Int)) ∧ V.cell? ⟨rb + 2, 3, none⟩ = some (.int .u64 (y3 : Int)) ∧ V.cell? ⟨rb + 2, 4, none⟩ = some (.int .u64 (y4 : Int)) ∧ V.cell? ⟨rb + 2, 5, none⟩ = some (.int .u64 (y5 : Int)) ∧ V.cell? ⟨rb + 2, 6, none⟩ = some (.int .u64 (y6 : Int)) ∧ V.cell? ⟨rb + 2, 7, none⟩ = some (.int .u64 (y7 : Int)) ∧ V.cell? ⟨rb + 2, 8, none⟩ = some (.int .u64 (y8 : Int)) from by
    have e : V.heap[rb + 2]? = wr.heap[rb + 2]? := by rw [hV]; exact (set_other (by omega)).trans ((set_other (by omega)).trans ((set_other (by omega)).trans (set_other (by omega))))
    exact ⟨(World.cell?_of_block (a := ⟨rb + 2, 0, none⟩) e).trans k0, (World.cell?_of_block (a := ⟨rb + 2, 1, none⟩) e).trans k1, (World.cell?_of_block (a := ⟨rb + 2, 2, none⟩) e).trans k2, (World.cell?_of_block (a := ⟨rb + 2, 3, none⟩) e).trans k3, (World.cell?_of_block (a := ⟨rb + 2, 4, none⟩) e).trans k4, (World.cell?_of_block (a := ⟨rb + 2, 5, none⟩) e).trans k5, (World.cell?_of_block (a := ⟨rb + 2, 6, none⟩) e).trans k6, (World.cell?_of_block (a := ⟨rb + 2, 7, none⟩) e).trans k7, (World.cell?_of_block (a := ⟨rb + 2, 8, none⟩) e).trans k8⟩)
   go_upto_region 7 with fail
   go_region_held3 (fun V => V.cell? ⟨rb + 2, 0, none⟩ = some (.int .u64 (y0 : Int)) ∧ V.cell? ⟨rb + 2, 1, none⟩ = some (.int .u64 (y1 : Int)) ∧ V.cell? ⟨rb + 2, 2, none⟩ = some (.int .u64 (y2 : Int)) ∧ V.cell? ⟨rb + 2, 3, none⟩ = some (.int .u64 (y3 : Int)) ∧ V.cell? ⟨rb + 2, 4, none⟩ = some (.int .u64 (y4 : Int)) ∧ V.cell? ⟨rb + 2, 5, none⟩ = some (.int .u64 (y5 : Int)) ∧ V.cell? ⟨rb + 2, 6, none⟩ = some (.int .u64 (y6 : Int)) ∧ V.cell? ⟨rb + 2, 7, none⟩ = some (.int .u64 (y7 : Int)) ∧ V.cell? ⟨rb + 2, 8, none⟩ = some (.int .u64 (y8 : Int))) (first | exact SK.out | exact SX.out _ _ _ _ _ rfl | fail) (first | (go_at_call_of 122 (Value.int .u64 (y0 : Int)); refine (C0.out _).mono ?_; rintro o wq ⟨rfl, rfl⟩) | (go_at_call_of 122 (Value.int .u64 (y1 : Int)); refine (C1.out _).mono ?_; rintro o wq ⟨rfl, rfl⟩) | (go_at_call_of 122 (Value.int .u64 (y3 : Int)); refine (C2.out _).mono ?_; rintro o wq ⟨rfl, rfl⟩) | (go_at_call_of 122 (Value.int .u64 (y4 : Int)); refine (C3.out _).mono ?_; rintro o wq ⟨rfl, rfl⟩) | fail)
   obtain ⟨X, hX⟩ : ∃ X, ((((wr.setCell ⟨rb + 1, 0, none⟩ (.int .u64 (m0 : Int))).setCell ⟨rb + 1, 1, none⟩ (.int .u64 (m1 : Int))).setCell ⟨rb + 1, 2, none⟩ (.int .u64 (m2 : Int))).setCell ⟨rb + 1, 3, none⟩ (.int .u64 (m3 : Int))).drew = X := ⟨_, rfl⟩
   have GX : X.heap[rb + 1]? = some (.cells #[.int .u64 (m0 : Int), .int .u64 (m1 : Int), .int .u64 (m2 : Int), .int .u64 (m3 : Int)] 186 (0, 0)) := by
    rw [← hX]
    have h0 := heap_setCell_same _ _ 0 _ _ (.int .u64 (m0 : Int)) GB.out
    have h1 := heap_setCell_same _ _ 1 _ _ (.int .u64 (m1 : Int)) h0
    have h2 := heap_setCell_same _ _ 2 _ _ (.int .u64 (m2 : Int)) h1
    exact (heap_setCell_same _ _ 3 _ _ (.int .u64 (m3 : Int)) h2)
   have BX : Below w.heap.size w X := by
    rw [← hX]
    have := HRB.out
    exact ((((BF.out.setCell (p := ⟨rb + 1, 0, none⟩) (by show w.heap.size ≤ rb + 1; omega) _).setCell (p := ⟨rb + 1, 1, none⟩) (by show w.heap.size ≤ rb + 1; omega) _).setCell (p := ⟨rb + 1, 2, none⟩) (by show w.heap.size ≤ rb + 1; omega) _).setCell (p := ⟨rb + 1, 3, none⟩) (by show w.heap.size ≤ rb + 1; omega) _).drew
   rw [hX]
   clear hX g0 g1 g2 g3 f0 f1 f2 f3
   have i0 := cell_of_row X _ 0 _ _ _ GX
   have i1 := cell_of_row X _ 1 _ _ _ GX
   have i2 := cell_of_row X _ 2 _ _ _ GX
   have i3 := cell_of_row X _ 3 _ _ _ GX
   simp at i0 i1 i2 i3
   go_wp2
   refine bodyPost_ret (v := .agg #[.int .u64 (m0 : Int), .int .u64 (m1 : Int), .int .u64 (m2 : Int), .int .u64 (m3 : Int)]) (by simp [results, Tryz.results98, go_sem, i0, i1, i2, i3]) rfl ?_
   exact ⟨by rw [E0.out, E1.out, E2.out, E3.out], BX⟩
end Go.Proofs.YtemhcpldflcfbaaGreatDoor
