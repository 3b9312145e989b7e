/-
  What the last text of this claim leans on, part 45: Gu1, Gt9.
-/
import Derived.Test.YtemhcpldflcfbaaGreatDoorYf44
namespace Go.Proofs.YtemhcpldflcfbaaGreatDoor
open Go.RowKit
set_option linter.unusedVariables false
theorem put_get (a : Act) (t k : Nat) (v : Value) (ht : t < a.tmps.size) : (a.put (some t) v).tmps[k]? = if k = t then some v else a.tmps[k]? := by
 unfold Act.put
 dsimp only
 rw [Array.getElem?_setIfInBounds]
 by_cases h : t = k
 ·subst h; rw [if_pos rfl, if_pos ht, if_pos rfl]
 ·rw [if_neg h, if_neg (fun e => h e.symm)]
theorem put_size (a : Act) (t : Option Nat) (v : Value) : (a.put t v).tmps.size = a.tmps.size := by cases t <;> simp [Act.put]
theorem put_defers (a : Act) (t : Option Nat) (v : Value) : (a.put t v).defers = a.defers := by cases t <;> rfl
theorem eval_of {a : Act} {t : Nat} {v : Value} (h : a.tmps[t]? = some v) : a.eval (.tmp t) = v := by simp [Act.eval, h]
theorem ready_noneB {ops : Array Oper} {listed : Array Bool} (hr : Region.ready .any ops listed = []) (hs : listed.size = ops.size) (h : ∀ k, k < ops.size → ((ops[k]?).map fun o => o.after.all fun e => !Region.binds .any e || decide (e.on < k)).getD false = true) : ∀ k, k < ops.size → listed.getD k true = true := by
 intro k
 induction k using Nat.strongRecOn with
 | ind k ih =>
  intro hk
  cases hl : listed.getD k true with
  | true => rfl
  | false =>
   exfalso
   have : k ∈ Region.ready .any ops listed := by
    refine mem_ready.2 ⟨hl, ops[k], by simp [hk], fun e he hbd => ?_⟩
    have h1 := h k hk
    rw [show ops[k]? = some ops[k] by simp [hk]] at h1
    simp only [Option.map_some, Option.getD_some, Array.all_eq_true] at h1
    obtain ⟨n, hn, rfl⟩ := Array.getElem_of_mem he
    have h2 : (ops[k].after[n]).on < k := by
     have := h1 n hn
     rw [hbd] at this
     simpa using this
    have h3 := ih _ h2 (by omega)
    have h4 : (ops[k].after[n]).on < listed.size := by omega
    simpa [Array.getD_eq_getD_getElem?, h4] using h3
   rw [hr] at this
   cases this
structure RP (B : Nat) (wc w0 : World) (a : Act) (w : World) (p b : Nat) (Z Zr : Array Value) (RV : Nat → Array Value) (tP : TypeId) (ob : Obj) (u d : Value) (l0 l1 l2 l3 l4 l5 l6 l7 l8 l9 : Bool) (q : Nat) : Prop where
 below : Below B wc w
 keep : ∀ k, k < w0.heap.size → k ≠ b → w.heap[k]? = w0.heap[k]?
 size : w0.heap.size ≤ w.heap.size
 rb : w.heap[b]? = some (.cells (if l6 then RV q else Zr) tP (0, 0))
 s6 : a.tmps[6]? = some (.pointer (some ⟨b, 0, none⟩))
 s11 : a.tmps[11]? = some (.pointer (some ⟨p, 0, none⟩))
 sz : a.tmps.size = 46
 df : a.defers = []
 d0 : l0 = true → a.tmps[40]? = some (.agg Z)
 d1 : l1 = true → a.tmps[41]? = some (.agg (RV q)) ∧ w0.heap.size ≤ q ∧ w.heap[q]? = some ob
 d2 : l2 = true → a.tmps[42]? = some (.pointer (some ⟨p, 206, none⟩))
 d3 : l3 = true → a.tmps[43]? = some u
 d4 : l4 = true → a.tmps[44]? = some (.pointer (some ⟨p, 207, none⟩))
 d5 : l5 = true → a.tmps[45]? = some d
 d7 : l7 = true → a.tmps[7]? = some u
 d8 : l8 = true → a.tmps[8]? = some d
 d9 : l9 = true → a.tmps[9]? = some .nilIface
 e6 : l6 = true → l1 = true
set_option maxHeartbeats 3200000 in
theorem regionP {P : Program} {id : Nat} {Q : Exit → Act → World → Prop} {a0 : Act} {wc w0 : World} (hm : P.follows .mixedOrders = true) (B p b : Nat) (o0 o1 o2 o3 o4 o5 o6 o7 o8 o9 : Oper) (tG tP : TypeId) (D : TypeDesc) (f : FuncId) (Z Zr : Array Value) (RV : Nat → Array Value) (ob : Obj) (u d : Value)
  (hg : ([o0, o1, o2, o3, o4, o5, o6, o7, o8, o9].map (·.guard)) = List.replicate 10 none)
  (hd : [o0.dst, o1.dst, o2.dst, o3.dst, o4.dst, o5.dst, o6.dst, o7.dst, o8.dst, o9.dst] = [some 40, some 41, some 42, some 43, some 44, some 45, none, some 7, some 8, some 9])
  (h0 : o0.op = .load tG (.tmp 11)) (h6 : o6.op = .store tP (.tmp 6) (.tmp 41))
  (k1 : ∀ (a : Act) w v, a.tmps[40]? = some v → (execOp a.eval o1).run P w = .ok (.enter f #[v]) w)
  (k2 : ∀ (a : Act) w, a.tmps[11]? = some (.pointer (some ⟨p, 0, none⟩)) → (execOp a.eval o2).run P w = .ok (.value (.pointer (some ⟨p, 206, none⟩))) w)
  (k3 : ∀ (a : Act) w, a.tmps[42]? = some (.pointer (some ⟨p, 206, none⟩)) → w.cell? ⟨p, 206, none⟩ = some u → (execOp a.eval o3).run P w = .ok (.value u) w)
  (k4 : ∀ (a : Act) w, a.tmps[11]? = some (.pointer (some ⟨p, 0, none⟩)) → (execOp a.eval o4).run P w = .ok (.value (.pointer (some ⟨p, 207, none⟩))) w)
  (k5 : ∀ (a : Act) w, a.tmps[44]? = some (.pointer (some ⟨p, 207, none⟩)) → w.cell? ⟨p, 207, none⟩ = some d → (execOp a.eval o5).run P w = .ok (.value d) w)
  (k7 : ∀ (a : Act) w v, a.tmps[43]? = some v → (execOp a.eval o7).run P w = .ok (.value v) w)
  (k8 : ∀ (a : Act) w v, a.tmps[45]? = some v → (execOp a.eval o8).run P w = .ok (.value v) w)
  (k9 : ∀ (a : Act) w, (execOp a.eval o9).run P w = .ok (.value .nilIface) w)
  (hu : P.underlying tG = some D) (hD : (match D with | .struct _ | .array _ _ => true | _ => false) = true) (hi : (P.info? tG).map (·.size) = some Z.size)
  (hr : ∀ q, (P.info? tP).map (·.size) = some (RV q).size) (hz : ∀ q, Zr.size = (RV q).size) (ha : ∀ q, (RV q).all (·.oneCell') = true)
  (gp : w0.heap[p]? = some (.cells Z tG (0, 0))) (gb : w0.heap[b]? = some (.cells Zr tP (0, 0))) (pb : p ≠ b) (Bb : B ≤ b) (bc : Below B wc w0)
  (c6 : Z[206]? = some u) (c7 : Z[207]? = some d)
  (z6 : a0.tmps[6]? = some (.pointer (some ⟨b, 0, none⟩))) (z11 : a0.tmps[11]? = some (.pointer (some ⟨p, 0, none⟩))) (zz : a0.tmps.size = 46) (zd : a0.defers = [])
  (E1 : ((List.range 10).all fun k => ((#[o0, o1, o2, o3, o4, o5, o6, o7, o8, o9][k]?).map fun o => o.after.all fun e => !Region.binds .any e || decide (e.on < k)).getD false) = true)
  (E2 : ([(1, 0), (3, 2), (5, 4), (6, 1), (7, 3), (8, 5)].all fun (x : Nat × Nat) => ((#[o0, o1, o2, o3, o4, o5, o6, o7, o8, o9][x.1]?).map fun o => o.after.any fun e => Region.binds .any e && e.on == x.2).getD false) = true)
  (hc : ∀ w, Calls P f #[.agg Z] w fun e w' => (∃ q, e = .returned (.agg (RV q)) ∧ w.heap.size ≤ q ∧ w'.heap[q]? = some ob) ∧ Below w.heap.size w w')
  (hQ : ∀ a w q, Below B wc w → w.heap[b]? = some (.cells (RV q) tP (0, 0)) → w0.heap.size ≤ q → w.heap[q]? = some ob → a.tmps[6]? = some (.pointer (some ⟨b, 0, none⟩)) → a.tmps[7]? = some u → a.tmps[8]? = some d → a.tmps[9]? = some .nilIface → a.defers = [] → Q .normal a w) :
  (Code.region id #[o0, o1, o2, o3, o4, o5, o6, o7, o8, o9] true).wp P Q a0 w0 := by
 simp only [List.map_cons, List.map_nil, List.replicate, List.cons.injEq, and_true] at hg hd
 obtain ⟨q0, q1, q2, q3, q4, q5, q6, q7, q8, q9⟩ := hg
 obtain ⟨t0, t1, t2, t3, t4, t5, t6, t7, t8, t9⟩ := hd
 have bl := lt_of_block gb
 have pl := lt_of_block gp
 have need : ∀ l0 l1 l2 l3 l4 l5 l6 l7 l8 l9 i j, i ∈ Region.ready .any #[o0, o1, o2, o3, o4, o5, o6, o7, o8, o9] #[l0, l1, l2, l3, l4, l5, l6, l7, l8, l9] → (i, j) ∈ [(1, 0), (3, 2), (5, 4), (6, 1), (7, 3), (8, 5)] → (#[l0, l1, l2, l3, l4, l5, l6, l7, l8, l9] : Array Bool).getD j false = true := fun l0 l1 l2 l3 l4 l5 l6 l7 l8 l9 i j hi hj => ready_needs hi ((List.all_eq_true.1 E2) (i, j) hj)
 refine wp_region_any hm (wpAny_inv (fun listed a w => ∃ l0 l1 l2 l3 l4 l5 l6 l7 l8 l9, listed = #[l0, l1, l2, l3, l4, l5, l6, l7, l8, l9] ∧ ∃ q, RP B wc w0 a w p b Z Zr RV tP ob u d l0 l1 l2 l3 l4 l5 l6 l7 l8 l9 q) ?_ ?_ _ _ _ _ (by simp) ?_)
 ·rintro listed a w ⟨l0, l1, l2, l3, l4, l5, l6, l7, l8, l9, rfl, q, R⟩ i hr'
  have N := need l0 l1 l2 l3 l4 l5 l6 l7 l8 l9 i
  have h' := (mem_ready.1 hr').1
  have gpw := (R.keep p pl pb).trans gp
  rcases i with _ | _ | _ | _ | _ | _ | _ | _ | _ | _ | i
  ·refine wpOp_of (o := o0) rfl q0 (wp_load_row tG (.tmp 11) h0 p (eval_of R.s11) tG Z (0, 0) D gpw hu (by revert hD; cases D <;> simp) hi ?_)
   rw [t0]
   exact ⟨true, l1, l2, l3, l4, l5, l6, l7, l8, l9, rfl, q, ⟨R.below, R.keep, R.size, R.rb, by rw [put_get _ _ _ _ (by rw [R.sz]; omega), if_neg (by omega)]; exact R.s6, by rw [put_get _ _ _ _ (by rw [R.sz]; omega), if_neg (by omega)]; exact R.s11, by rw [put_size]; exact R.sz, by rw [put_defers]; exact R.df, fun _ => by rw [put_get _ _ _ _ (by rw [R.sz]; omega), if_pos rfl], fun h => ⟨by rw [put_get _ _ _ _ (by rw [R.sz]; omega), if_neg (by omega)]; exact (R.d1 h).1, (R.d1 h).2.1, (R.d1 h).2.2⟩, fun h => by rw [put_get _ _ _ _ (by rw [R.sz]; omega), if_neg (by omega)]; exact R.d2 h, fun h => by rw [put_get _ _ _ _ (by rw [R.sz]; omega), if_neg (by omega)]; exact R.d3 h, fun h => by rw [put_get _ _ _ _ (by rw [R.sz]; omega), if_neg (by omega)]; exact R.d4 h, fun h => by rw [put_get _ _ _ _ (by rw [R.sz]; omega), if_neg (by omega)]; exact R.d5 h, fun h => by rw [put_get _ _ _ _ (by rw [R.sz]; omega), if_neg (by omega)]; exact R.d7 h, fun h => by rw [put_get _ _ _ _ (by rw [R.sz]; omega), if_neg (by omega)]; exact R.d8 h, fun h => by rw [put_get _ _ _ _ (by rw [R.sz]; omega), if_neg (by omega)]; exact R.d9 h, R.e6⟩⟩
  ·have nl6 : l6 = false := by
    cases hl : l6 with
    | false => rfl
    | true => exact absurd (R.e6 hl) (by rw [show l1 = false from h']; simp)
   subst nl6
   refine wpOp_of (o := o1) rfl q1 ?_
   unfold Oper.wp
   rw [k1 a w _ (R.d0 (N 0 hr' (by simp))), Oper.upon_enter]
   refine (hc w).mono ?_
   rintro e W ⟨⟨q', rfl, hq1, hq2⟩, bb⟩
   show ∃ _, _
   rw [t1]
   exact ⟨l0, true, l2, l3, l4, l5, false, l7, l8, l9, rfl, q', ⟨R.below.trans (bb.mono (Nat.le_trans (Nat.le_trans Bb (Nat.le_of_lt bl)) R.size)), fun k hk hn => (bb.block k (Nat.lt_of_lt_of_le hk R.size)).trans (R.keep k hk hn), Nat.le_trans R.size bb.size, (bb.block b (Nat.lt_of_lt_of_le bl R.size)).trans R.rb, by rw [put_get _ _ _ _ (by rw [R.sz]; omega), if_neg (by omega)]; exact R.s6, by rw [put_get _ _ _ _ (by rw [R.sz]; omega), if_neg (by omega)]; exact R.s11, by rw [put_size]; exact R.sz, by rw [put_defers]; exact R.df, fun h => by rw [put_get _ _ _ _ (by rw [R.sz]; omega), if_neg (by omega)]; exact R.d0 h, fun _ => ⟨by rw [put_get _ _ _ _ (by rw [R.sz]; omega), if_pos rfl], Nat.le_trans R.size hq1, hq2⟩, fun h => by rw [put_get _ _ _ _ (by rw [R.sz]; omega), if_neg (by omega)]; exact R.d2 h, fun h => by rw [put_get _ _ _ _ (by rw [R.sz]; omega), if_neg (by omega)]; exact R.d3 h, fun h => by rw [put_get _ _ _ _ (by rw [R.sz]; omega), if_neg (by omega)]; exact R.d4 h, fun h => by rw [put_get _ _ _ _ (by rw [R.sz]; omega), if_neg (by omega)]; exact R.d5 h, fun h => by rw [put_get _ _ _ _ (by rw [R.sz]; omega), if_neg (by omega)]; exact R.d7 h, fun h => by rw [put_get _ _ _ _ (by rw [R.sz]; omega), if_neg (by omega)]; exact R.d8 h, fun h => by rw [put_get _ _ _ _ (by rw [R.sz]; omega), if_neg (by omega)]; exact R.d9 h, fun _ => rfl⟩⟩
  ·refine wpOp_of (o := o2) rfl q2 ?_
   unfold Oper.wp
   rw [k2 a w R.s11]
   show ∃ _, _
   rw [t2]
   exact ⟨l0, l1, true, l3, l4, l5, l6, l7, l8, l9, rfl, q, ⟨R.below, R.keep, R.size, R.rb, by rw [put_get _ _ _ _ (by rw [R.sz]; omega), if_neg (by omega)]; exact R.s6, by rw [put_get _ _ _ _ (by rw [R.sz]; omega), if_neg (by omega)]; exact R.s11, by rw [put_size]; exact R.sz, by rw [put_defers]; exact R.df, fun h => by rw [put_get _ _ _ _ (by rw [R.sz]; omega), if_neg (by omega)]; exact R.d0 h, fun h => ⟨by rw [put_get _ _ _ _ (by rw [R.sz]; omega), if_neg (by omega)]; exact (R.d1 h).1, (R.d1 h).2.1, (R.d1 h).2.2⟩, fun _ => by rw [put_get _ _ _ _ (by rw [R.sz]; omega), if_pos rfl], fun h => by rw [put_get _ _ _ _ (by rw [R.sz]; omega), if_neg (by omega)]; exact R.d3 h, fun h => by rw [put_get _ _ _ _ (by rw [R.sz]; omega), if_neg (by omega)]; exact R.d4 h, fun h => by rw [put_get _ _ _ _ (by rw [R.sz]; omega), if_neg (by omega)]; exact R.d5 h, fun h => by rw [put_get _ _ _ _ (by rw [R.sz]; omega), if_neg (by omega)]; exact R.d7 h, fun h => by rw [put_get _ _ _ _ (by rw [R.sz]; omega), if_neg (by omega)]; exact R.d8 h, fun h => by rw [put_get _ _ _ _ (by rw [R.sz]; omega), if_neg (by omega)]; exact R.d9 h, R.e6⟩⟩
  ·refine wpOp_of (o := o3) rfl q3 ?_
   unfold Oper.wp
   rw [k3 a w (R.d2 (N 2 hr' (by simp))) (by rw [cell_of_row w p 206 _ _ _ gpw]; exact c6)]
   show ∃ _, _
   rw [t3]
   exact ⟨l0, l1, l2, true, l4, l5, l6, l7, l8, l9, rfl, q, ⟨R.below, R.keep, R.size, R.rb, by rw [put_get _ _ _ _ (by rw [R.sz]; omega), if_neg (by omega)]; exact R.s6, by rw [put_get _ _ _ _ (by rw [R.sz]; omega), if_neg (by omega)]; exact R.s11, by rw [put_size]; exact R.sz, by rw [put_defers]; exact R.df, fun h => by rw [put_get _ _ _ _ (by rw [R.sz]; omega), if_neg (by omega)]; exact R.d0 h, fun h => ⟨by rw [put_get _ _ _ _ (by rw [R.sz]; omega), if_neg (by omega)]; exact (R.d1 h).1, (R.d1 h).2.1, (R.d1 h).2.2⟩, fun h => by rw [put_get _ _ _ _ (by rw [R.sz]; omega), if_neg (by omega)]; exact R.d2 h, fun _ => by rw [put_get _ _ _ _ (by rw [R.sz]; omega), if_pos rfl], fun h => by rw [put_get _ _ _ _ (by rw [R.sz]; omega), if_neg (by omega)]; exact R.d4 h, fun h => by rw [put_get _ _ _ _ (by rw [R.sz]; omega), if_neg (by omega)]; exact R.d5 h, fun h => by rw [put_get _ _ _ _ (by rw [R.sz]; omega), if_neg (by omega)]; exact R.d7 h, fun h => by rw [put_get _ _ _ _ (by rw [R.sz]; omega), if_neg (by omega)]; exact R.d8 h, fun h => by rw [put_get _ _ _ _ (by rw [R.sz]; omega), if_neg (by omega)]; exact R.d9 h, R.e6⟩⟩
  ·refine wpOp_of (o := o4) rfl q4 ?_
   unfold Oper.wp
   rw [k4 a w R.s11]
   show ∃ _, _
   rw [t4]
   exact ⟨l0, l1, l2, l3, true, l5, l6, l7, l8, l9, rfl, q, ⟨R.below, R.keep, R.size, R.rb, by rw [put_get _ _ _ _ (by rw [R.sz]; omega), if_neg (by omega)]; exact R.s6, by rw [put_get _ _ _ _ (by rw [R.sz]; omega), if_neg (by omega)]; exact R.s11, by rw [put_size]; exact R.sz, by rw [put_defers]; exact R.df, fun h => by rw [put_get _ _ _ _ (by rw [R.sz]; omega), if_neg (by omega)]; exact R.d0 h, fun h => ⟨by rw [put_get _ _ _ _ (by rw [R.sz]; omega), if_neg (by omega)]; exact (R.d1 h).1, (R.d1 h).2.1, (R.d1 h).2.2⟩, fun h => by rw [put_get _ _ _ _ (by rw [R.sz]; omega), if_neg (by omega)]; exact R.d2 h, fun h => by rw [put_get _ _ _ _ (by rw [R.sz]; omega), if_neg (by omega)]; exact R.d3 h, fun _ => by rw [put_get _ _ _ _ (by rw [R.sz]; omega), if_pos rfl], fun h => by rw [put_get _ _ _ _ (by rw [R.sz]; omega), if_neg (by omega)]; exact R.d5 h, fun h => by rw [put_get _ _ _ _ (by rw [R.sz]; omega), if_neg (by omega)]; exact R.d7 h, fun h => by rw [put_get _ _ _ _ (by rw [R.sz]; omega), if_neg (by omega)]; exact R.d8 h, fun h => by rw [put_get _ _ _ _ (by rw [R.sz]; omega), if_neg (by omega)]; exact R.d9 h, R.e6⟩⟩
  ·refine wpOp_of (o := o5) rfl q5 ?_
   unfold Oper.wp
   rw [k5 a w (R.d4 (N 4 hr' (by simp))) (by rw [cell_of_row w p 207 _ _ _ gpw]; exact c7)]
   show ∃ _, _
   rw [t5]
   exact ⟨l0, l1, l2, l3, l4, true, l6, l7, l8, l9, rfl, q, ⟨R.below, R.keep, R.size, R.rb, by rw [put_get _ _ _ _ (by rw [R.sz]; omega), if_neg (by omega)]; exact R.s6, by rw [put_get _ _ _ _ (by rw [R.sz]; omega), if_neg (by omega)]; exact R.s11, by rw [put_size]; exact R.sz, by rw [put_defers]; exact R.df, fun h => by rw [put_get _ _ _ _ (by rw [R.sz]; omega), if_neg (by omega)]; exact R.d0 h, fun h => ⟨by rw [put_get _ _ _ _ (by rw [R.sz]; omega), if_neg (by omega)]; exact (R.d1 h).1, (R.d1 h).2.1, (R.d1 h).2.2⟩, fun h => by rw [put_get _ _ _ _ (by rw [R.sz]; omega), if_neg (by omega)]; exact R.d2 h, fun h => by rw [put_get _ _ _ _ (by rw [R.sz]; omega), if_neg (by omega)]; exact R.d3 h, fun h => by rw [put_get _ _ _ _ (by rw [R.sz]; omega), if_neg (by omega)]; exact R.d4 h, fun _ => by rw [put_get _ _ _ _ (by rw [R.sz]; omega), if_pos rfl], fun h => by rw [put_get _ _ _ _ (by rw [R.sz]; omega), if_neg (by omega)]; exact R.d7 h, fun h => by rw [put_get _ _ _ _ (by rw [R.sz]; omega), if_neg (by omega)]; exact R.d8 h, fun h => by rw [put_get _ _ _ _ (by rw [R.sz]; omega), if_neg (by omega)]; exact R.d9 h, R.e6⟩⟩
  ·have D1 := R.d1 (N 1 hr' (by simp))
   refine wpOp_of (o := o6) rfl q6 (wp_store_row tP (.tmp 6) (.tmp 41) h6 b (RV q) (eval_of R.s6) (eval_of D1.1) tP _ R.rb (hr q) (by split; rfl; exact hz q) (ha q) ?_)
   rw [t6]
   exact ⟨l0, l1, l2, l3, l4, l5, true, l7, l8, l9, rfl, q, ⟨below_setRow R.below Bb _, fun k hk hn => (setRow_other _ _ _ _ hn).trans (R.keep k hk hn), by rw [setRow_size]; exact R.size, setRow_heap _ _ _ _ _ _ R.rb, R.s6, R.s11, R.sz, R.df, R.d0, fun h => ⟨(R.d1 h).1, (R.d1 h).2.1, (setRow_other _ _ _ _ (by have := (R.d1 h).2.1; omega)).trans (R.d1 h).2.2⟩, R.d2, R.d3, R.d4, R.d5, R.d7, R.d8, R.d9, fun _ => N 1 hr' (by simp)⟩⟩
  ·refine wpOp_of (o := o7) rfl q7 ?_
   unfold Oper.wp
   rw [k7 a w _ (R.d3 (N 3 hr' (by simp)))]
   show ∃ _, _
   rw [t7]
   exact ⟨l0, l1, l2, l3, l4, l5, l6, true, l8, l9, rfl, q, ⟨R.below, R.keep, R.size, R.rb, by rw [put_get _ _ _ _ (by rw [R.sz]; omega), if_neg (by omega)]; exact R.s6, by rw [put_get _ _ _ _ (by rw [R.sz]; omega), if_neg (by omega)]; exact R.s11, by rw [put_size]; exact R.sz, by rw [put_defers]; exact R.df, fun h => by rw [put_get _ _ _ _ (by rw [R.sz]; omega), if_neg (by omega)]; exact R.d0 h, fun h => ⟨by rw [put_get _ _ _ _ (by rw [R.sz]; omega), if_neg (by omega)]; exact (R.d1 h).1, (R.d1 h).2.1, (R.d1 h).2.2⟩, fun h => by rw [put_get _ _ _ _ (by rw [R.sz]; omega), if_neg (by omega)]; exact R.d2 h, fun h => by rw [put_get _ _ _ _ (by rw [R.sz]; omega), if_neg (by omega)]; exact R.d3 h, fun h => by rw [put_get _ _ _ _ (by rw [R.sz]; omega), if_neg (by omega)]; exact R.d4 h, fun h => by rw [put_get _ _ _ _ (by rw [R.sz]; omega), if_neg (by omega)]; exact R.d5 h, fun _ => by rw [put_get _ _ _ _ (by rw [R.sz]; omega), if_pos rfl], fun h => by rw [put_get _ _ _ _ (by rw [R.sz]; omega), if_neg (by omega)]; exact R.d8 h, fun h => by rw [put_get _ _ _ _ (by rw [R.sz]; omega), if_neg (by omega)]; exact R.d9 h, R.e6⟩⟩
  ·refine wpOp_of (o := o8) rfl q8 ?_
   unfold Oper.wp
   rw [k8 a w _ (R.d5 (N 5 hr' (by simp)))]
   show ∃ _, _
   rw [t8]
   exact ⟨l0, l1, l2, l3, l4, l5, l6, l7, true, l9, rfl, q, ⟨R.below, R.keep, R.size, R.rb, by rw [put_get _ _ _ _ (by rw [R.sz]; omega), if_neg (by omega)]; exact R.s6, by rw [put_get _ _ _ _ (by rw [R.sz]; omega), if_neg (by omega)]; exact R.s11, by rw [put_size]; exact R.sz, by rw [put_defers]; exact R.df, fun h => by rw [put_get _ _ _ _ (by rw [R.sz]; omega), if_neg (by omega)]; exact R.d0 h, fun h => ⟨by rw [put_get _ _ _ _ (by rw [R.sz]; omega), if_neg (by omega)]; exact (R.d1 h).1, (R.d1 h).2.1, (R.d1 h).2.2⟩, fun h => by rw [put_get _ _ _ _ (by rw [R.sz]; omega), if_neg (by omega)]; exact R.d2 h, fun h => by rw [put_get _ _ _ _ (by rw [R.sz]; omega), if_neg (by omega)]; exact R.d3 h, fun h => by rw [put_get _ _ _ _ (by rw [R.sz]; omega), if_neg (by omega)]; exact R.d4 h, fun h => by rw [put_get _ _ _ _ (by rw [R.sz]; omega), if_neg (by omega)]; exact R.d5 h, fun h => by rw [put_get _ _ _ _ (by rw [R.sz]; omega), if_neg (by omega)]; exact R.d7 h, fun _ => by rw [put_get _ _ _ _ (by rw [R.sz]; omega), if_pos rfl], fun h => by rw [put_get _ _ _ _ (by rw [R.sz]; omega), if_neg (by omega)]; exact R.d9 h, R.e6⟩⟩
  ·refine wpOp_of (o := o9) rfl q9 ?_
   unfold Oper.wp
   rw [k9 a w]
   show ∃ _, _
   rw [t9]
   exact ⟨l0, l1, l2, l3, l4, l5, l6, l7, l8, true, rfl, q, ⟨R.below, R.keep, R.size, R.rb, by rw [put_get _ _ _ _ (by rw [R.sz]; omega), if_neg (by omega)]; exact R.s6, by rw [put_get _ _ _ _ (by rw [R.sz]; omega), if_neg (by omega)]; exact R.s11, by rw [put_size]; exact R.sz, by rw [put_defers]; exact R.df, fun h => by rw [put_get _ _ _ _ (by rw [R.sz]; omega), if_neg (by omega)]; exact R.d0 h, fun h => ⟨by rw [put_get _ _ _ _ (by rw [R.sz]; omega), if_neg (by omega)]; exact (R.d1 h).1, (R.d1 h).2.1, (R.d1 h).2.2⟩, fun h => by rw [put_get _ _ _ _ (by rw [R.sz]; omega), if_neg (by omega)]; exact R.d2 h, fun h => by rw [put_get _ _ _ _ (by rw [R.sz]; omega), if_neg (by omega)]; exact R.d3 h, fun h => by rw [put_get _ _ _ _ (by rw [R.sz]; omega), if_neg (by omega)]; exact R.d4 h, fun h => by rw [put_get _ _ _ _ (by rw [R.sz]; omega), if_neg (by omega)]; exact R.d5 h, fun h => by rw [put_get _ _ _ _ (by rw [R.sz]; omega), if_neg (by omega)]; exact R.d7 h, fun h => by rw [put_get _ _ _ _ (by rw [R.sz]; omega), if_neg (by omega)]; exact R.d8 h, fun _ => by rw [put_get _ _ _ _ (by rw [R.sz]; omega), if_pos rfl], R.e6⟩⟩
  ·simp at h'
 ·rintro listed a w ⟨l0, l1, l2, l3, l4, l5, l6, l7, l8, l9, rfl, q, R⟩ hr'
  have h := ready_noneB hr' rfl (fun k hk => (List.all_eq_true.1 E1) k (List.mem_range.2 hk))
  have x1 : l1 = true := h 1 (by simp)
  have x6 : l6 = true := h 6 (by simp)
  have x7 : l7 = true := h 7 (by simp)
  have x8 : l8 = true := h 8 (by simp)
  have x9 : l9 = true := h 9 (by simp)
  have rb := R.rb
  rw [x6] at rb
  exact hQ a w q R.below rb (R.d1 x1).2.1 (R.d1 x1).2.2 R.s6 (R.d7 x7) (R.d8 x8) (R.d9 x9) R.df
 ·exact ⟨false, false, false, false, false, false, false, false, false, false, rfl, 0, ⟨bc.drew, fun _ _ _ => rfl, Nat.le_refl _, gb, z6, z11, zz, zd, by simp, by simp, by simp, by simp, by simp, by simp, by simp, by simp, by simp, by simp⟩⟩
structure PG (w w4 wr : World) (p : Nat) (Z : Array Value) : Prop where
 keep : ∀ k, k < w.heap.size + 1 + 1 + 1 → wr.heap[k]? = w4.heap[k]?
 blk : wr.heap[p]? = some (.cells Z 110 (0, 0))
 pl : w.heap.size + 1 + 1 + 1 ≤ p
 below : Below w.heap.size w wr
theorem PG.next {w w4 wr w' : World} {p : Nat} {Z : Array Value} (h : PG w w4 wr p Z) (b : Below wr.heap.size wr w') : PG w w4 w' p Z := by
 have l := lt_of_block h.blk
 have := h.pl
 exact ⟨fun k hk => (b.block k (by omega)).trans (h.keep k hk), (b.block _ l).trans h.blk, h.pl, h.below.trans (b.mono h.below.size)⟩
theorem PG.setRow {w w4 wr : World} {p : Nat} {Z : Array Value} (h : PG w w4 wr p Z) (Y : Array Value) : PG w w4 (wr.setRow p Y) p Y :=
 ⟨fun k hk => (setRow_other _ _ _ _ (by have := h.pl; omega)).trans (h.keep k hk), setRow_heap _ _ _ _ _ _ h.blk, h.pl, below_setRow h.below (by have := h.pl; omega) _⟩
set_option maxRecDepth 100000 in
set_option maxHeartbeats 12800000 in
theorem grow_good (o : Out) (ta : Option Addr) (tn tc : Nat) (W H : Nat) (xs : List Int) (a : Option Addr) (n c : Nat) (born stay m : Nat) (w : World) (hR : ArgR w o ta tn tc) (hP : ArgP w xs a n c) (hT : TzTab w) (h0 : ∀ g, grE o (W : Int) (H : Int) xs g → g = 0) (hb : o.born = (born : Int)) (hs : o.stay = (stay : Int)) (b5 : born ≤ 511) (s5 : stay ≤ 511) (bt : born.testBit 0 = false) (hn : xs.length = W * H) (hx : ∀ k, 0 ≤ xs.getD k 0 ∧ xs.getD k 0 ≤ 1) (hW : W ≤ 100) (hH : H ≤ 100) (hm : m ≤ 100000) :
  Calls Tryz.prog 18 #[.agg #[.int .i64 o.kind, .int .i64 o.born, .int .i64 o.stay, .int .i64 o.states, .int .i64 o.radius, .slice ta tn tc, .string o.turns], .agg #[.int .i64 (W : Int), .int .i64 (H : Int), .slice a n c], .int .i64 (m : Int)] w (GrowPost born stay (firstG ⟨W, H, xs⟩) m w) := by
 obtain ⟨w1, hw1⟩ : ∃ w1, ((w.alloc (.cells #[.int .i64 o.kind, .int .i64 o.born, .int .i64 o.stay, .int .i64 o.states, .int .i64 o.radius, .slice ta tn tc, .string o.turns] 24)).alloc (.cells #[.int .i64 (W : Int), .int .i64 (H : Int), .slice a n c] 26)).alloc (.cells #[.int .i64 0, .int .i64 0, .slice none 0 0] 26) = w1 := ⟨_, rfl⟩
 have BB := hide' (show Below w.heap.size w w1 by rw [← hw1]; repeat (first | exact Below.refl _ _ | refine Below.alloc ?_ (by simp; try omega) _))
 have g0 : w1.heap[w.heap.size]? = some (.cells #[.int .i64 o.kind, .int .i64 o.born, .int .i64 o.stay, .int .i64 o.states, .int .i64 o.radius, .slice ta tn tc, .string o.turns] 24 (0, 0)) := by rw [← hw1, Below.heap_alloc _ _ _ (by simp; try omega), Below.heap_alloc _ _ _ (by simp; try omega)]; exact heap_atX _ _ _ (by simp)
 have g1 : w1.heap[w.heap.size + 1]? = some (.cells #[.int .i64 (W : Int), .int .i64 (H : Int), .slice a n c] 26 (0, 0)) := by rw [← hw1, Below.heap_alloc _ _ _ (by simp; try omega)]; exact heap_atX _ _ _ (by simp)
 have g2 : w1.heap[w.heap.size + 1 + 1]? = some (.cells #[.int .i64 0, .int .i64 0, .slice none 0 0] 26 (0, 0)) := by rw [← hw1]; exact heap_atX _ _ _ (by simp)
 have s1 : w1.heap.size = w.heap.size + 1 + 1 + 1 := by rw [← hw1]; simp
 have x0 := cell_of_row w1 _ 0 _ _ _ g0
 have x1 := cell_of_row w1 _ 1 _ _ _ g0
 have x2 := cell_of_row w1 _ 2 _ _ _ g0
 have x3 := cell_of_row w1 _ 3 _ _ _ g0
 have x4 := cell_of_row w1 _ 4 _ _ _ g0
 have x5 := cell_of_row w1 _ 5 _ _ _ g0
 have x6 := cell_of_row w1 _ 6 _ _ _ g0
 simp at x0 x1 x2 x3 x4 x5 x6
 have y0 := cell_of_row w1 _ 0 _ _ _ g1
 have y1 := cell_of_row w1 _ 1 _ _ _ g1
 have y2 := cell_of_row w1 _ 2 _ _ _ g1
 simp at y0 y1 y2
 have CC := hide' (checkGrowth_any o ta tn tc (W : Int) (H : Int) xs a n c w1 (hR.below BB.out) (hP.below BB.out))
 have T1 := hide' (hT.below BB.out)
 have SP := hide' (fun (V : World) (hV : Below w1.heap.size w1 V) => settle_pat W H xs a n c V ((hP.below BB.out).below hV) hn hx hW hH (T1.out.below hV))
 have FO := hide' (first_ok (p := ⟨W, H, xs⟩) hx hW hH)
 obtain ⟨s0, hs0⟩ : ∃ s0, firstG ⟨W, H, xs⟩ = s0 := ⟨_, rfl⟩
 rw [hs0] at SP FO ⊢
 have GK := hide' (fun i u (h : growG born stay s0 i = some u) => grow_ok FO.out.1 FO.out.2.1 FO.out.2.2.1 FO.out.2.2.2 i u h)
 have STP := hide' (fun (u : Gst) (V : World) (hV : Below w.heap.size w V) (u1 : u.P.W ≤ 100) (u2 : u.P.H ≤ 100) (u3 : -100000000 ≤ u.r) (u4 : u.r ≤ 100000000) (u5 : -100000000 ≤ u.d) (u6 : u.d ≤ 100000000) => show Calls Tryz.prog 42 #[.agg (grV u), .agg #[.int .i64 o.kind, .int .i64 o.born, .int .i64 o.stay, .int .i64 o.states, .int .i64 o.radius, .slice ta tn tc, .string o.turns]] V (fun e w' => e = .returned (.agg (grV (nextG born stay u))) ∧ Below V.heap.size V w') from by
  rw [hb, hs]
  exact step_pat o.kind o.states o.radius born stay ta tn tc o.turns u V b5 s5 bt u1 u2 (hT.below hV) u3 u4 u5 u6)
 have G0 := hide' g0
 have G1 := hide' g1
 have G2 := hide' g2
 have S1 := hide' s1
 have H0 := hide' h0
 have n1 : decide ((m : Int) < 0) = false := by simp
 have n2 : ¬ (100000 : Int) < (m : Int) := by omega
 clear hR hP g0 g1 g2 s1 h0 hb hs hT hn hx b5 s5 bt hs0
 go_enter Tryz.func18, Tryz.ntmps18
 go_wp2_with fail
 refine CC.out.mono ?_
 rintro e w2 ⟨⟨g, hg, rfl⟩, b2⟩
 rw [H0.out g hg]
 rw [show errOf 0 = .nilIface from rfl]
 have e1 := (b2.block _ (lt_of_block G1.out)).trans G1.out
 have z0 := cell_of_row w2 _ 0 _ _ _ e1
 have z1 := cell_of_row w2 _ 1 _ _ _ e1
 have z2 := cell_of_row w2 _ 2 _ _ _ e1
 simp at z0 z1 z2
 have B2 := hide' b2
 have SP2 := hide' (SP.out w2 b2)
 clear hg b2 hw1 e1 x0 x1 x2 x3 x4 x5 x6 y0 y1 y2
 go_wp2_with fail
 refine SP2.out.mono ?_
 rintro e w3 ⟨rfl, b3⟩
 obtain ⟨p, hp⟩ : ∃ p, w3.heap.size = p := ⟨_, rfl⟩
 have hz : (w3.alloc (.cells Tryz.zeroCells110 110)).heap[p]? = some (.cells Tryz.zeroCells110 110 (0, 0)) := by rw [← hp]; exact heap_alloc_new _ _
 have B3 := hide' (show Below w1.heap.size w1 w3 from B2.out.trans (b3.mono B2.out.size))
 have PZ := hide' (show PG w w1 ((w3.alloc (.cells Tryz.zeroCells110 110)).setRow p (grV s0)) p (grV s0) from by
  have a1 := B3.out.size
  have a2 := S1.out
  have q : PG w w1 (w3.alloc (.cells Tryz.zeroCells110 110)) p Tryz.zeroCells110 := ⟨fun k hk => (Below.heap_alloc _ _ _ (by omega)).trans (B3.out.block k (by omega)), hz, by omega, ((BB.out.trans (B3.out.mono BB.out.size)).alloc (by have := BB.out.size; omega) _)⟩
  exact q.setRow _)
 obtain ⟨Z0, hZ0⟩ : ∃ Z0, grV s0 = Z0 := ⟨_, rfl⟩
 have zs : Z0.size = 208 := by rw [← hZ0]; exact grV_size _
 have za : Z0.all (·.oneCell') = true := by rw [← hZ0]; exact grV_all _
 rw [hZ0] at PZ ⊢
 have HZ0 := hide' hZ0
 clear b3 hZ0 z0 z1 z2
 go_wp2_with (first
  | (refine wpList_store_row rfl 110 _ _ rfl p Z0 rfl rfl 110 _ hz (by rw [zs]; kernel_rfl) (by rw [zs, zero_grown, arrF_size]) za ?_))
 obtain ⟨w5, hw5⟩ : ∃ w5, (w3.alloc (.cells Tryz.zeroCells110 110)).setRow p Z0 = w5 := ⟨_, rfl⟩
 rw [hw5] at PZ
 try rw [hw5]
 clear hw5 hz hp zs za
 go_loopw [30] (fun iv wr => ∃ (i : Nat) (u : Gst), iv = .int .i64 (i : Int) ∧ i ≤ m ∧ Hid (growG born stay s0 i = some u) ∧ Hid (PG w w1 wr p (grV u))) (fun iv _ => m - (intOf iv).toNat)
 case atStart => exact ⟨0, s0, rfl, by omega, hide' rfl, hide' (by rw [HZ0.out]; exact PZ.out)⟩
 case round =>
  obtain ⟨i, u, rfl, hi, HG, HP⟩ := hrel
  obtain ⟨o1, o2, o3, o4, o5, o6, o7⟩ := GK.out i u HG.out
  by_cases d1 : (i : Int) < (m : Int)
  ·obtain ⟨t, ht⟩ : ∃ t, nextG born stay u = t := ⟨_, rfl⟩
   have SC := hide' (STP.out u wr HP.out.below o2 o3 (by omega) (by omega) (by omega) (by omega))
   rw [ht] at SC
   have TGC := hide' (fun V => tooGreat_any (wX t.P) (t.P.W : Int) (t.P.H : Int) t.r t.d V)
   have GN := hide' (show growG born stay s0 (i + 1) = if 100 < t.P.W ∨ 100 < t.P.H then none else some t by rw [growG, HG.out]; dsimp only; rw [ht])
   have e0 := (HP.out.keep _ (by omega)).trans G0.out
   have x0 := cell_of_row wr _ 0 _ _ _ e0
   have x1 := cell_of_row wr _ 1 _ _ _ e0
   have x2 := cell_of_row wr _ 2 _ _ _ e0
   have x3 := cell_of_row wr _ 3 _ _ _ e0
   have x4 := cell_of_row wr _ 4 _ _ _ e0
   have x5 := cell_of_row wr _ 5 _ _ _ e0
   have x6 := cell_of_row wr _ 6 _ _ _ e0
   simp at x0 x1 x2 x3 x4 x5 x6
   obtain ⟨Zu, hZu⟩ : ∃ Z, grV u = Z := ⟨_, rfl⟩
   obtain ⟨Zt, hZt⟩ : ∃ Z, grV t = Z := ⟨_, rfl⟩
   have gu := HP.out.blk
   rw [hZu] at gu SC
   rw [hZt] at SC
   rw [show arrF 208 (grF (wX t.P) (t.P.W : Int) (t.P.H : Int) t.r t.d) = Zt from hZt] at TGC
   have us : Zu.size = 208 := by rw [← hZu]; exact grV_size _
   have ts : Zt.size = 208 := by rw [← hZt]; exact grV_size _
   have tal : Zt.all (·.oneCell') = true := by rw [← hZt]; exact grV_all _
   have HPH := hide' (show PG w w1 wr p Zu from by rw [← hZu]; exact HP.out)
   have HZT := hide' hZt
   clear ht e0 hZu hZt o1 o2 o3 o4 o5 o6 o7 HP
   go_wp2_with (first
    | (refine wpList_load_row rfl 110 _ rfl p rfl 110 Zu (0, 0) _ gu Tryz.underlying110 rfl (by rw [us]; kernel_rfl) ?_)
    | (go_at_call 42; refine SC.out.mono ?_))
   rintro e w6 ⟨rfl, b6⟩
   have H6 := hide' (HPH.out.next b6)
   have g6 := H6.out.blk
   clear b6 gu x0 x1 x2 x3 x4 x5 x6
   obtain ⟨w7, hw7⟩ : ∃ w7, w6.setRow p Zt = w7 := ⟨_, rfl⟩
   have H7 := hide' (show PG w w1 w7 p Zt from by rw [← hw7]; exact H6.out.setRow Zt)
   have g7 := H7.out.blk
   go_wp2_with (first
    | (refine wpList_store_row rfl 110 _ _ rfl p Zt rfl rfl 110 _ g6 (by rw [ts]; kernel_rfl) (by rw [ts, us]) tal ?_; rw [hw7])
    | (refine wpList_load_row rfl 110 _ rfl p rfl 110 Zt (0, 0) _ g7 Tryz.underlying110 rfl (by rw [ts]; kernel_rfl) ?_)
    | (go_at_call 43; refine (TGC.out _).mono ?_))
   rintro e w8 ⟨rfl, b8⟩
   have H8 := hide' (H7.out.next b8)
   have e2 := (H8.out.keep _ (by omega)).trans G2.out
   have r0 := cell_of_row w8 _ 0 _ _ _ e2
   have r1 := cell_of_row w8 _ 1 _ _ _ e2
   have r2 := cell_of_row w8 _ 2 _ _ _ e2
   simp at r0 r1 r2
   have f0 := frozen_of_row w8 _ 0 _ _ e2
   have f1 := frozen_of_row w8 _ 1 _ _ e2
   have f2 := frozen_of_row w8 _ 2 _ _ e2
   clear b8 g6 g7 e2 hw7
   by_cases big : 100 < t.P.W ∨ 100 < t.P.H
   ·have bb : (decide ((100 : Int) < (t.P.W : Int)) || decide ((100 : Int) < (t.P.H : Int))) = true := by
     rcases big with k | k
     ·simp; omega
     ·simp; omega
    have NN := hide' (show growG born stay s0 m = none by
     have h1 := GN.out
     rw [if_pos big] at h1
     have h2 := grow_stays h1 (m - (i + 1))
     rw [show i + 1 + (m - (i + 1)) = m by omega] at h2
     exact h2)
    rw [bb]
    clear big bb
    go_wp2
    refine bodyPost_ret (v := .tuple #[.agg #[.int .i64 0, .int .i64 0, .slice none 0 0], .int .i64 0, .int .i64 0, .iface 56 (.int .i64 4)]) (by simp [results, Tryz.results18, go_sem, r0, r1, r2]) rfl ?_
    exact Or.inl ⟨NN.out, rfl, ((H8.out.below.setCell (by simp; omega) _).setCell (by simp; omega) _).setCell (by simp; omega) _⟩
   ·have bb : (decide ((100 : Int) < (t.P.W : Int)) || decide ((100 : Int) < (t.P.H : Int))) = false := by
     simp; omega
    have NN := hide' (show growG born stay s0 (i + 1) = some t by have h1 := GN.out; rw [if_neg big] at h1; exact h1)
    rw [bb]
    clear big bb
    go_wp2
    exact ⟨⟨i + 1, t, by go_num, by omega, NN, hide' (by rw [HZT.out]; exact H8.out)⟩, by simp [intOf]; omega⟩
  ·have im : i = m := by omega
   have HGm := hide' (show growG born stay s0 m = some u by rw [← im]; exact HG.out)
   have PC := hide' (fun V => pattern_any (wX u.P) u.P.W u.P.H u.r u.d V (wX_lt u.P) o2 o3)
   obtain ⟨Zu, hZu⟩ : ∃ Z, grV u = Z := ⟨_, rfl⟩
   rw [show arrF 208 (grF (wX u.P) (u.P.W : Int) (u.P.H : Int) u.r u.d) = Zu from hZu] at PC
   have us : Zu.size = 208 := by rw [← hZu]; exact grV_size _
   have HPH := hide' (show PG w w1 wr p Zu from by rw [← hZu]; exact HP.out)
   have c6 : Zu[206]? = some (.int .i64 u.r) := by rw [← hZu, grV, arrF_get _ (by omega)]; rfl
   have c7 : Zu[207]? = some (.int .i64 u.d) := by rw [← hZu, grV, arrF_get _ (by omega)]; rfl
   have OU := hide' (And.intro o1 (And.intro o2 o3))
   have PW := hide' (fun k (hk : k < u.P.W * u.P.H) => pat_words (H := u.P.H) (show u.P.W ≤ 128 by omega) o1.bits k hk)
   have gb := (HPH.out.keep (w.heap.size + 1 + 1) (by omega)).trans G2.out
   have pb : p ≠ w.heap.size + 1 + 1 := by have := HPH.out.pl; omega
   clear im HP o1 o2 o3 o4 o5 o6 o7 hZu
   go_wp2
   refine regionP (wc := w) (by kernel_rfl) w.heap.size p (w.heap.size + 1 + 1) _ _ _ _ _ _ _ _ _ _ 110 26 _ 44 Zu #[.int .i64 0, .int .i64 0, .slice none 0 0] (fun q => #[.int .i64 (u.P.W : Int), .int .i64 (u.P.H : Int), .slice (some ⟨q, 0, none⟩) (u.P.W * u.P.H) (u.P.W * u.P.H)]) (.cells (arrF (u.P.W * u.P.H) (fun k => .int .i64 ((patX (wX u.P) u.P.W k : Nat) : Int))) 3 (0, 0)) (.int .i64 u.r) (.int .i64 u.d) rfl rfl rfl rfl
    (fun a w v h => ?k1) (fun a w h => ?k2) (fun a w h hc => ?k3) (fun a w h => ?k4) (fun a w h hc => ?k5) (fun a w v h => ?k7) (fun a w v h => ?k8) (fun a w => ?k9)
    Tryz.underlying110 rfl (by rw [us]; kernel_rfl) (fun q => by kernel_rfl) (fun q => rfl) (fun q => by simp [Value.oneCell'])
    HPH.out.blk gb pb (by omega) HPH.out.below c6 c7 rfl rfl rfl rfl (by kernel_rfl) (by kernel_rfl) PC.out ?_
   case k1 => simp [Act.eval, h, go_sem]
   case k2 => simp [execOp, Act.eval, h, go_sem]
   case k3 => simp [execOp, Act.eval, h, hc, go_sem]
   case k4 => simp [execOp, Act.eval, h, go_sem]
   case k5 => simp [execOp, Act.eval, h, hc, go_sem]
   case k7 => simp [execOp, Act.eval, h, go_sem]
   case k8 => simp [execOp, Act.eval, h, go_sem]
   case k9 => simp [execOp, Act.eval, go_sem]
   intro a9 w9 q b9 gb9 q9 gq9 z6 z7 z8 z9 zd
   go_wp2
   have m0 := cell_of_row w9 _ 0 _ _ _ gb9
   have m1 := cell_of_row w9 _ 1 _ _ _ gb9
   have m2 := cell_of_row w9 _ 2 _ _ _ gb9
   simp at m0 m1 m2
   refine bodyPost_ret (v := .tuple #[.agg #[.int .i64 (u.P.W : Int), .int .i64 (u.P.H : Int), .slice (some ⟨q, 0, none⟩) (u.P.W * u.P.H) (u.P.W * u.P.H)], .int .i64 u.r, .int .i64 u.d, .nilIface]) (by simp [results, Tryz.results18, go_sem, z6, z7, z8, z9, m0, m1, m2]) zd ?_
   refine Or.inr ⟨u, q, HGm.out, by rw [OU.out.1.len], ?_, b9⟩
   rw [OU.out.1.len]
   refine Or.inr ⟨q, u.P.W * u.P.H, by rw [OU.out.1.len], lt_of_block gq9, fun k hk => ?_⟩
   have hk2 : k < u.P.W * u.P.H := by rw [← OU.out.1.len]; exact hk
   rw [cell_of_row w9 _ _ _ _ _ gq9, arrF_get _ hk2]
   have e := PW.out k hk2
   have e2 : u.P.xs.getD k 0 = u.P.xs[k] := by simp [List.getD, hk]
   rw [show (⟨u.P.W, u.P.H, u.P.xs⟩ : Pat) = u.P from rfl, e2] at e
   rw [e]
end Go.Proofs.YtemhcpldflcfbaaGreatDoor
