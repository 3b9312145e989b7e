/-
  What the last text of this claim leans on, part 37: Gu1.
-/
import Derived.Test.YtlpdobfjgpedaaaDoorZe36
namespace Go.Proofs.YtlpdobfjgpedaaaDoor
open Go.RowKit
set_option linter.unusedVariables false
theorem put_get (a : Act) (t k : Nat) (v : Value) (ht : t < a.tmps.size) : (a.put (some t) v).tmps[k]? = if k = t then some v else a.tmps[k]? := by
  unfold Act.put
  dsimp only
  rw [Array.getElem?_setIfInBounds]
  by_cases h : t = k
  · subst h; rw [if_pos rfl, if_pos ht, if_pos rfl]
  · rw [if_neg h, if_neg (fun e => h e.symm)]
theorem put_size (a : Act) (t : Option Nat) (v : Value) : (a.put t v).tmps.size = a.tmps.size := by cases t <;> simp [Act.put]
theorem put_defers (a : Act) (t : Option Nat) (v : Value) : (a.put t v).defers = a.defers := by cases t <;> rfl
theorem eval_of {a : Act} {t : Nat} {v : Value} (h : a.tmps[t]? = some v) : a.eval (.tmp t) = v := by simp [Act.eval, h]
theorem ready_noneB {ops : Array Oper} {listed : Array Bool} (hr : Region.ready .any ops listed = []) (hs : listed.size = ops.size) (h : ∀ k, k < ops.size → ((ops[k]?).map fun o => o.after.all fun e => !Region.binds .any e || decide (e.on < k)).getD false = true) : ∀ k, k < ops.size → listed.getD k true = true := by
  intro k
  induction k using Nat.strongRecOn with
  | ind k ih =>
    intro hk
    cases hl : listed.getD k true with
    | true => rfl
    | false =>
      exfalso
      have : k ∈ Region.ready .any ops listed := by
        refine mem_ready.2 ⟨hl, ops[k], by simp [hk], fun e he hbd => ?_⟩
        have h1 := h k hk
        rw [show ops[k]? = some ops[k] by simp [hk]] at h1
        simp only [Option.map_some, Option.getD_some, Array.all_eq_true] at h1
        obtain ⟨n, hn, rfl⟩ := Array.getElem_of_mem he
        have h2 : (ops[k].after[n]).on < k := by
          have := h1 n hn
          rw [hbd] at this
          simpa using this
        have h3 := ih _ h2 (by omega)
        have h4 : (ops[k].after[n]).on < listed.size := by omega
        simpa [Array.getD_eq_getD_getElem?, h4] using h3
      rw [hr] at this
      cases this
/-- What has come up is in its slot. -/
structure RP (B : Nat) (wc w0 : World) (a : Act) (w : World) (p b : Nat) (Z Zr : Array Value) (RV : Nat → Array Value) (tP : TypeId) (ob : Obj) (u d : Value) (l0 l1 l2 l3 l4 l5 l6 l7 l8 l9 : Bool) (q : Nat) : Prop where
  below : Below B wc w
  keep : ∀ k, k < w0.heap.size → k ≠ b → w.heap[k]? = w0.heap[k]?
  size : w0.heap.size ≤ w.heap.size
  rb : w.heap[b]? = some (.cells (if l6 then RV q else Zr) tP (0, 0))
  s6 : a.tmps[6]? = some (.pointer (some ⟨b, 0, none⟩))
  s11 : a.tmps[11]? = some (.pointer (some ⟨p, 0, none⟩))
  sz : a.tmps.size = 46
  df : a.defers = []
  d0 : l0 = true → a.tmps[40]? = some (.agg Z)
  d1 : l1 = true → a.tmps[41]? = some (.agg (RV q)) ∧ w0.heap.size ≤ q ∧ w.heap[q]? = some ob
  d2 : l2 = true → a.tmps[42]? = some (.pointer (some ⟨p, 206, none⟩))
  d3 : l3 = true → a.tmps[43]? = some u
  d4 : l4 = true → a.tmps[44]? = some (.pointer (some ⟨p, 207, none⟩))
  d5 : l5 = true → a.tmps[45]? = some d
  d7 : l7 = true → a.tmps[7]? = some u
  d8 : l8 = true → a.tmps[8]? = some d
  d9 : l9 = true → a.tmps[9]? = some .nilIface
  e6 : l6 = true → l1 = true
set_option maxHeartbeats 3200000 in
theorem regionP {P : Program} {id : Nat} {Q : Exit → Act → World → Prop} {a0 : Act} {wc w0 : World} (hm : P.follows .mixedOrders = true) (B p b : Nat) (o0 o1 o2 o3 o4 o5 o6 o7 o8 o9 : Oper) (tG tP : TypeId) (D : TypeDesc) (f : FuncId) (Z Zr : Array Value) (RV : Nat → Array Value) (ob : Obj) (u d : Value)
    (hg : ([o0, o1, o2, o3, o4, o5, o6, o7, o8, o9].map (·.guard)) = List.replicate 10 none)
    (hd : [o0.dst, o1.dst, o2.dst, o3.dst, o4.dst, o5.dst, o6.dst, o7.dst, o8.dst, o9.dst] = [some 40, some 41, some 42, some 43, some 44, some 45, none, some 7, some 8, some 9])
    (h0 : o0.op = .load tG (.tmp 11)) (h6 : o6.op = .store tP (.tmp 6) (.tmp 41))
    (k1 : ∀ (a : Act) w v, a.tmps[40]? = some v → (execOp a.eval o1).run P w = .ok (.enter f #[v]) w)
    (k2 : ∀ (a : Act) w, a.tmps[11]? = some (.pointer (some ⟨p, 0, none⟩)) → (execOp a.eval o2).run P w = .ok (.value (.pointer (some ⟨p, 206, none⟩))) w)
    (k3 : ∀ (a : Act) w, a.tmps[42]? = some (.pointer (some ⟨p, 206, none⟩)) → w.cell? ⟨p, 206, none⟩ = some u → (execOp a.eval o3).run P w = .ok (.value u) w)
    (k4 : ∀ (a : Act) w, a.tmps[11]? = some (.pointer (some ⟨p, 0, none⟩)) → (execOp a.eval o4).run P w = .ok (.value (.pointer (some ⟨p, 207, none⟩))) w)
    (k5 : ∀ (a : Act) w, a.tmps[44]? = some (.pointer (some ⟨p, 207, none⟩)) → w.cell? ⟨p, 207, none⟩ = some d → (execOp a.eval o5).run P w = .ok (.value d) w)
    (k7 : ∀ (a : Act) w v, a.tmps[43]? = some v → (execOp a.eval o7).run P w = .ok (.value v) w)
    (k8 : ∀ (a : Act) w v, a.tmps[45]? = some v → (execOp a.eval o8).run P w = .ok (.value v) w)
    (k9 : ∀ (a : Act) w, (execOp a.eval o9).run P w = .ok (.value .nilIface) w)
    (hu : P.underlying tG = some D) (hD : (match D with | .struct _ | .array _ _ => true | _ => false) = true) (hi : (P.info? tG).map (·.size) = some Z.size)
    (hr : ∀ q, (P.info? tP).map (·.size) = some (RV q).size) (hz : ∀ q, Zr.size = (RV q).size) (ha : ∀ q, (RV q).all (·.oneCell') = true)
    (gp : w0.heap[p]? = some (.cells Z tG (0, 0))) (gb : w0.heap[b]? = some (.cells Zr tP (0, 0))) (pb : p ≠ b) (Bb : B ≤ b) (bc : Below B wc w0)
    (c6 : Z[206]? = some u) (c7 : Z[207]? = some d)
    (z6 : a0.tmps[6]? = some (.pointer (some ⟨b, 0, none⟩))) (z11 : a0.tmps[11]? = some (.pointer (some ⟨p, 0, none⟩))) (zz : a0.tmps.size = 46) (zd : a0.defers = [])
    (E1 : ((List.range 10).all fun k => ((#[o0, o1, o2, o3, o4, o5, o6, o7, o8, o9][k]?).map fun o => o.after.all fun e => !Region.binds .any e || decide (e.on < k)).getD false) = true)
    (E2 : ([(1, 0), (3, 2), (5, 4), (6, 1), (7, 3), (8, 5)].all fun (x : Nat × Nat) => ((#[o0, o1, o2, o3, o4, o5, o6, o7, o8, o9][x.1]?).map fun o => o.after.any fun e => Region.binds .any e && e.on == x.2).getD false) = true)
    (hc : ∀ w, Calls P f #[.agg Z] w fun e w' => (∃ q, e = .returned (.agg (RV q)) ∧ w.heap.size ≤ q ∧ w'.heap[q]? = some ob) ∧ Below w.heap.size w w')
    (hQ : ∀ a w q, Below B wc w → w.heap[b]? = some (.cells (RV q) tP (0, 0)) → w0.heap.size ≤ q → w.heap[q]? = some ob → a.tmps[6]? = some (.pointer (some ⟨b, 0, none⟩)) → a.tmps[7]? = some u → a.tmps[8]? = some d → a.tmps[9]? = some .nilIface → a.defers = [] → Q .normal a w) :
    (Code.region id #[o0, o1, o2, o3, o4, o5, o6, o7, o8, o9] true).wp P Q a0 w0 := by
  simp only [List.map_cons, List.map_nil, List.replicate, List.cons.injEq, and_true] at hg hd
  obtain ⟨q0, q1, q2, q3, q4, q5, q6, q7, q8, q9⟩ := hg
  obtain ⟨t0, t1, t2, t3, t4, t5, t6, t7, t8, t9⟩ := hd
  have bl := lt_of_block gb
  have pl := lt_of_block gp
  have need : ∀ l0 l1 l2 l3 l4 l5 l6 l7 l8 l9 i j, i ∈ Region.ready .any #[o0, o1, o2, o3, o4, o5, o6, o7, o8, o9] #[l0, l1, l2, l3, l4, l5, l6, l7, l8, l9] → (i, j) ∈ [(1, 0), (3, 2), (5, 4), (6, 1), (7, 3), (8, 5)] → (#[l0, l1, l2, l3, l4, l5, l6, l7, l8, l9] : Array Bool).getD j false = true := fun l0 l1 l2 l3 l4 l5 l6 l7 l8 l9 i j hi hj => ready_needs hi ((List.all_eq_true.1 E2) (i, j) hj)
  refine wp_region_any hm (wpAny_inv (fun listed a w => ∃ l0 l1 l2 l3 l4 l5 l6 l7 l8 l9, listed = #[l0, l1, l2, l3, l4, l5, l6, l7, l8, l9] ∧ ∃ q, RP B wc w0 a w p b Z Zr RV tP ob u d l0 l1 l2 l3 l4 l5 l6 l7 l8 l9 q) ?_ ?_ _ _ _ _ (by simp) ?_)
  · rintro listed a w ⟨l0, l1, l2, l3, l4, l5, l6, l7, l8, l9, rfl, q, R⟩ i hr'
    have N := need l0 l1 l2 l3 l4 l5 l6 l7 l8 l9 i
    have h' := (mem_ready.1 hr').1
    have gpw := (R.keep p pl pb).trans gp
    rcases i with _ | _ | _ | _ | _ | _ | _ | _ | _ | _ | i
    · refine wpOp_of (o := o0) rfl q0 (wp_load_row tG (.tmp 11) h0 p (eval_of R.s11) tG Z (0, 0) D gpw hu (by revert hD; cases D <;> simp) hi ?_)
      rw [t0]
      exact ⟨true, l1, l2, l3, l4, l5, l6, l7, l8, l9, rfl, q, ⟨R.below, R.keep, R.size, R.rb, by rw [put_get _ _ _ _ (by rw [R.sz]; omega), if_neg (by omega)]; exact R.s6, by rw [put_get _ _ _ _ (by rw [R.sz]; omega), if_neg (by omega)]; exact R.s11, by rw [put_size]; exact R.sz, by rw [put_defers]; exact R.df, fun _ => by rw [put_get _ _ _ _ (by rw [R.sz]; omega), if_pos rfl], fun h => ⟨by rw [put_get _ _ _ _ (by rw [R.sz]; omega), if_neg (by omega)]; exact (R.d1 h).1, (R.d1 h).2.1, (R.d1 h).2.2⟩, fun h => by rw [put_get _ _ _ _ (by rw [R.sz]; omega), if_neg (by omega)]; exact R.d2 h, fun h => by rw [put_get _ _ _ _ (by rw [R.sz]; omega), if_neg (by omega)]; exact R.d3 h, fun h => by rw [put_get _ _ _ _ (by rw [R.sz]; omega), if_neg (by omega)]; exact R.d4 h, fun h => by rw [put_get _ _ _ _ (by rw [R.sz]; omega), if_neg (by omega)]; exact R.d5 h, fun h => by rw [put_get _ _ _ _ (by rw [R.sz]; omega), if_neg (by omega)]; exact R.d7 h, fun h => by rw [put_get _ _ _ _ (by rw [R.sz]; omega), if_neg (by omega)]; exact R.d8 h, fun h => by rw [put_get _ _ _ _ (by rw [R.sz]; omega), if_neg (by omega)]; exact R.d9 h, R.e6⟩⟩
    · have nl6 : l6 = false := by
        cases hl : l6 with
        | false => rfl
        | true => exact absurd (R.e6 hl) (by rw [show l1 = false from h']; simp)
      subst nl6
      refine wpOp_of (o := o1) rfl q1 ?_
      unfold Oper.wp
      rw [k1 a w _ (R.d0 (N 0 hr' (by simp))), Oper.upon_enter]
      refine (hc w).mono ?_
      rintro e W ⟨⟨q', rfl, hq1, hq2⟩, bb⟩
      show ∃ _, _
      rw [t1]
      exact ⟨l0, true, l2, l3, l4, l5, false, l7, l8, l9, rfl, q', ⟨R.below.trans (bb.mono (Nat.le_trans (Nat.le_trans Bb (Nat.le_of_lt bl)) R.size)), fun k hk hn => (bb.block k (Nat.lt_of_lt_of_le hk R.size)).trans (R.keep k hk hn), Nat.le_trans R.size bb.size, (bb.block b (Nat.lt_of_lt_of_le bl R.size)).trans R.rb, by rw [put_get _ _ _ _ (by rw [R.sz]; omega), if_neg (by omega)]; exact R.s6, by rw [put_get _ _ _ _ (by rw [R.sz]; omega), if_neg (by omega)]; exact R.s11, by rw [put_size]; exact R.sz, by rw [put_defers]; exact R.df, fun h => by rw [put_get _ _ _ _ (by rw [R.sz]; omega), if_neg (by omega)]; exact R.d0 h, fun _ => ⟨by rw [put_get _ _ _ _ (by rw [R.sz]; omega), if_pos rfl], Nat.le_trans R.size hq1, hq2⟩, fun h => by rw [put_get _ _ _ _ (by rw [R.sz]; omega), if_neg (by omega)]; exact R.d2 h, fun h => by rw [put_get _ _ _ _ (by rw [R.sz]; omega), if_neg (by omega)]; exact R.d3 h, fun h => by rw [put_get _ _ _ _ (by rw [R.sz]; omega), if_neg (by omega)]; exact R.d4 h, fun h => by rw [put_get _ _ _ _ (by rw [R.sz]; omega), if_neg (by omega)]; exact R.d5 h, fun h => by rw [put_get _ _ _ _ (by rw [R.sz]; omega), if_neg (by omega)]; exact R.d7 h, fun h => by rw [put_get _ _ _ _ (by rw [R.sz]; omega), if_neg (by omega)]; exact R.d8 h, fun h => by rw [put_get _ _ _ _ (by rw [R.sz]; omega), if_neg (by omega)]; exact R.d9 h, fun _ => rfl⟩⟩
    · refine wpOp_of (o := o2) rfl q2 ?_
      unfold Oper.wp
      rw [k2 a w R.s11]
      show ∃ _, _
      rw [t2]
      exact ⟨l0, l1, true, l3, l4, l5, l6, l7, l8, l9, rfl, q, ⟨R.below, R.keep, R.size, R.rb, by rw [put_get _ _ _ _ (by rw [R.sz]; omega), if_neg (by omega)]; exact R.s6, by rw [put_get _ _ _ _ (by rw [R.sz]; omega), if_neg (by omega)]; exact R.s11, by rw [put_size]; exact R.sz, by rw [put_defers]; exact R.df, fun h => by rw [put_get _ _ _ _ (by rw [R.sz]; omega), if_neg (by omega)]; exact R.d0 h, fun h => ⟨by rw [put_get _ _ _ _ (by rw [R.sz]; omega), if_neg (by omega)]; exact (R.d1 h).1, (R.d1 h).2.1, (R.d1 h).2.2⟩, fun _ => by rw [put_get _ _ _ _ (by rw [R.sz]; omega), if_pos rfl], fun h => by rw [put_get _ _ _ _ (by rw [R.sz]; omega), if_neg (by omega)]; exact R.d3 h, fun h => by rw [put_get _ _ _ _ (by rw [R.sz]; omega), if_neg (by omega)]; exact R.d4 h, fun h => by rw [put_get _ _ _ _ (by rw [R.sz]; omega), if_neg (by omega)]; exact R.d5 h, fun h => by rw [put_get _ _ _ _ (by rw [R.sz]; omega), if_neg (by omega)]; exact R.d7 h, fun h => by rw [put_get _ _ _ _ (by rw [R.sz]; omega), if_neg (by omega)]; exact R.d8 h, fun h => by rw [put_get _ _ _ _ (by rw [R.sz]; omega), if_neg (by omega)]; exact R.d9 h, R.e6⟩⟩
    · refine wpOp_of (o := o3) rfl q3 ?_
      unfold Oper.wp
      rw [k3 a w (R.d2 (N 2 hr' (by simp))) (by rw [cell_of_row w p 206 _ _ _ gpw]; exact c6)]
      show ∃ _, _
      rw [t3]
      exact ⟨l0, l1, l2, true, l4, l5, l6, l7, l8, l9, rfl, q, ⟨R.below, R.keep, R.size, R.rb, by rw [put_get _ _ _ _ (by rw [R.sz]; omega), if_neg (by omega)]; exact R.s6, by rw [put_get _ _ _ _ (by rw [R.sz]; omega), if_neg (by omega)]; exact R.s11, by rw [put_size]; exact R.sz, by rw [put_defers]; exact R.df, fun h => by rw [put_get _ _ _ _ (by rw [R.sz]; omega), if_neg (by omega)]; exact R.d0 h, fun h => ⟨by rw [put_get _ _ _ _ (by rw [R.sz]; omega), if_neg (by omega)]; exact (R.d1 h).1, (R.d1 h).2.1, (R.d1 h).2.2⟩, fun h => by rw [put_get _ _ _ _ (by rw [R.sz]; omega), if_neg (by omega)]; exact R.d2 h, fun _ => by rw [put_get _ _ _ _ (by rw [R.sz]; omega), if_pos rfl], fun h => by rw [put_get _ _ _ _ (by rw [R.sz]; omega), if_neg (by omega)]; exact R.d4 h, fun h => by rw [put_get _ _ _ _ (by rw [R.sz]; omega), if_neg (by omega)]; exact R.d5 h, fun h => by rw [put_get _ _ _ _ (by rw [R.sz]; omega), if_neg (by omega)]; exact R.d7 h, fun h => by rw [put_get _ _ _ _ (by rw [R.sz]; omega), if_neg (by omega)]; exact R.d8 h, fun h => by rw [put_get _ _ _ _ (by rw [R.sz]; omega), if_neg (by omega)]; exact R.d9 h, R.e6⟩⟩
    · refine wpOp_of (o := o4) rfl q4 ?_
      unfold Oper.wp
      rw [k4 a w R.s11]
      show ∃ _, _
      rw [t4]
      exact ⟨l0, l1, l2, l3, true, l5, l6, l7, l8, l9, rfl, q, ⟨R.below, R.keep, R.size, R.rb, by rw [put_get _ _ _ _ (by rw [R.sz]; omega), if_neg (by omega)]; exact R.s6, by rw [put_get _ _ _ _ (by rw [R.sz]; omega), if_neg (by omega)]; exact R.s11, by rw [put_size]; exact R.sz, by rw [put_defers]; exact R.df, fun h => by rw [put_get _ _ _ _ (by rw [R.sz]; omega), if_neg (by omega)]; exact R.d0 h, fun h => ⟨by rw [put_get _ _ _ _ (by rw [R.sz]; omega), if_neg (by omega)]; exact (R.d1 h).1, (R.d1 h).2.1, (R.d1 h).2.2⟩, fun h => by rw [put_get _ _ _ _ (by rw [R.sz]; omega), if_neg (by omega)]; exact R.d2 h, fun h => by rw [put_get _ _ _ _ (by rw [R.sz]; omega), if_neg (by omega)]; exact R.d3 h, fun _ => by rw [put_get _ _ _ _ (by rw [R.sz]; omega), if_pos rfl], fun h => by rw [put_get _ _ _ _ (by rw [R.sz]; omega), if_neg (by omega)]; exact R.d5 h, fun h => by rw [put_get _ _ _ _ (by rw [R.sz]; omega), if_neg (by omega)]; exact R.d7 h, fun h => by rw [put_get _ _ _ _ (by rw [R.sz]; omega), if_neg (by omega)]; exact R.d8 h, fun h => by rw [put_get _ _ _ _ (by rw [R.sz]; omega), if_neg (by omega)]; exact R.d9 h, R.e6⟩⟩
    · refine wpOp_of (o := o5) rfl q5 ?_
      unfold Oper.wp
      rw [k5 a w (R.d4 (N 4 hr' (by simp))) (by rw [cell_of_row w p 207 _ _ _ gpw]; exact c7)]
      show ∃ _, _
      rw [t5]
      exact ⟨l0, l1, l2, l3, l4, true, l6, l7, l8, l9, rfl, q, ⟨R.below, R.keep, R.size, R.rb, by rw [put_get _ _ _ _ (by rw [R.sz]; omega), if_neg (by omega)]; exact R.s6, by rw [put_get _ _ _ _ (by rw [R.sz]; omega), if_neg (by omega)]; exact R.s11, by rw [put_size]; exact R.sz, by rw [put_defers]; exact R.df, fun h => by rw [put_get _ _ _ _ (by rw [R.sz]; omega), if_neg (by omega)]; exact R.d0 h, fun h => ⟨by rw [put_get _ _ _ _ (by rw [R.sz]; omega), if_neg (by omega)]; exact (R.d1 h).1, (R.d1 h).2.1, (R.d1 h).2.2⟩, fun h => by rw [put_get _ _ _ _ (by rw [R.sz]; omega), if_neg (by omega)]; exact R.d2 h, fun h => by rw [put_get _ _ _ _ (by rw [R.sz]; omega), if_neg (by omega)]; exact R.d3 h, fun h => by rw [put_get _ _ _ _ (by rw [R.sz]; omega), if_neg (by omega)]; exact R.d4 h, fun _ => by rw [put_get _ _ _ _ (by rw [R.sz]; omega), if_pos rfl], fun h => by rw [put_get _ _ _ _ (by rw [R.sz]; omega), if_neg (by omega)]; exact R.d7 h, fun h => by rw [put_get _ _ _ _ (by rw [R.sz]; omega), if_neg (by omega)]; exact R.d8 h, fun h => by rw [put_get _ _ _ _ (by rw [R.sz]; omega), if_neg (by omega)]; exact R.d9 h, R.e6⟩⟩
    · have D1 := R.d1 (N 1 hr' (by simp))
      refine wpOp_of (o := o6) rfl q6 (wp_store_row tP (.tmp 6) (.tmp 41) h6 b (RV q) (eval_of R.s6) (eval_of D1.1) tP _ R.rb (hr q) (by split; rfl; exact hz q) (ha q) ?_)
      rw [t6]
      exact ⟨l0, l1, l2, l3, l4, l5, true, l7, l8, l9, rfl, q, ⟨below_setRow R.below Bb _, fun k hk hn => (setRow_other _ _ _ _ hn).trans (R.keep k hk hn), by rw [setRow_size]; exact R.size, setRow_heap _ _ _ _ _ _ R.rb, R.s6, R.s11, R.sz, R.df, R.d0, fun h => ⟨(R.d1 h).1, (R.d1 h).2.1, (setRow_other _ _ _ _ (by have := (R.d1 h).2.1; omega)).trans (R.d1 h).2.2⟩, R.d2, R.d3, R.d4, R.d5, R.d7, R.d8, R.d9, fun _ => N 1 hr' (by simp)⟩⟩
    · refine wpOp_of (o := o7) rfl q7 ?_
      unfold Oper.wp
      rw [k7 a w _ (R.d3 (N 3 hr' (by simp)))]
      show ∃ _, _
      rw [t7]
      exact ⟨l0, l1, l2, l3, l4, l5, l6, true, l8, l9, rfl, q, ⟨R.below, R.keep, R.size, R.rb, by rw [put_get _ _ _ _ (by rw [R.sz]; omega), if_neg (by omega)]; exact R.s6, by rw [put_get _ _ _ _ (by rw [R.sz]; omega), if_neg (by omega)]; exact R.s11, by rw [put_size]; exact R.sz, by rw [put_defers]; exact R.df, fun h => by rw [put_get _ _ _ _ (by rw [R.sz]; omega), if_neg (by omega)]; exact R.d0 h, fun h => ⟨by rw [put_get _ _ _ _ (by rw [R.sz]; omega), if_neg (by omega)]; exact (R.d1 h).1, (R.d1 h).2.1, (R.d1 h).2.2⟩, fun h => by rw [put_get _ _ _ _ (by rw [R.sz]; omega), if_neg (by omega)]; exact R.d2 h, fun h => by rw [put_get _ _ _ _ (by rw [R.sz]; omega), if_neg (by omega)]; exact R.d3 h, fun h => by rw [put_get _ _ _ _ (by rw [R.sz]; omega), if_neg (by omega)]; exact R.d4 h, fun h => by rw [put_get _ _ _ _ (by rw [R.sz]; omega), if_neg (by omega)]; exact R.d5 h, fun _ => by rw [put_get _ _ _ _ (by rw [R.sz]; omega), if_pos rfl], fun h => by rw [put_get _ _ _ _ (by rw [R.sz]; omega), if_neg (by omega)]; exact R.d8 h, fun h => by rw [put_get _ _ _ _ (by rw [R.sz]; omega), if_neg (by omega)]; exact R.d9 h, R.e6⟩⟩
    · refine wpOp_of (o := o8) rfl q8 ?_
      unfold Oper.wp
      rw [k8 a w _ (R.d5 (N 5 hr' (by simp)))]
      show ∃ _, _
      rw [t8]
      exact ⟨l0, l1, l2, l3, l4, l5, l6, l7, true, l9, rfl, q, ⟨R.below, R.keep, R.size, R.rb, by rw [put_get _ _ _ _ (by rw [R.sz]; omega), if_neg (by omega)]; exact R.s6, by rw [put_get _ _ _ _ (by rw [R.sz]; omega), if_neg (by omega)]; exact R.s11, by rw [put_size]; exact R.sz, by rw [put_defers]; exact R.df, fun h => by rw [put_get _ _ _ _ (by rw [R.sz]; omega), if_neg (by omega)]; exact R.d0 h, fun h => ⟨by rw [put_get _ _ _ _ (by rw [R.sz]; omega), if_neg (by omega)]; exact (R.d1 h).1, (R.d1 h).2.1, (R.d1 h).2.2⟩, fun h => by rw [put_get _ _ _ _ (by rw [R.sz]; omega), if_neg (by omega)]; exact R.d2 h, fun h => by rw [put_get _ _ _ _ (by rw [R.sz]; omega), if_neg (by omega)]; exact R.d3 h, fun h => by rw [put_get _ _ _ _ (by rw [R.sz]; omega), if_neg (by omega)]; exact R.d4 h, fun h => by rw [put_get _ _ _ _ (by rw [R.sz]; omega), if_neg (by omega)]; exact R.d5 h, fun h => by rw [put_get _ _ _ _ (by rw [R.sz]; omega), if_neg (by omega)]; exact R.d7 h, fun _ => by rw [put_get _ _ _ _ (by rw [R.sz]; omega), if_pos rfl], fun h => by rw [put_get _ _ _ _ (by rw [R.sz]; omega), if_neg (by omega)]; exact R.d9 h, R.e6⟩⟩
    · refine wpOp_of (o := o9) rfl q9 ?_
      unfold Oper.wp
      rw [k9 a w]
      show ∃ _, _
      rw [t9]
      exact ⟨l0, l1, l2, l3, l4, l5, l6, l7, l8, true, rfl, q, ⟨R.below, R.keep, R.size, R.rb, by rw [put_get _ _ _ _ (by rw [R.sz]; omega), if_neg (by omega)]; exact R.s6, by rw [put_get _ _ _ _ (by rw [R.sz]; omega), if_neg (by omega)]; exact R.s11, by rw [put_size]; exact R.sz, by rw [put_defers]; exact R.df, fun h => by rw [put_get _ _ _ _ (by rw [R.sz]; omega), if_neg (by omega)]; exact R.d0 h, fun h => ⟨by rw [put_get _ _ _ _ (by rw [R.sz]; omega), if_neg (by omega)]; exact (R.d1 h).1, (R.d1 h).2.1, (R.d1 h).2.2⟩, fun h => by rw [put_get _ _ _ _ (by rw [R.sz]; omega), if_neg (by omega)]; exact R.d2 h, fun h => by rw [put_get _ _ _ _ (by rw [R.sz]; omega), if_neg (by omega)]; exact R.d3 h, fun h => by rw [put_get _ _ _ _ (by rw [R.sz]; omega), if_neg (by omega)]; exact R.d4 h, fun h => by rw [put_get _ _ _ _ (by rw [R.sz]; omega), if_neg (by omega)]; exact R.d5 h, fun h => by rw [put_get _ _ _ _ (by rw [R.sz]; omega), if_neg (by omega)]; exact R.d7 h, fun h => by rw [put_get _ _ _ _ (by rw [R.sz]; omega), if_neg (by omega)]; exact R.d8 h, fun _ => by rw [put_get _ _ _ _ (by rw [R.sz]; omega), if_pos rfl], R.e6⟩⟩
    · simp at h'
  · rintro listed a w ⟨l0, l1, l2, l3, l4, l5, l6, l7, l8, l9, rfl, q, R⟩ hr'
    have h := ready_noneB hr' rfl (fun k hk => (List.all_eq_true.1 E1) k (List.mem_range.2 hk))
    have x1 : l1 = true := h 1 (by simp)
    have x6 : l6 = true := h 6 (by simp)
    have x7 : l7 = true := h 7 (by simp)
    have x8 : l8 = true := h 8 (by simp)
    have x9 : l9 = true := h 9 (by simp)
    have rb := R.rb
    rw [x6] at rb
    exact hQ a w q R.below rb (R.d1 x1).2.1 (R.d1 x1).2.2 R.s6 (R.d7 x7) (R.d8 x8) (R.d9 x9) R.df
  · exact ⟨false, false, false, false, false, false, false, false, false, false, rfl, 0, ⟨bc.drew, fun _ _ _ => rfl, Nat.le_refl _, gb, z6, z11, zz, zd, by simp, by simp, by simp, by simp, by simp, by simp, by simp, by simp, by simp, by simp⟩⟩
end Go.Proofs.YtlpdobfjgpedaaaDoor

