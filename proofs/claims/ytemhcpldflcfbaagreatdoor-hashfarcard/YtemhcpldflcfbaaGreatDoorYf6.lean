/-
  What the last text of this claim leans on, part 6: Gq5, Gr3.
-/
import Derived.Test.YtemhcpldflcfbaaGreatDoorYf2
import Derived.Test.YtemhcpldflcfbaaGreatDoorYf5
namespace Go.Proofs.YtemhcpldflcfbaaGreatDoor
open Go.RowKit
set_option linter.unusedVariables false
theorem ready_none {ops : Array Oper} {listed : Array Bool} (hr : Region.ready .any ops listed = []) (hs : listed.size = ops.size) (h : ∀ k, k < ops.size → ((ops[k]?).map fun o => o.after.all fun e => decide (e.on < k)).getD false = true) : ∀ k, k < ops.size → listed.getD k true = true := by
 intro k
 induction k using Nat.strongRecOn with
 | ind k ih =>
  intro hk
  cases hl : listed.getD k true with
  | true => rfl
  | false =>
   exfalso
   have : k ∈ Region.ready .any ops listed := by
    refine mem_ready.2 ⟨hl, ops[k], by simp [hk], fun e he _ => ?_⟩
    have h1 := h k hk
    rw [show ops[k]? = some ops[k] by simp [hk]] at h1
    simp only [Option.map_some, Option.getD_some, Array.all_eq_true] at h1
    obtain ⟨n, hn, rfl⟩ := Array.getElem_of_mem he
    have h2 : (ops[k].after[n]).on < k := by simpa using h1 n hn
    have h3 := ih _ h2 (by omega)
    have h4 : (ops[k].after[n]).on < listed.size := by omega
    simpa [Array.getD_eq_getD_getElem?, h4] using h3
   rw [hr] at this
   cases this
theorem below_setRow {B : Nat} {a w : World} (h : Below B a w) {g : Nat} (hg : B ≤ g) (cs : Array Value) : Below B a (w.setRow g cs) :=
 ⟨h.os, h.tape, h.output, by rw [setRow_size]; exact h.size, fun k hk => (setRow_other w g k cs (by omega)).trans (h.block k hk)⟩
structure R3 (B : Nat) (w0 : World) (T : TypeId) (z r1 r2 r3 s1 s2 s3 : Array Value) (fr : Value → Value → Value → Value → Value → Value → Value → Value → Value → Act) (l0 l1 l2 l3 l4 l5 l6 l7 l8 l9 l10 l11 : Bool) (v1 u1 v2 u2 v3 u3 x1 x2 x3 : Value) (p1 p2 p3 : Nat) (a : Act) (w : World) : Prop where
 frame : a = fr v1 u1 v2 u2 v3 u3 x1 x2 x3
 below : Below B w0 w
 d1 : l0 = true → v1 = .agg r1
 d2 : l2 = true → v2 = .agg r2
 d3 : l4 = true → v3 = .agg r3
 c1 : l1 = true → u1 = .agg s1
 c2 : l3 = true → u2 = .agg s2
 c3 : l5 = true → u3 = .agg s3
 n1 : l6 = false → x1 = undef
 n2 : l7 = false → x2 = undef
 n3 : l8 = false → x3 = undef
 m1 : l6 = true → x1 = .pointer (some ⟨p1, 0, none⟩) ∧ B ≤ p1 ∧ w.heap[p1]? = some (.cells (if l9 then s1 else z) T (0, 0))
 m2 : l7 = true → x2 = .pointer (some ⟨p2, 0, none⟩) ∧ B ≤ p2 ∧ w.heap[p2]? = some (.cells (if l10 then s2 else z) T (0, 0))
 m3 : l8 = true → x3 = .pointer (some ⟨p3, 0, none⟩) ∧ B ≤ p3 ∧ w.heap[p3]? = some (.cells (if l11 then s3 else z) T (0, 0))
 n12 : l6 = true → l7 = true → p1 ≠ p2
 n13 : l6 = true → l8 = true → p1 ≠ p3
 n23 : l7 = true → l8 = true → p2 ≠ p3
 e1 : l9 = true → l6 = true
 e2 : l10 = true → l7 = true
 e3 : l11 = true → l8 = true
theorem lt_of_block {w : World} {p : Nat} {o : Obj} (h : w.heap[p]? = some o) : p < w.heap.size := (Array.getElem?_eq_some_iff.1 h).1
set_option maxHeartbeats 1600000 in
theorem region3 {P : Program} {id : Nat} {Q : Exit → Act → World → Prop} {w0 : World} (hm : P.follows .mixedOrders = true)
  (fr : Value → Value → Value → Value → Value → Value → Value → Value → Value → Act) (o0 o1 o2 o3 o4 o5 o6 o7 o8 o9 o10 o11 : Oper) (T : TypeId) (D : TypeDesc) (f : FuncId) (ex : List Value) (y1 y2 y3 : Operand) (t1 t2 t3 q1 q2 q3 : Operand) (b1 b2 b3 : Nat) (z r1 r2 r3 s1 s2 s3 : Array Value)
  (hg : ([o0, o1, o2, o3, o4, o5, o6, o7, o8, o9, o10, o11].map (·.guard)) = List.replicate 12 none)
  (hdd : [o9.dst, o10.dst, o11.dst] = [none, none, none])
  (put0 : ∀ v1 u1 v2 u2 v3 u3 x1 x2 x3 v, (fr v1 u1 v2 u2 v3 u3 x1 x2 x3).put o0.dst v = fr v u1 v2 u2 v3 u3 x1 x2 x3)
  (put1 : ∀ v1 u1 v2 u2 v3 u3 x1 x2 x3 v, (fr v1 u1 v2 u2 v3 u3 x1 x2 x3).put o1.dst v = fr v1 v v2 u2 v3 u3 x1 x2 x3)
  (put2 : ∀ v1 u1 v2 u2 v3 u3 x1 x2 x3 v, (fr v1 u1 v2 u2 v3 u3 x1 x2 x3).put o2.dst v = fr v1 u1 v u2 v3 u3 x1 x2 x3)
  (put3 : ∀ v1 u1 v2 u2 v3 u3 x1 x2 x3 v, (fr v1 u1 v2 u2 v3 u3 x1 x2 x3).put o3.dst v = fr v1 u1 v2 v v3 u3 x1 x2 x3)
  (put4 : ∀ v1 u1 v2 u2 v3 u3 x1 x2 x3 v, (fr v1 u1 v2 u2 v3 u3 x1 x2 x3).put o4.dst v = fr v1 u1 v2 u2 v u3 x1 x2 x3)
  (put5 : ∀ v1 u1 v2 u2 v3 u3 x1 x2 x3 v, (fr v1 u1 v2 u2 v3 u3 x1 x2 x3).put o5.dst v = fr v1 u1 v2 u2 v3 v x1 x2 x3)
  (put6 : ∀ v1 u1 v2 u2 v3 u3 x1 x2 x3 v, (fr v1 u1 v2 u2 v3 u3 x1 x2 x3).put o6.dst v = fr v1 u1 v2 u2 v3 u3 v x2 x3)
  (put7 : ∀ v1 u1 v2 u2 v3 u3 x1 x2 x3 v, (fr v1 u1 v2 u2 v3 u3 x1 x2 x3).put o7.dst v = fr v1 u1 v2 u2 v3 u3 x1 v x3)
  (put8 : ∀ v1 u1 v2 u2 v3 u3 x1 x2 x3 v, (fr v1 u1 v2 u2 v3 u3 x1 x2 x3).put o8.dst v = fr v1 u1 v2 u2 v3 u3 x1 x2 v)
  (ld1 : o0.op = .load T y1) (ld2 : o2.op = .load T y2) (ld3 : o4.op = .load T y3)
  (ey1 : ∀ v1 u1 v2 u2 v3 u3 x1 x2 x3, (fr v1 u1 v2 u2 v3 u3 x1 x2 x3).eval y1 = .pointer (some ⟨b1, 0, none⟩)) (ey2 : ∀ v1 u1 v2 u2 v3 u3 x1 x2 x3, (fr v1 u1 v2 u2 v3 u3 x1 x2 x3).eval y2 = .pointer (some ⟨b2, 0, none⟩)) (ey3 : ∀ v1 u1 v2 u2 v3 u3 x1 x2 x3, (fr v1 u1 v2 u2 v3 u3 x1 x2 x3).eval y3 = .pointer (some ⟨b3, 0, none⟩))
  (k1 : ∀ v1 u1 v2 u2 v3 u3 x1 x2 x3 w, (execOp (fr v1 u1 v2 u2 v3 u3 x1 x2 x3).eval o1).run P w = .ok (.enter f (v1 :: ex).toArray) w)
  (k2 : ∀ v1 u1 v2 u2 v3 u3 x1 x2 x3 w, (execOp (fr v1 u1 v2 u2 v3 u3 x1 x2 x3).eval o3).run P w = .ok (.enter f (v2 :: ex).toArray) w)
  (k3 : ∀ v1 u1 v2 u2 v3 u3 x1 x2 x3 w, (execOp (fr v1 u1 v2 u2 v3 u3 x1 x2 x3).eval o5).run P w = .ok (.enter f (v3 :: ex).toArray) w)
  (al1 : ∀ v1 u1 v2 u2 v3 u3 x1 x2 x3 w, x1 = undef → (execOp (fr v1 u1 v2 u2 v3 u3 x1 x2 x3).eval o6).run P w = .ok (.value (.pointer (some ⟨w.heap.size, 0, none⟩))) (w.alloc (.cells z T)))
  (al2 : ∀ v1 u1 v2 u2 v3 u3 x1 x2 x3 w, x2 = undef → (execOp (fr v1 u1 v2 u2 v3 u3 x1 x2 x3).eval o7).run P w = .ok (.value (.pointer (some ⟨w.heap.size, 0, none⟩))) (w.alloc (.cells z T)))
  (al3 : ∀ v1 u1 v2 u2 v3 u3 x1 x2 x3 w, x3 = undef → (execOp (fr v1 u1 v2 u2 v3 u3 x1 x2 x3).eval o8).run P w = .ok (.value (.pointer (some ⟨w.heap.size, 0, none⟩))) (w.alloc (.cells z T)))
  (st1 : o9.op = .store T t1 q1) (st2 : o10.op = .store T t2 q2) (st3 : o11.op = .store T t3 q3)
  (et1 : ∀ v1 u1 v2 u2 v3 u3 x1 x2 x3, (fr v1 u1 v2 u2 v3 u3 x1 x2 x3).eval t1 = x1 ∧ (fr v1 u1 v2 u2 v3 u3 x1 x2 x3).eval q1 = u1) (et2 : ∀ v1 u1 v2 u2 v3 u3 x1 x2 x3, (fr v1 u1 v2 u2 v3 u3 x1 x2 x3).eval t2 = x2 ∧ (fr v1 u1 v2 u2 v3 u3 x1 x2 x3).eval q2 = u2) (et3 : ∀ v1 u1 v2 u2 v3 u3 x1 x2 x3, (fr v1 u1 v2 u2 v3 u3 x1 x2 x3).eval t3 = x3 ∧ (fr v1 u1 v2 u2 v3 u3 x1 x2 x3).eval q3 = u3)
  (hu : P.underlying T = some D) (hD : (match D with | .struct _ | .array _ _ => true | _ => false) = true) (hi : (P.info? T).map (·.size) = some r1.size)
  (z1 : r2.size = r1.size) (z2 : r3.size = r1.size) (z3 : s1.size = r1.size) (z4 : s2.size = r1.size) (z5 : s3.size = r1.size) (z6 : z.size = r1.size)
  (a1 : s1.all (·.oneCell') = true) (a2 : s2.all (·.oneCell') = true) (a3 : s3.all (·.oneCell') = true)
  (g1 : w0.heap[b1]? = some (.cells r1 T (0, 0))) (g2 : w0.heap[b2]? = some (.cells r2 T (0, 0))) (g3 : w0.heap[b3]? = some (.cells r3 T (0, 0)))
  (E1 : ((List.range 12).all fun k => ((#[o0, o1, o2, o3, o4, o5, o6, o7, o8, o9, o10, o11][k]?).map fun o => o.after.all fun e => decide (e.on < k)).getD false) = true)
  (E2 : ([(1, 0), (3, 2), (5, 4), (9, 1), (9, 6), (9, 7), (9, 8), (10, 3), (10, 6), (10, 7), (10, 8), (11, 5), (11, 6), (11, 7), (11, 8)].all fun (x : Nat × Nat) => ((#[o0, o1, o2, o3, o4, o5, o6, o7, o8, o9, o10, o11][x.1]?).map fun o => o.after.any fun e => Region.binds .any e && e.on == x.2).getD false) = true)
  (hc1 : ∀ w, Calls P f (.agg r1 :: ex).toArray w fun e w' => e = .returned (.agg s1) ∧ Below w.heap.size w w')
  (hc2 : ∀ w, Calls P f (.agg r2 :: ex).toArray w fun e w' => e = .returned (.agg s2) ∧ Below w.heap.size w w')
  (hc3 : ∀ w, Calls P f (.agg r3 :: ex).toArray w fun e w' => e = .returned (.agg s3) ∧ Below w.heap.size w w')
  (hQ : ∀ p1 p2 p3 w, w0.heap.size ≤ p1 → w0.heap.size ≤ p2 → w0.heap.size ≤ p3 → Below w0.heap.size w0 w → w.heap[p1]? = some (.cells s1 T (0, 0)) → w.heap[p2]? = some (.cells s2 T (0, 0)) → w.heap[p3]? = some (.cells s3 T (0, 0)) → p1 ≠ p2 → p1 ≠ p3 → p2 ≠ p3 →
   Q .normal (fr (.agg r1) (.agg s1) (.agg r2) (.agg s2) (.agg r3) (.agg s3) (.pointer (some ⟨p1, 0, none⟩)) (.pointer (some ⟨p2, 0, none⟩)) (.pointer (some ⟨p3, 0, none⟩))) w) :
  (Code.region id #[o0, o1, o2, o3, o4, o5, o6, o7, o8, o9, o10, o11] true).wp P Q (fr undef undef undef undef undef undef undef undef undef) w0 := by
 simp only [List.map_cons, List.map_nil, List.replicate, List.cons.injEq, and_true] at hg hdd
 obtain ⟨h0, h1, h2, h3, h4, h5, h6, h7, h8, h9, h10, h11⟩ := hg
 obtain ⟨e9, e10, e11⟩ := hdd
 have need : ∀ l0 l1 l2 l3 l4 l5 l6 l7 l8 l9 l10 l11 i j, i ∈ Region.ready .any #[o0, o1, o2, o3, o4, o5, o6, o7, o8, o9, o10, o11] #[l0, l1, l2, l3, l4, l5, l6, l7, l8, l9, l10, l11] → (i, j) ∈ [(1, 0), (3, 2), (5, 4), (9, 1), (9, 6), (9, 7), (9, 8), (10, 3), (10, 6), (10, 7), (10, 8), (11, 5), (11, 6), (11, 7), (11, 8)] → (#[l0, l1, l2, l3, l4, l5, l6, l7, l8, l9, l10, l11] : Array Bool).getD j false = true := fun l0 l1 l2 l3 l4 l5 l6 l7 l8 l9 l10 l11 i j hi hj => ready_needs hi ((List.all_eq_true.1 E2) (i, j) hj)
 have rdy : ∀ l0 l1 l2 l3 l4 l5 l6 l7 l8 l9 l10 l11 i, i ∈ Region.ready .any #[o0, o1, o2, o3, o4, o5, o6, o7, o8, o9, o10, o11] #[l0, l1, l2, l3, l4, l5, l6, l7, l8, l9, l10, l11] →
   (i = 0 ∧ l0 = false) ∨ (i = 1 ∧ l1 = false ∧ l0 = true) ∨ (i = 2 ∧ l2 = false) ∨ (i = 3 ∧ l3 = false ∧ l2 = true) ∨ (i = 4 ∧ l4 = false) ∨ (i = 5 ∧ l5 = false ∧ l4 = true) ∨ (i = 6 ∧ l6 = false) ∨ (i = 7 ∧ l7 = false) ∨ (i = 8 ∧ l8 = false) ∨ (i = 9 ∧ l9 = false ∧ l1 = true ∧ l6 = true ∧ l7 = true ∧ l8 = true) ∨ (i = 10 ∧ l10 = false ∧ l3 = true ∧ l6 = true ∧ l7 = true ∧ l8 = true) ∨ (i = 11 ∧ l11 = false ∧ l5 = true ∧ l6 = true ∧ l7 = true ∧ l8 = true) := by
  intro l0 l1 l2 l3 l4 l5 l6 l7 l8 l9 l10 l11 i hi
  have h0 := (mem_ready.1 hi).1
  have N := need l0 l1 l2 l3 l4 l5 l6 l7 l8 l9 l10 l11 i
  rcases i with _ | _ | _ | _ | _ | _ | _ | _ | _ | _ | _ | _ | i
  ·exact Or.inl ⟨rfl, h0⟩
  ·exact Or.inr (Or.inl ⟨rfl, h0, N 0 hi (by simp)⟩)
  ·exact Or.inr (Or.inr (Or.inl ⟨rfl, h0⟩))
  ·exact Or.inr (Or.inr (Or.inr (Or.inl ⟨rfl, h0, N 2 hi (by simp)⟩)))
  ·exact Or.inr (Or.inr (Or.inr (Or.inr (Or.inl ⟨rfl, h0⟩))))
  ·exact Or.inr (Or.inr (Or.inr (Or.inr (Or.inr (Or.inl ⟨rfl, h0, N 4 hi (by simp)⟩)))))
  ·exact Or.inr (Or.inr (Or.inr (Or.inr (Or.inr (Or.inr (Or.inl ⟨rfl, h0⟩))))))
  ·exact Or.inr (Or.inr (Or.inr (Or.inr (Or.inr (Or.inr (Or.inr (Or.inl ⟨rfl, h0⟩)))))))
  ·exact Or.inr (Or.inr (Or.inr (Or.inr (Or.inr (Or.inr (Or.inr (Or.inr (Or.inl ⟨rfl, h0⟩))))))))
  ·exact Or.inr (Or.inr (Or.inr (Or.inr (Or.inr (Or.inr (Or.inr (Or.inr (Or.inr (Or.inl ⟨rfl, h0, N 1 hi (by simp), N 6 hi (by simp), N 7 hi (by simp), N 8 hi (by simp)⟩)))))))))
  ·exact Or.inr (Or.inr (Or.inr (Or.inr (Or.inr (Or.inr (Or.inr (Or.inr (Or.inr (Or.inr (Or.inl ⟨rfl, h0, N 3 hi (by simp), N 6 hi (by simp), N 7 hi (by simp), N 8 hi (by simp)⟩))))))))))
  ·exact Or.inr (Or.inr (Or.inr (Or.inr (Or.inr (Or.inr (Or.inr (Or.inr (Or.inr (Or.inr (Or.inr ⟨rfl, h0, N 5 hi (by simp), N 6 hi (by simp), N 7 hi (by simp), N 8 hi (by simp)⟩))))))))))
  ·simp at h0
 have fin : ∀ l0 l1 l2 l3 l4 l5 l6 l7 l8 l9 l10 l11, Region.ready .any #[o0, o1, o2, o3, o4, o5, o6, o7, o8, o9, o10, o11] #[l0, l1, l2, l3, l4, l5, l6, l7, l8, l9, l10, l11] = [] → l0 = true ∧ l1 = true ∧ l2 = true ∧ l3 = true ∧ l4 = true ∧ l5 = true ∧ l6 = true ∧ l7 = true ∧ l8 = true ∧ l9 = true ∧ l10 = true ∧ l11 = true := by
  intro l0 l1 l2 l3 l4 l5 l6 l7 l8 l9 l10 l11 hr
  have h := ready_none hr rfl (fun k hk => (List.all_eq_true.1 E1) k (List.mem_range.2 hk))
  exact ⟨h 0 (by simp), h 1 (by simp), h 2 (by simp), h 3 (by simp), h 4 (by simp), h 5 (by simp), h 6 (by simp), h 7 (by simp), h 8 (by simp), h 9 (by simp), h 10 (by simp), h 11 (by simp)⟩
 have B1 := lt_of_block g1
 have B2 := lt_of_block g2
 have B3 := lt_of_block g3
 refine wp_region_any hm (wpAny_inv (fun listed a w => ∃ l0 l1 l2 l3 l4 l5 l6 l7 l8 l9 l10 l11, listed = #[l0, l1, l2, l3, l4, l5, l6, l7, l8, l9, l10, l11] ∧ ∃ v1 u1 v2 u2 v3 u3 x1 x2 x3 p1 p2 p3, R3 w0.heap.size w0 T z r1 r2 r3 s1 s2 s3 fr l0 l1 l2 l3 l4 l5 l6 l7 l8 l9 l10 l11 v1 u1 v2 u2 v3 u3 x1 x2 x3 p1 p2 p3 a w) ?_ ?_ _ _ _ _ (by simp) ?_)
 ·rintro listed a w ⟨l0, l1, l2, l3, l4, l5, l6, l7, l8, l9, l10, l11, rfl, v1, u1, v2, u2, v3, u3, x1, x2, x3, p1, p2, p3, R⟩ i hr
  have fe := R.frame
  subst fe
  rcases rdy _ _ _ _ _ _ _ _ _ _ _ _ i hr with ⟨rfl, q⟩ | ⟨rfl, q, qa⟩ | ⟨rfl, q⟩ | ⟨rfl, q, qa⟩ | ⟨rfl, q⟩ | ⟨rfl, q, qa⟩ | ⟨rfl, q⟩ | ⟨rfl, q⟩ | ⟨rfl, q⟩ | ⟨rfl, q, qa, qb, qc, qd⟩ | ⟨rfl, q, qa, qb, qc, qd⟩ | ⟨rfl, q, qa, qb, qc, qd⟩
  ·refine wpOp_of (o := o0) rfl h0 (wp_load_row T y1 ld1 b1 (ey1 _ _ _ _ _ _ _ _ _) T r1 (0, 0) D ((R.below.block b1 B1).trans g1) hu hD (by rw [hi]) ?_)
   rw [put0]
   exact ⟨true, l1, l2, l3, l4, l5, l6, l7, l8, l9, l10, l11, rfl, .agg r1, u1, v2, u2, v3, u3, x1, x2, x3, p1, p2, p3, ⟨rfl, R.below, fun _ => rfl, R.d2, R.d3, R.c1, R.c2, R.c3, R.n1, R.n2, R.n3, R.m1, R.m2, R.m3, R.n12, R.n13, R.n23, R.e1, R.e2, R.e3⟩⟩
  ·refine wpOp_of (o := o1) rfl h1 ?_
   unfold Oper.wp
   rw [k1, Oper.upon_enter, R.d1 qa]
   refine (hc1 w).mono ?_
   rintro e W ⟨rfl, bb⟩
   show ∃ _, _
   rw [put1]
   exact ⟨l0, true, l2, l3, l4, l5, l6, l7, l8, l9, l10, l11, rfl, .agg r1, .agg s1, v2, u2, v3, u3, x1, x2, x3, p1, p2, p3, ⟨rfl, R.below.trans (bb.mono R.below.size), fun _ => rfl, R.d2, R.d3, fun _ => rfl, R.c2, R.c3, R.n1, R.n2, R.n3, fun h => ⟨(R.m1 h).1, (R.m1 h).2.1, (bb.block _ (lt_of_block (R.m1 h).2.2)).trans (R.m1 h).2.2⟩, fun h => ⟨(R.m2 h).1, (R.m2 h).2.1, (bb.block _ (lt_of_block (R.m2 h).2.2)).trans (R.m2 h).2.2⟩, fun h => ⟨(R.m3 h).1, (R.m3 h).2.1, (bb.block _ (lt_of_block (R.m3 h).2.2)).trans (R.m3 h).2.2⟩, R.n12, R.n13, R.n23, R.e1, R.e2, R.e3⟩⟩
  ·refine wpOp_of (o := o2) rfl h2 (wp_load_row T y2 ld2 b2 (ey2 _ _ _ _ _ _ _ _ _) T r2 (0, 0) D ((R.below.block b2 B2).trans g2) hu hD (by rw [hi, z1]) ?_)
   rw [put2]
   exact ⟨l0, l1, true, l3, l4, l5, l6, l7, l8, l9, l10, l11, rfl, v1, u1, .agg r2, u2, v3, u3, x1, x2, x3, p1, p2, p3, ⟨rfl, R.below, R.d1, fun _ => rfl, R.d3, R.c1, R.c2, R.c3, R.n1, R.n2, R.n3, R.m1, R.m2, R.m3, R.n12, R.n13, R.n23, R.e1, R.e2, R.e3⟩⟩
  ·refine wpOp_of (o := o3) rfl h3 ?_
   unfold Oper.wp
   rw [k2, Oper.upon_enter, R.d2 qa]
   refine (hc2 w).mono ?_
   rintro e W ⟨rfl, bb⟩
   show ∃ _, _
   rw [put3]
   exact ⟨l0, l1, l2, true, l4, l5, l6, l7, l8, l9, l10, l11, rfl, v1, u1, .agg r2, .agg s2, v3, u3, x1, x2, x3, p1, p2, p3, ⟨rfl, R.below.trans (bb.mono R.below.size), R.d1, fun _ => rfl, R.d3, R.c1, fun _ => rfl, R.c3, R.n1, R.n2, R.n3, fun h => ⟨(R.m1 h).1, (R.m1 h).2.1, (bb.block _ (lt_of_block (R.m1 h).2.2)).trans (R.m1 h).2.2⟩, fun h => ⟨(R.m2 h).1, (R.m2 h).2.1, (bb.block _ (lt_of_block (R.m2 h).2.2)).trans (R.m2 h).2.2⟩, fun h => ⟨(R.m3 h).1, (R.m3 h).2.1, (bb.block _ (lt_of_block (R.m3 h).2.2)).trans (R.m3 h).2.2⟩, R.n12, R.n13, R.n23, R.e1, R.e2, R.e3⟩⟩
  ·refine wpOp_of (o := o4) rfl h4 (wp_load_row T y3 ld3 b3 (ey3 _ _ _ _ _ _ _ _ _) T r3 (0, 0) D ((R.below.block b3 B3).trans g3) hu hD (by rw [hi, z2]) ?_)
   rw [put4]
   exact ⟨l0, l1, l2, l3, true, l5, l6, l7, l8, l9, l10, l11, rfl, v1, u1, v2, u2, .agg r3, u3, x1, x2, x3, p1, p2, p3, ⟨rfl, R.below, R.d1, R.d2, fun _ => rfl, R.c1, R.c2, R.c3, R.n1, R.n2, R.n3, R.m1, R.m2, R.m3, R.n12, R.n13, R.n23, R.e1, R.e2, R.e3⟩⟩
  ·refine wpOp_of (o := o5) rfl h5 ?_
   unfold Oper.wp
   rw [k3, Oper.upon_enter, R.d3 qa]
   refine (hc3 w).mono ?_
   rintro e W ⟨rfl, bb⟩
   show ∃ _, _
   rw [put5]
   exact ⟨l0, l1, l2, l3, l4, true, l6, l7, l8, l9, l10, l11, rfl, v1, u1, v2, u2, .agg r3, .agg s3, x1, x2, x3, p1, p2, p3, ⟨rfl, R.below.trans (bb.mono R.below.size), R.d1, R.d2, fun _ => rfl, R.c1, R.c2, fun _ => rfl, R.n1, R.n2, R.n3, fun h => ⟨(R.m1 h).1, (R.m1 h).2.1, (bb.block _ (lt_of_block (R.m1 h).2.2)).trans (R.m1 h).2.2⟩, fun h => ⟨(R.m2 h).1, (R.m2 h).2.1, (bb.block _ (lt_of_block (R.m2 h).2.2)).trans (R.m2 h).2.2⟩, fun h => ⟨(R.m3 h).1, (R.m3 h).2.1, (bb.block _ (lt_of_block (R.m3 h).2.2)).trans (R.m3 h).2.2⟩, R.n12, R.n13, R.n23, R.e1, R.e2, R.e3⟩⟩
  ·refine wpOp_of (o := o6) rfl h6 ?_
   unfold Oper.wp
   rw [al1 _ _ _ _ _ _ _ _ _ _ (R.n1 q)]
   have L1 : (if l9 then s1 else z) = z := by
    cases hl : l9 with
    | false => rfl
    | true => exact absurd ((R.e1 hl).symm.trans q) (by simp)
   show ∃ _, _
   rw [put6]
   exact ⟨l0, l1, l2, l3, l4, l5, true, l7, l8, l9, l10, l11, rfl, v1, u1, v2, u2, v3, u3, .pointer (some ⟨w.heap.size, 0, none⟩), x2, x3, w.heap.size, p2, p3, ⟨rfl, R.below.alloc R.below.size _, R.d1, R.d2, R.d3, R.c1, R.c2, R.c3, fun h => (by cases h), R.n2, R.n3, fun _ => ⟨rfl, R.below.size, by rw [L1]; exact heap_alloc_new w _⟩, fun h => ⟨(R.m2 h).1, (R.m2 h).2.1, (Below.heap_alloc w _ _ (lt_of_block (R.m2 h).2.2)).trans (R.m2 h).2.2⟩, fun h => ⟨(R.m3 h).1, (R.m3 h).2.1, (Below.heap_alloc w _ _ (lt_of_block (R.m3 h).2.2)).trans (R.m3 h).2.2⟩, fun _ h => Nat.ne_of_gt (lt_of_block (R.m2 h).2.2), fun _ h => Nat.ne_of_gt (lt_of_block (R.m3 h).2.2), R.n23, fun _ => rfl, R.e2, R.e3⟩⟩
  ·refine wpOp_of (o := o7) rfl h7 ?_
   unfold Oper.wp
   rw [al2 _ _ _ _ _ _ _ _ _ _ (R.n2 q)]
   have L2 : (if l10 then s2 else z) = z := by
    cases hl : l10 with
    | false => rfl
    | true => exact absurd ((R.e2 hl).symm.trans q) (by simp)
   show ∃ _, _
   rw [put7]
   exact ⟨l0, l1, l2, l3, l4, l5, l6, true, l8, l9, l10, l11, rfl, v1, u1, v2, u2, v3, u3, x1, .pointer (some ⟨w.heap.size, 0, none⟩), x3, p1, w.heap.size, p3, ⟨rfl, R.below.alloc R.below.size _, R.d1, R.d2, R.d3, R.c1, R.c2, R.c3, R.n1, fun h => (by cases h), R.n3, fun h => ⟨(R.m1 h).1, (R.m1 h).2.1, (Below.heap_alloc w _ _ (lt_of_block (R.m1 h).2.2)).trans (R.m1 h).2.2⟩, fun _ => ⟨rfl, R.below.size, by rw [L2]; exact heap_alloc_new w _⟩, fun h => ⟨(R.m3 h).1, (R.m3 h).2.1, (Below.heap_alloc w _ _ (lt_of_block (R.m3 h).2.2)).trans (R.m3 h).2.2⟩, fun h _ => Nat.ne_of_lt (lt_of_block (R.m1 h).2.2), R.n13, fun _ h => Nat.ne_of_gt (lt_of_block (R.m3 h).2.2), R.e1, fun _ => rfl, R.e3⟩⟩
  ·refine wpOp_of (o := o8) rfl h8 ?_
   unfold Oper.wp
   rw [al3 _ _ _ _ _ _ _ _ _ _ (R.n3 q)]
   have L3 : (if l11 then s3 else z) = z := by
    cases hl : l11 with
    | false => rfl
    | true => exact absurd ((R.e3 hl).symm.trans q) (by simp)
   show ∃ _, _
   rw [put8]
   exact ⟨l0, l1, l2, l3, l4, l5, l6, l7, true, l9, l10, l11, rfl, v1, u1, v2, u2, v3, u3, x1, x2, .pointer (some ⟨w.heap.size, 0, none⟩), p1, p2, w.heap.size, ⟨rfl, R.below.alloc R.below.size _, R.d1, R.d2, R.d3, R.c1, R.c2, R.c3, R.n1, R.n2, fun h => (by cases h), fun h => ⟨(R.m1 h).1, (R.m1 h).2.1, (Below.heap_alloc w _ _ (lt_of_block (R.m1 h).2.2)).trans (R.m1 h).2.2⟩, fun h => ⟨(R.m2 h).1, (R.m2 h).2.1, (Below.heap_alloc w _ _ (lt_of_block (R.m2 h).2.2)).trans (R.m2 h).2.2⟩, fun _ => ⟨rfl, R.below.size, by rw [L3]; exact heap_alloc_new w _⟩, R.n12, fun h _ => Nat.ne_of_lt (lt_of_block (R.m1 h).2.2), fun h _ => Nat.ne_of_lt (lt_of_block (R.m2 h).2.2), R.e1, R.e2, fun _ => rfl⟩⟩
  ·have M := R.m1 qb
   refine wpOp_of (o := o9) rfl h9 (wp_store_row T t1 q1 st1 p1 s1 (by rw [(et1 _ _ _ _ _ _ _ _ _).1]; exact M.1) (by rw [(et1 _ _ _ _ _ _ _ _ _).2]; exact R.c1 qa) T _ M.2.2 (by rw [hi, z3]) (by split <;> omega) a1 ?_)
   rw [e9]
   exact ⟨l0, l1, l2, l3, l4, l5, l6, l7, l8, true, l10, l11, rfl, v1, u1, v2, u2, v3, u3, x1, x2, x3, p1, p2, p3, ⟨rfl, below_setRow R.below (R.m1 qb).2.1 _, R.d1, R.d2, R.d3, R.c1, R.c2, R.c3, R.n1, R.n2, R.n3, fun h => ⟨(R.m1 h).1, (R.m1 h).2.1, setRow_heap w p1 _ _ T _ (R.m1 h).2.2⟩, fun h => ⟨(R.m2 h).1, (R.m2 h).2.1, (setRow_other w p1 p2 _ (Ne.symm (R.n12 qb qc))).trans (R.m2 h).2.2⟩, fun h => ⟨(R.m3 h).1, (R.m3 h).2.1, (setRow_other w p1 p3 _ (Ne.symm (R.n13 qb qd))).trans (R.m3 h).2.2⟩, R.n12, R.n13, R.n23, fun _ => qb, R.e2, R.e3⟩⟩
  ·have M := R.m2 qc
   refine wpOp_of (o := o10) rfl h10 (wp_store_row T t2 q2 st2 p2 s2 (by rw [(et2 _ _ _ _ _ _ _ _ _).1]; exact M.1) (by rw [(et2 _ _ _ _ _ _ _ _ _).2]; exact R.c2 qa) T _ M.2.2 (by rw [hi, z4]) (by split <;> omega) a2 ?_)
   rw [e10]
   exact ⟨l0, l1, l2, l3, l4, l5, l6, l7, l8, l9, true, l11, rfl, v1, u1, v2, u2, v3, u3, x1, x2, x3, p1, p2, p3, ⟨rfl, below_setRow R.below (R.m2 qc).2.1 _, R.d1, R.d2, R.d3, R.c1, R.c2, R.c3, R.n1, R.n2, R.n3, fun h => ⟨(R.m1 h).1, (R.m1 h).2.1, (setRow_other w p2 p1 _ (R.n12 qb qc)).trans (R.m1 h).2.2⟩, fun h => ⟨(R.m2 h).1, (R.m2 h).2.1, setRow_heap w p2 _ _ T _ (R.m2 h).2.2⟩, fun h => ⟨(R.m3 h).1, (R.m3 h).2.1, (setRow_other w p2 p3 _ (Ne.symm (R.n23 qc qd))).trans (R.m3 h).2.2⟩, R.n12, R.n13, R.n23, R.e1, fun _ => qc, R.e3⟩⟩
  ·have M := R.m3 qd
   refine wpOp_of (o := o11) rfl h11 (wp_store_row T t3 q3 st3 p3 s3 (by rw [(et3 _ _ _ _ _ _ _ _ _).1]; exact M.1) (by rw [(et3 _ _ _ _ _ _ _ _ _).2]; exact R.c3 qa) T _ M.2.2 (by rw [hi, z5]) (by split <;> omega) a3 ?_)
   rw [e11]
   exact ⟨l0, l1, l2, l3, l4, l5, l6, l7, l8, l9, l10, true, rfl, v1, u1, v2, u2, v3, u3, x1, x2, x3, p1, p2, p3, ⟨rfl, below_setRow R.below (R.m3 qd).2.1 _, R.d1, R.d2, R.d3, R.c1, R.c2, R.c3, R.n1, R.n2, R.n3, fun h => ⟨(R.m1 h).1, (R.m1 h).2.1, (setRow_other w p3 p1 _ (R.n13 qb qd)).trans (R.m1 h).2.2⟩, fun h => ⟨(R.m2 h).1, (R.m2 h).2.1, (setRow_other w p3 p2 _ (R.n23 qc qd)).trans (R.m2 h).2.2⟩, fun h => ⟨(R.m3 h).1, (R.m3 h).2.1, setRow_heap w p3 _ _ T _ (R.m3 h).2.2⟩, R.n12, R.n13, R.n23, R.e1, R.e2, fun _ => qd⟩⟩
 ·rintro listed a w ⟨l0, l1, l2, l3, l4, l5, l6, l7, l8, l9, l10, l11, rfl, v1, u1, v2, u2, v3, u3, x1, x2, x3, p1, p2, p3, R⟩ hr
  obtain ⟨rfl, rfl, rfl, rfl, rfl, rfl, rfl, rfl, rfl, rfl, rfl, rfl⟩ := fin _ _ _ _ _ _ _ _ _ _ _ _ hr
  have m1 := R.m1 rfl
  have m2 := R.m2 rfl
  have m3 := R.m3 rfl
  rw [R.frame, R.d1 rfl, R.d2 rfl, R.d3 rfl, R.c1 rfl, R.c2 rfl, R.c3 rfl, m1.1, m2.1, m3.1]
  exact hQ p1 p2 p3 w m1.2.1 m2.2.1 m3.2.1 R.below m1.2.2 m2.2.2 m3.2.2 (R.n12 rfl rfl) (R.n13 rfl rfl) (R.n23 rfl rfl)
 ·exact ⟨false, false, false, false, false, false, false, false, false, false, false, false, rfl, undef, undef, undef, undef, undef, undef, undef, undef, undef, 0, 0, 0, ⟨rfl, (Below.refl _ _).drew, by simp, by simp, by simp, by simp, by simp, by simp, fun _ => rfl, fun _ => rfl, fun _ => rfl, by simp, by simp, by simp, by simp, by simp, by simp, by simp, by simp, by simp⟩⟩
def arrF (n : Nat) (f : Nat → Value) : Array Value := ((List.range n).map f).toArray
theorem arrF_size (n : Nat) (f : Nat → Value) : (arrF n f).size = n := by simp [arrF]
theorem arrF_get {n k : Nat} (f : Nat → Value) (h : k < n) : (arrF n f)[k]? = some (f k) := by simp [arrF, h]
theorem arrF_ext {n : Nat} {f g : Nat → Value} (h : ∀ k, k < n → f k = g k) : arrF n f = arrF n g := by
 unfold arrF
 congr 1
 apply List.map_congr_left
 intro k hk
 exact h k (List.mem_range.1 hk)
theorem arrF_set (n i : Nat) (f : Nat → Value) (v : Value) : (arrF n f).setIfInBounds i v = arrF n (fun k => if k = i then v else f k) := by
 apply Array.ext
 ·simp [arrF]
 ·intro k h1 h2
  simp only [arrF, List.getElem_toArray, List.getElem_map, List.getElem_range]
  by_cases q : k = i
  ·simp [q]
  ·simp [q, Ne.symm q]
theorem arrF_all (n : Nat) (f : Nat → Value) (h : ∀ k, k < n → (f k).oneCell' = true) : (arrF n f).all (·.oneCell') = true := by
 simp only [Array.all_eq_true]
 intro i hi
 have hi' : i < n := by rw [arrF_size] at hi; exact hi
 have := arrF_get f hi'
 rw [Array.getElem?_eq_some_iff] at this
 obtain ⟨_, e⟩ := this
 rw [e]; exact h i hi'
def uF (X : Nat → Nat) (k : Nat) : Value := .int .u64 ((X k : Nat) : Int)
def orA (X : Nat → Nat) (h : Nat) : Nat → Nat
 | 0 => 0
 | y + 1 => orA X h y ||| X (y * 2 + h)
theorem orA_lt {X : Nat → Nat} {h n : Nat} (hX : ∀ k, k < n * 2 → X k < 18446744073709551616) (hh : h < 2) : ∀ y, y ≤ n → orA X h y < 18446744073709551616
 | 0, _ => by simp [orA]
 | y + 1, hy => Nat.or_lt_two_pow (n := 64) (orA_lt hX hh y (by omega)) (hX _ (by omega))
def livF (X : Nat → Nat) : Nat → Nat
 | 0 => 0
 | y + 1 => if X (y * 2) = 0 ∧ X (y * 2 + 1) = 0 then livF X y else if orA X 0 y = 0 ∧ orA X 1 y = 0 then y else livF X y
def livT (X : Nat → Nat) : Nat → Nat
 | 0 => 0
 | y + 1 => if X (y * 2) = 0 ∧ X (y * 2 + 1) = 0 then livT X y else y + 1
structure LV (w wr : World) (X : Nat → Nat) (y : Nat) : Prop where
 below : Below w.heap.size w wr
 b0 : wr.heap[w.heap.size]? = some (.cells #[.int .i64 0, .int .i64 ((livF X y : Nat) : Int)] 193 (0, 0))
 b1 : wr.heap[w.heap.size + 1]? = some (.cells #[.int .i64 0, .int .i64 ((livT X y : Nat) : Int)] 193 (0, 0))
 b2 : wr.heap[w.heap.size + 1 + 1]? = some (.cells #[.int .u64 ((orA X 0 y : Nat) : Int), .int .u64 ((orA X 1 y : Nat) : Int)] 106 (0, 0))
theorem LV.next {w wr w' : World} {X : Nat → Nat} {y : Nat} (h : LV w wr X y) (b : Below wr.heap.size wr w') : LV w w' X y :=
 ⟨h.below.trans (b.mono h.below.size), (b.block _ (lt_of_block h.b0)).trans h.b0, (b.block _ (lt_of_block h.b1)).trans h.b1, (b.block _ (lt_of_block h.b2)).trans h.b2⟩
theorem LV.zero {w wr : World} {X : Nat → Nat} {y : Nat} (h : LV w wr X y) (h0 : X (y * 2) = 0) (h1 : X (y * 2 + 1) = 0) : LV w wr X (y + 1) := by
 refine ⟨h.below, ?_, ?_, ?_⟩
 ·rw [livF, if_pos ⟨h0, h1⟩]; exact h.b0
 ·rw [livT, if_pos ⟨h0, h1⟩]; exact h.b1
 ·rw [orA, orA, show y * 2 + 0 = y * 2 from rfl, h0, h1, Nat.or_zero, Nat.or_zero]; exact h.b2
theorem LV.two {w wr : World} {X : Nat → Nat} {y : Nat} (h : LV w wr X y) (h0 : ¬ (X (y * 2) = 0 ∧ X (y * 2 + 1) = 0)) (ha : ¬ (orA X 0 y = 0 ∧ orA X 1 y = 0)) (t : Int) (o0 o1 : Nat) (ht : t = ((y + 1 : Nat) : Int)) (e0 : o0 = orA X 0 y ||| X (y * 2)) (e1 : o1 = orA X 1 y ||| X (y * 2 + 1)) :
  LV w (((wr.setCell ⟨w.heap.size + 1, 1, none⟩ (.int .i64 t)).setCell ⟨w.heap.size + 1 + 1, 0, none⟩ (.int .u64 (o0 : Int))).setCell ⟨w.heap.size + 1 + 1, 1, none⟩ (.int .u64 (o1 : Int))) X (y + 1) := by
 subst ht e0 e1
 refine ⟨((h.below.setCell (by simp) _).setCell (by simp; omega) _).setCell (by simp; omega) _, ?_, ?_, ?_⟩
 ·rw [Below.heap_setCell _ _ _ _ (by simp; omega), Below.heap_setCell _ _ _ _ (by simp; omega), Below.heap_setCell _ _ _ _ (by simp), livF, if_neg h0, if_neg ha]; exact h.b0
 ·rw [Below.heap_setCell _ _ _ _ (by simp), Below.heap_setCell _ _ _ _ (by simp), heap_setCell_same _ _ _ _ _ _ h.b1, livT, if_neg h0]; rfl
 ·have e1 := heap_setCell_same (wr.setCell ⟨w.heap.size + 1, 1, none⟩ (.int .i64 ((y + 1 : Nat) : Int))) (w.heap.size + 1 + 1) 0 _ _ (.int .u64 ((orA X 0 y ||| X (y * 2) : Nat) : Int)) ((Below.heap_setCell _ _ _ _ (by simp)).trans h.b2)
  rw [heap_setCell_same _ _ _ _ _ _ e1, orA, orA]; rfl
theorem LV.one {w wr : World} {X : Nat → Nat} {y : Nat} (h : LV w wr X y) (h0 : ¬ (X (y * 2) = 0 ∧ X (y * 2 + 1) = 0)) (ha : orA X 0 y = 0 ∧ orA X 1 y = 0) (t : Int) (o0 o1 : Nat) (ht : t = ((y + 1 : Nat) : Int)) (e0 : o0 = orA X 0 y ||| X (y * 2)) (e1 : o1 = orA X 1 y ||| X (y * 2 + 1)) :
  LV w ((((wr.setCell ⟨w.heap.size, 1, none⟩ (.int .i64 (y : Int))).setCell ⟨w.heap.size + 1, 1, none⟩ (.int .i64 t)).setCell ⟨w.heap.size + 1 + 1, 0, none⟩ (.int .u64 (o0 : Int))).setCell ⟨w.heap.size + 1 + 1, 1, none⟩ (.int .u64 (o1 : Int))) X (y + 1) := by
 subst ht e0 e1
 refine ⟨(((h.below.setCell (by simp) _).setCell (by simp) _).setCell (by simp; omega) _).setCell (by simp; omega) _, ?_, ?_, ?_⟩
 ·rw [Below.heap_setCell _ _ _ _ (by simp; omega), Below.heap_setCell _ _ _ _ (by simp; omega), Below.heap_setCell _ _ _ _ (by simp), heap_setCell_same _ _ _ _ _ _ h.b0, livF, if_neg h0, if_pos ha]; rfl
 ·have e1 := (Below.heap_setCell wr ⟨w.heap.size, 1, none⟩ (.int .i64 (y : Int)) (w.heap.size + 1) (by simp)).trans h.b1
  rw [Below.heap_setCell _ _ _ _ (by simp), Below.heap_setCell _ _ _ _ (by simp), heap_setCell_same _ _ _ _ _ _ e1, livT, if_neg h0]; rfl
 ·have e0 := (Below.heap_setCell wr ⟨w.heap.size, 1, none⟩ (.int .i64 (y : Int)) (w.heap.size + 1 + 1) (by simp; omega)).trans h.b2
  have e1 := heap_setCell_same ((wr.setCell ⟨w.heap.size, 1, none⟩ (.int .i64 (y : Int))).setCell ⟨w.heap.size + 1, 1, none⟩ (.int .i64 ((y + 1 : Nat) : Int))) (w.heap.size + 1 + 1) 0 _ _ (.int .u64 ((orA X 0 y ||| X (y * 2) : Nat) : Int)) ((Below.heap_setCell _ _ _ _ (by simp)).trans e0)
  rw [heap_setCell_same _ _ _ _ _ _ e1, orA, orA]; rfl
theorem two_set0 {w : World} {g : Nat} {x y : Value} {t : TypeId} (h : w.heap[g]? = some (.cells #[x, y] t (0, 0))) (v : Value) : (w.setCell ⟨g, 0, none⟩ v).heap[g]? = some (.cells #[v, y] t (0, 0)) := by
 rw [heap_setCell_same _ _ _ _ _ _ h]; rfl
theorem two_set1 {w : World} {g : Nat} {x y : Value} {t : TypeId} (h : w.heap[g]? = some (.cells #[x, y] t (0, 0))) (v : Value) : (w.setCell ⟨g, 1, none⟩ v).heap[g]? = some (.cells #[x, v] t (0, 0)) := by
 rw [heap_setCell_same _ _ _ _ _ _ h]; rfl
theorem two_other {w : World} {g : Nat} {o : Obj} (h : w.heap[g]? = some o) (b i : Nat) (v : Value) (hn : g ≠ b) : (w.setCell ⟨b, i, none⟩ v).heap[g]? = some o := (Below.heap_setCell _ _ _ _ hn).trans h
theorem drew_block {w : World} {g : Nat} {o : Obj} (h : w.heap[g]? = some o) : w.drew.heap[g]? = some o := h
end Go.Proofs.YtemhcpldflcfbaaGreatDoor
