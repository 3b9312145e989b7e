/-
  What the last text of this claim leans on, part 4: Pa1, Pa2, Pa3, Pa4, Pa5, Pa6, Al1, Wa1, Ci0, Rv0.
-/
import Derived.Test.YtpppmollmiomlaaDoorZu2
import Derived.Test.YtpppmollmiomlaaDoorZu3
namespace Go.Proofs.YtpppmollmiomlaaDoor
open Go.RowKit
set_option linter.unusedVariables false

/-- What the reader holds, its text aside. -/
structure Rv where
  i : Nat
  fl : Int
  wd : Int
  hi : Int
  cs : Value
  rt : Int
  dn : Int
  bg : Int
  tm : Int

def Rv.val (r : Rv) (s : ByteArray) : Nat → Value
  | 0 => .string s
  | 1 => .int .i64 (r.i : Int)
  | 2 => .int .i64 r.fl
  | 3 => .int .i64 r.wd
  | 4 => .int .i64 r.hi
  | 5 => r.cs
  | 6 => .int .i64 r.rt
  | 7 => .int .i64 r.dn
  | 8 => .int .i64 r.bg
  | 9 => .int .i64 r.tm
  | _ => .bool false

structure RAt (b : Nat) (s : ByteArray) (r : Rv) (w : World) : Prop where
  cell : ∀ k, k < 10 → w.cell? ⟨b, k, none⟩ = some (r.val s k)
  fz : ∀ k, k < 10 → w.frozen? ⟨b, k, none⟩ = false

theorem RAt.lt {b : Nat} {s : ByteArray} {r : Rv} {w : World} (h : RAt b s r w) : b < w.heap.size := by
  rcases Nat.lt_or_ge b w.heap.size with k | k
  · exact k
  · have := h.cell 0 (by omega); simp [World.cell?, Array.getElem?_eq_none k] at this
theorem RAt.block {b : Nat} {s : ByteArray} {r : Rv} {w w' : World} (h : RAt b s r w) (e : w'.heap[b]? = w.heap[b]?) : RAt b s r w' :=
  ⟨fun k hk => (World.cell?_of_block (w := w) (a := ⟨b, k, none⟩) e).trans (h.cell k hk), fun k hk => (World.frozen?_of_block (w := w) (a := ⟨b, k, none⟩) e).trans (h.fz k hk)⟩
theorem RAt.drewN {b : Nat} {s : ByteArray} {r : Rv} {w : World} (h : RAt b s r w) (n : Nat) : RAt b s r (w.drewN n) := h.block rfl
theorem RAt.alloc {b : Nat} {s : ByteArray} {r : Rv} {w : World} (h : RAt b s r w) (o : Obj) : RAt b s r (w.alloc o) := h.block (Below.heap_alloc _ _ _ h.lt)
theorem RAt.setOther {b : Nat} {s : ByteArray} {r : Rv} {w : World} (h : RAt b s r w) {p : Addr} (hp : b ≠ p.block) (u : Value) : RAt b s r (w.setCell p u) := h.block (Below.heap_setCell _ _ _ _ hp)
theorem RAt.below {b : Nat} {s : ByteArray} {r : Rv} {w w' : World} (h : RAt b s r w) (hb : Below w.heap.size w w') : RAt b s r w' := h.block (hb.block b h.lt)
theorem RAt.set {b : Nat} {s : ByteArray} {r r' : Rv} {w : World} (h : RAt b s r w) (k : Nat) (u : Value) (hk : k < 10) (h1 : r'.val s k = u) (h2 : ∀ j, j < 10 → j ≠ k → r'.val s j = r.val s j) : RAt b s r' (w.setCell ⟨b, k, none⟩ u) := by
  refine ⟨fun j hj => ?_, fun j hj => by rw [World.frozen?_setCell]; exact h.fz j hj⟩
  by_cases e : j = k
  · subst e; rw [h1]; exact World.cell?_setCell_same (w := w) (a := ⟨b, j, none⟩) (v := _) (h := h.cell j hj)
  · rw [h2 j hj e]; exact (World.cell?_setCell_other (w := w) (a := ⟨b, k, none⟩) (b := ⟨b, j, none⟩) (v := _) (h := fun q => e (congrArg Addr.off q).symm)).trans (h.cell j hj)

/-- What a method of the reader leaves: the reader so, and nothing else turned. -/
def Left (b : Nat) (s : ByteArray) (r : Rv) (w w' : World) : Prop := RAt b s r w' ∧ Rd b w w'
end Go.Proofs.YtpppmollmiomlaaDoor

namespace Go.Proofs.YtpppmollmiomlaaDoor
open Go.RowKit
set_option linter.unusedVariables false

end Go.Proofs.YtpppmollmiomlaaDoor

namespace Go.Proofs.YtpppmollmiomlaaDoor
open Go.RowKit
set_option linter.unusedVariables false

end Go.Proofs.YtpppmollmiomlaaDoor

namespace Go.Proofs.YtpppmollmiomlaaDoor
open Go.RowKit
set_option linter.unusedVariables false

end Go.Proofs.YtpppmollmiomlaaDoor

namespace Go.Proofs.YtpppmollmiomlaaDoor
open Go.RowKit
set_option linter.unusedVariables false

end Go.Proofs.YtpppmollmiomlaaDoor

namespace Go.Proofs.YtpppmollmiomlaaDoor
open Go.RowKit
set_option linter.unusedVariables false

/-- At block g these ints, writable. -/
structure Cel (w : World) (g : Nat) (xs : List Int) : Prop where
  lt : g < w.heap.size
  cells : ∀ k, k < xs.length → w.cell? ⟨g, k, none⟩ = some (.int .i64 (xs.getD k 0))
  fz : ∀ k, w.frozen? ⟨g, k, none⟩ = false
theorem Cel.block {w w' : World} {g : Nat} {xs : List Int} (h : Cel w g xs) (hs : w.heap.size ≤ w'.heap.size) (e : w'.heap[g]? = w.heap[g]?) : Cel w' g xs :=
  ⟨Nat.lt_of_lt_of_le h.lt hs, fun k hk => (World.cell?_of_block (w := w) (a := ⟨g, k, none⟩) e).trans (h.cells k hk), fun k => (World.frozen?_of_block (w := w) (a := ⟨g, k, none⟩) e).trans (h.fz k)⟩
theorem Cel.below {w w' : World} {g : Nat} {xs : List Int} (h : Cel w g xs) (hb : Below w.heap.size w w') : Cel w' g xs := h.block hb.size (hb.block g h.lt)
theorem Cel.set {w : World} {g : Nat} {xs : List Int} (h : Cel w g xs) (p : Nat) (x : Int) (hp : p < xs.length) : Cel (w.setCell ⟨g, p, none⟩ (.int .i64 x)) g (xs.set p x) := by
  refine ⟨by rw [World.size_setCell]; exact h.lt, fun k hk => ?_, fun k => by rw [World.frozen?_setCell]; exact h.fz k⟩
  rw [List.length_set] at hk
  by_cases e : k = p
  · subst e
    rw [show (xs.set k x).getD k 0 = x by simp [List.getD, hk]]
    exact World.cell?_setCell_same (w := w) (a := ⟨g, k, none⟩) (v := _) (h := h.cells k hk)
  · rw [show (xs.set p x).getD k 0 = xs.getD k 0 by simp [List.getD, Ne.symm e]]
    exact (World.cell?_setCell_other (w := w) (a := ⟨g, p, none⟩) (b := ⟨g, k, none⟩) (v := _) (h := fun q => e (congrArg Addr.off q).symm)).trans (h.cells k hk)

end Go.Proofs.YtpppmollmiomlaaDoor

namespace Go.Proofs.YtpppmollmiomlaaDoor
open Go.RowKit
set_option linter.unusedVariables false

end Go.Proofs.YtpppmollmiomlaaDoor

namespace Go.Proofs.YtpppmollmiomlaaDoor
open Go.RowKit
set_option linter.unusedVariables false

/-- A pattern that came in, as a value: its cells anywhere. -/
structure ArgP (w : World) (xs : List Int) (a : Option Addr) (n c : Nat) : Prop where
  len : n = xs.length
  max : n ≤ maxLen
  cells : ∀ k (h : k < xs.length), ∃ g off, a = some ⟨g, off, none⟩ ∧ g < w.heap.size ∧ w.cell? ⟨g, off + k, none⟩ = some (.int .i64 xs[k])
theorem ArgP.below {w w' : World} {xs : List Int} {a : Option Addr} {n c : Nat} (h : ArgP w xs a n c) (hb : Below w.heap.size w w') : ArgP w' xs a n c :=
  ⟨h.len, h.max, fun k hk => by
    obtain ⟨g, off, e, hg, hc⟩ := h.cells k hk
    exact ⟨g, off, e, Nat.lt_of_lt_of_le hg hb.size, (World.cell?_of_block (w := w) (a := ⟨g, off + k, none⟩) (hb.block g hg)).trans hc⟩⟩
theorem ArgP.alloc {w : World} {xs : List Int} {a : Option Addr} {n c : Nat} (h : ArgP w xs a n c) (x : Obj) : ArgP (w.alloc x) xs a n c :=
  h.below ((Below.refl _ _).alloc (Nat.le_refl _) _)

def errOf (f : Nat) : Value := if f = 0 then .nilIface else .iface 49 (.int .i64 (f : Int))

end Go.Proofs.YtpppmollmiomlaaDoor

namespace Go.Proofs.YtpppmollmiomlaaDoor
open Go.RowKit
set_option linter.unusedVariables false

theorem list_ne_len {xs ys : List Int} (h : xs.length ≠ ys.length) : decide (xs = ys) = false := by
  simp; intro e; exact h (by rw [e])
theorem list_ne_at {xs ys : List Int} {k : Nat} (hx : k < xs.length) (hy : k < ys.length) (h : xs[k] ≠ ys[k]) : decide (xs = ys) = false := by
  simp; intro e; subst e; exact h rfl

set_option maxHeartbeats 1600000 in
theorem Ints_any (xs ys : List Int) (a b : Option Addr) (n c m d : Nat) (w : World) (hA : ArgP w xs a n c) (hB : ArgP w ys b m d) :
    Calls Tryd.prog 12 #[.slice a n c, .slice b m d] w fun e w' => e = .returned (.bool (decide (xs = ys))) ∧ ∃ q, w' = w.drewN q := by
  have HA := hide' hA
  have HB := hide' hB
  have hlx := hA.len
  have hly := hB.len
  have hma := hA.max
  have hmb := hB.max
  have LX := hide' hlx
  have LY := hide' hly
  unfold maxLen at hma hmb
  by_cases hnm : n = m
  · subst hnm
    clear hA hB hlx hly
    have EQ := hide' (fun (h : ∀ j (h1 : j < xs.length) (h2 : j < ys.length), xs[j] = ys[j]) => show decide (xs = ys) = true by
      simp; exact List.ext_getElem (by rw [← LX.out, ← LY.out]) fun j h1 h2 => h j h1 h2)
    go_enter Tryd.func12, Tryd.ntmps12
    go_wp2
    go_loopw [5] (fun iv wr => ∃ k q : Nat, iv = .int .i64 (k : Int) ∧ k ≤ n ∧ wr = w.drewN q ∧ Hid (∀ j (h1 : j < xs.length) (h2 : j < ys.length), j < k → xs[j] = ys[j])) (fun iv _ => n - (intOf iv).toNat)
    case atStart => exact ⟨0, 0, rfl, by omega, rfl, fun j h1 h2 h => by omega⟩
    case round =>
      obtain ⟨k, q, rfl, hk, rfl, HK⟩ := hrel
      by_cases hkn : (k : Int) < (n : Int)
      · have l1 : k < xs.length := by have := LX.out; omega
        have l2 : k < ys.length := by have := LY.out; omega
        obtain ⟨ga, oa, rfl, -, c1⟩ := HA.out.cells k l1
        obtain ⟨gb, ob, rfl, -, c2⟩ := HB.out.cells k l2
        obtain ⟨x, hx⟩ : ∃ x, xs[k] = x := ⟨_, rfl⟩
        obtain ⟨y, hy⟩ : ∃ y, ys[k] = y := ⟨_, rfl⟩
        rw [hx] at c1
        rw [hy] at c2
        have HX := hide' hx
        have HY := hide' hy
        clear hx hy
        by_cases e : x = y
        · subst e
          have m1 : (x != x) = false := by simp
          go_wp2
          go_quiet (fail)
          go_wp2
          refine ⟨⟨k + 1, q + nq, by go_num, by omega, rfl, fun j h1 h2 h => ?_⟩, by simp [intOf]; omega⟩
          by_cases ej : j = k
          · subst ej; rw [HX.out, HY.out]
          · exact HK.out j h1 h2 (by omega)
        · have m1 : (x != y) = true := by simp [e]
          have F := hide' (list_ne_at l1 l2 (by rw [HX.out, HY.out]; exact e))
          clear e
          go_wp2
          go_quiet (fail)
          go_wp2
          go_ret
          exact ⟨by rw [F.out]; rfl, q + nq, by simp [World.drewN, Nat.add_assoc]⟩
      · have F := hide' (EQ.out fun j h1 h2 => HK.out j h1 h2 (by have := LX.out; omega))
        go_wp2
        go_ret
        exact ⟨by rw [F.out]; rfl, q, rfl⟩
  · have m1 : ((n : Int) != (m : Int)) = true := by simp; omega
    have F := hide' (list_ne_len (xs := xs) (ys := ys) (by rw [← hlx, ← hly]; exact hnm))
    clear hA hB hlx hly hnm
    go_enter Tryd.func12, Tryd.ntmps12
    go_wp2
    go_ret
    exact ⟨by rw [F.out]; rfl, 0, rfl⟩

end Go.Proofs.YtpppmollmiomlaaDoor

namespace Go.Proofs.YtpppmollmiomlaaDoor
open Go.RowKit
set_option linter.unusedVariables false

theorem count_set_lt : ∀ (l : List Bool) (i : Nat), l[i]? = some false → (l.set i true).count false + 1 = l.count false
  | [], i, h => by simp at h
  | x :: l, 0, h => by simp at h; subst h; simp
  | x :: l, i + 1, h => by
    have := count_set_lt l i (by simpa using h)
    simp only [List.set_cons_succ, List.count_cons]
    omega
theorem wpAny_inv {P : Program} {ops : Array Oper} {Q : Exit → Act → World → Prop} {md : Region.Mode} (J : Array Bool → Act → World → Prop)
    (hstep : ∀ listed a w, J listed a w → ∀ i ∈ Region.ready md ops listed, wpOp P ops Q i (J (listed.setIfInBounds i true)) a w)
    (hend : ∀ listed a w, J listed a w → Region.ready md ops listed = [] → Q .normal a w) :
    ∀ (fuel : Nat) (listed : Array Bool) (a : Act) (w : World), listed.toList.count false ≤ fuel → J listed a w → wpAny P md ops Q fuel listed a w := by
  have dec : ∀ (listed : Array Bool) (i : Nat), i ∈ Region.ready md ops listed → (listed.setIfInBounds i true).toList.count false + 1 = listed.toList.count false := fun listed i hi => by
    have h := (mem_ready.1 hi).1
    rw [Array.toList_setIfInBounds]
    apply count_set_lt
    cases hq : listed[i]? with
    | none => simp [Array.getD_eq_getD_getElem?, hq] at h
    | some b => simp [Array.getD_eq_getD_getElem?, hq] at h; subst h; simpa using hq
  intro fuel
  induction fuel with
  | zero =>
    intro listed a w hl hJ
    have hr : Region.ready md ops listed = [] := by
      cases hr : Region.ready md ops listed with
      | nil => rfl
      | cons i rs => have := dec listed i (by rw [hr]; simp); omega
    exact ⟨hr, hend _ _ _ hJ hr⟩
  | succ fuel ih =>
    intro listed a w hl hJ
    refine ⟨hend _ _ _ hJ, fun i hi => ?_⟩
    exact wpOp_mono (fun a' w' h => ih _ a' w' (by have := dec listed i hi; omega) h) (hstep _ _ _ hJ i hi)
/-- An operation that bears no guard. -/
theorem wpOp_of {P : Program} {ops : Array Oper} {Q : Exit → Act → World → Prop} {i : Nat} {o : Oper} {K : Act → World → Prop} {a : Act} {w : World} (ho : ops[i]? = some o) (hg : o.guard = none) (h : o.wp P a w K Q) : wpOp P ops Q i K a w := by
  unfold wpOp
  rw [ho]
  dsimp only
  rw [if_pos (by unfold Region.wanted; rw [hg])]
  exact Or.inl h
theorem ready_needs {ops : Array Oper} {listed : Array Bool} {i j : Nat} (hi : i ∈ Region.ready .any ops listed) (h : ((ops[i]?).map fun o => o.after.any fun e => Region.binds .any e && e.on == j).getD false = true) : listed.getD j false = true := by
  obtain ⟨_, o, ho, he⟩ := mem_ready.1 hi
  rw [ho] at h
  simp only [Option.map_some, Option.getD_some, Array.any_eq_true] at h
  obtain ⟨n, hn, h⟩ := h
  rw [Bool.and_eq_true, beq_iff_eq] at h
  rw [← h.2]
  exact he _ (Array.getElem_mem hn) h.1
end Go.Proofs.YtpppmollmiomlaaDoor

