/-
  What the last text of this claim leans on, part 7: Gr1, Gr2, Gq5, Gr3, Gr4, Ha2, Ha3.
-/
import Derived.Test.YtelocgefaommmaaDoorZh6
import Derived.Test.YtelocgefaommmaaDoorZh5
import Derived.Laws.Bits64b
import Derived.Lib.TrailingZeros
import Derived.Lib.BitFns
import Derived.ChangeKeysEq
import Derived.Deep.RegionHeld3
import Derived.Deep.AppendLies
import Derived.Deep.CutRange
namespace Go.Proofs.YtelocgefaommmaaDoor
open Go.RowKit
set_option linter.unusedVariables false

/-- The library's table as it is laid. -/
def TzTab (w : World) : Prop := ∀ j, j < 64 → w.cell? ⟨0, j, none⟩ = some (.int .u8 (Lib.deBruijn64tab.getD j 0))
theorem tz_lt {w : World} (h : TzTab w) : 0 < w.heap.size := by
  rcases Nat.lt_or_ge 0 w.heap.size with k | k
  · exact k
  · have := h 0 (by omega); simp [World.cell?, Array.getElem?_eq_none k] at this
theorem TzTab.below {w w' : World} (h : TzTab w) (hb : Below w.heap.size w w') : TzTab w' := fun j hj => (World.cell?_of_block (w := w) (a := ⟨0, j, none⟩) (hb.block _ (tz_lt h))).trans (h j hj)
theorem tz_key' (x a : Nat) (hx : x < 18446744073709551616) (hx0 : x ≠ 0) (hlow : x &&& (18446744073709551616 - x) = a) :
    IntKind.u64.wrap (bits BinOp.and IntKind.u64 (x : Int) (IntKind.u64.wrap (-(x : Int))) * 285870213051353865) / 288230376151711744 = ((a * 285870213051353865 % 18446744073709551616 / 288230376151711744 : Nat) : Int) := by
  have e1 : IntKind.u64.wrap (-(x : Int)) = ((18446744073709551616 - x : Nat) : Int) := by rw [IntKind.wrap_u64]; omega
  rw [e1, bits_and_u64_nat x _ hx (by omega), hlow, IntKind.wrap_u64]
  omega
set_option maxRecDepth 100000 in
set_option maxHeartbeats 6400000 in
theorem tz64_any (x : Nat) (w : World) (hx0 : 0 < x) (hx : x < 18446744073709551616) (hT : TzTab w) :
    Calls Tryd.prog 28 #[.int .u64 (x : Int)] w fun e w' => e = .returned (.int .i64 ((Lib.ctz 64 x : Nat) : Int)) ∧ w' = w := by
  obtain ⟨hlow, hk⟩ := Lib.lowest_bit 64 x (by omega) hx
  obtain ⟨hi, htab⟩ := Lib.deBruijn64_at _ hk
  have hcell := hT _ hi
  rw [htab] at hcell
  have key := tz_key' x _ hx (by omega) hlow
  have xz : ((x : Int) == 0) = false := by rw [beq_eq_false_iff_ne]; omega
  obtain ⟨idx, hidx⟩ : ∃ idx, 2 ^ Lib.ctz 64 x * 285870213051353865 % 18446744073709551616 / 288230376151711744 = idx := ⟨_, rfl⟩
  rw [hidx] at hi hcell key
  obtain ⟨k, hkk⟩ : ∃ k, Lib.ctz 64 x = k := ⟨_, rfl⟩
  rw [hkk] at hcell hk ⊢
  clear hlow htab hidx hkk
  go_enter Tryd.func28, Tryd.ntmps28
  go_wp2_with (simp only [key])
  go_ret
  exact ⟨rfl, rfl⟩


end Go.Proofs.YtelocgefaommmaaDoor

namespace Go.Proofs.YtelocgefaommmaaDoor
open Go.RowKit
set_option linter.unusedVariables false

theorem eqItems_ints {P : Program} (w : World) (d : Nat) {e : TypeId} {k : IntKind} (he : P.underlying e = some (.int k)) (xs ys : Array Value) (f g : Nat → Int) :
    ∀ is : List Nat, (∀ i ∈ is, xs[i]? = some (.int k (f i)) ∧ ys[i]? = some (.int k (g i))) → (Op.eqItems (d + 1) e 1 xs ys is).run P w = .ok (is.all fun i => f i == g i) w
  | [], _ => by simp [Op.eqItems]
  | i :: is, h => by
    have h1 := h i (by simp)
    have px : (part e xs (i * 1)).run P w = .ok (.int k (f i)) w := by rw [Nat.mul_one]; simp [part, isAgg, run_underlying he, h1.1]
    have py : (part e ys (i * 1)).run P w = .ok (.int k (g i)) w := by rw [Nat.mul_one]; simp [part, isAgg, run_underlying he, h1.2]
    have ih := eqItems_ints w d he xs ys f g is (fun j hj => h j (by simp [hj]))
    simp only [Op.eqItems, Sem.run_bind, px, py, Result.andThen_ok, run_equalIn_int w d e k k _ _ he, List.all_cons]
    cases hb : (f i == g i)
    · simp
    · simpa using ih
theorem equal_ints {P : Program} (w : World) (d : Nat) {t e : TypeId} {n : Nat} {k : IntKind} {i : TypeInfo} (hu : P.underlying t = some (.array n e)) (hi : P.info? e = some i) (hc : P.cellsOf e = 1) (he : P.underlying e = some (.int k)) (xs ys : Array Value) (f g : Nat → Int)
    (h : ∀ j, j < n → xs[j]? = some (.int k (f j)) ∧ ys[j]? = some (.int k (g j))) : (Op.equalIn (d + 2) t (.agg xs) (.agg ys)).run P w = .ok ((List.range n).all fun j => f j == g j) w := by
  rw [run_equalIn_array w (d + 1) xs ys hu hi, hc]
  exact eqItems_ints w d he xs ys f g _ (fun j hj => h j (List.mem_range.1 hj))
end Go.Proofs.YtelocgefaommmaaDoor

namespace Go.Proofs.YtelocgefaommmaaDoor
open Go.RowKit
set_option linter.unusedVariables false

theorem count_set_lt : ∀ (l : List Bool) (i : Nat), l[i]? = some false → (l.set i true).count false + 1 = l.count false
  | [], i, h => by simp at h
  | x :: l, 0, h => by simp at h; subst h; simp
  | x :: l, i + 1, h => by
    have := count_set_lt l i (by simpa using h)
    simp only [List.set_cons_succ, List.count_cons]
    omega
theorem wpAny_inv {P : Program} {ops : Array Oper} {Q : Exit → Act → World → Prop} {md : Region.Mode} (J : Array Bool → Act → World → Prop)
    (hstep : ∀ listed a w, J listed a w → ∀ i ∈ Region.ready md ops listed, wpOp P ops Q i (J (listed.setIfInBounds i true)) a w)
    (hend : ∀ listed a w, J listed a w → Region.ready md ops listed = [] → Q .normal a w) :
    ∀ (fuel : Nat) (listed : Array Bool) (a : Act) (w : World), listed.toList.count false ≤ fuel → J listed a w → wpAny P md ops Q fuel listed a w := by
  have dec : ∀ (listed : Array Bool) (i : Nat), i ∈ Region.ready md ops listed → (listed.setIfInBounds i true).toList.count false + 1 = listed.toList.count false := fun listed i hi => by
    have h := (mem_ready.1 hi).1
    rw [Array.toList_setIfInBounds]
    apply count_set_lt
    cases hq : listed[i]? with
    | none => simp [Array.getD_eq_getD_getElem?, hq] at h
    | some b => simp [Array.getD_eq_getD_getElem?, hq] at h; subst h; simpa using hq
  intro fuel
  induction fuel with
  | zero =>
    intro listed a w hl hJ
    have hr : Region.ready md ops listed = [] := by
      cases hr : Region.ready md ops listed with
      | nil => rfl
      | cons i rs => have := dec listed i (by rw [hr]; simp); omega
    exact ⟨hr, hend _ _ _ hJ hr⟩
  | succ fuel ih =>
    intro listed a w hl hJ
    refine ⟨hend _ _ _ hJ, fun i hi => ?_⟩
    exact wpOp_mono (fun a' w' h => ih _ a' w' (by have := dec listed i hi; omega) h) (hstep _ _ _ hJ i hi)
/-- An operation that bears no guard. -/
theorem wpOp_of {P : Program} {ops : Array Oper} {Q : Exit → Act → World → Prop} {i : Nat} {o : Oper} {K : Act → World → Prop} {a : Act} {w : World} (ho : ops[i]? = some o) (hg : o.guard = none) (h : o.wp P a w K Q) : wpOp P ops Q i K a w := by
  unfold wpOp
  rw [ho]
  dsimp only
  rw [if_pos (by unfold Region.wanted; rw [hg])]
  exact Or.inl h
theorem ready_needs {ops : Array Oper} {listed : Array Bool} {i j : Nat} (hi : i ∈ Region.ready .any ops listed) (h : ((ops[i]?).map fun o => o.after.any fun e => Region.binds .any e && e.on == j).getD false = true) : listed.getD j false = true := by
  obtain ⟨_, o, ho, he⟩ := mem_ready.1 hi
  rw [ho] at h
  simp only [Option.map_some, Option.getD_some, Array.any_eq_true] at h
  obtain ⟨n, hn, h⟩ := h
  rw [Bool.and_eq_true, beq_iff_eq] at h
  rw [← h.2]
  exact he _ (Array.getElem_mem hn) h.1
theorem below_setRow {B : Nat} {a w : World} (h : Below B a w) {g : Nat} (hg : B ≤ g) (cs : Array Value) : Below B a (w.setRow g cs) :=
  ⟨h.os, h.tape, h.output, by rw [setRow_size]; exact h.size, fun k hk => (setRow_other w g k cs (by omega)).trans (h.block k hk)⟩
/-- The state of such a region: what has come up is in its slot. -/
structure R3 (B : Nat) (w0 : World) (T : TypeId) (z r1 r2 r3 s1 s2 s3 : Array Value) (fr : Value → Value → Value → Value → Value → Value → Value → Value → Value → Act) (l0 l1 l2 l3 l4 l5 l6 l7 l8 l9 l10 l11 : Bool) (v1 u1 v2 u2 v3 u3 x1 x2 x3 : Value) (p1 p2 p3 : Nat) (a : Act) (w : World) : Prop where
  frame : a = fr v1 u1 v2 u2 v3 u3 x1 x2 x3
  below : Below B w0 w
  d1 : l0 = true → v1 = .agg r1
  d2 : l2 = true → v2 = .agg r2
  d3 : l4 = true → v3 = .agg r3
  c1 : l1 = true → u1 = .agg s1
  c2 : l3 = true → u2 = .agg s2
  c3 : l5 = true → u3 = .agg s3
  n1 : l6 = false → x1 = undef
  n2 : l7 = false → x2 = undef
  n3 : l8 = false → x3 = undef
  m1 : l6 = true → x1 = .pointer (some ⟨p1, 0, none⟩) ∧ B ≤ p1 ∧ w.heap[p1]? = some (.cells (if l9 then s1 else z) T (0, 0))
  m2 : l7 = true → x2 = .pointer (some ⟨p2, 0, none⟩) ∧ B ≤ p2 ∧ w.heap[p2]? = some (.cells (if l10 then s2 else z) T (0, 0))
  m3 : l8 = true → x3 = .pointer (some ⟨p3, 0, none⟩) ∧ B ≤ p3 ∧ w.heap[p3]? = some (.cells (if l11 then s3 else z) T (0, 0))
  n12 : l6 = true → l7 = true → p1 ≠ p2
  n13 : l6 = true → l8 = true → p1 ≠ p3
  n23 : l7 = true → l8 = true → p2 ≠ p3
  e1 : l9 = true → l6 = true
  e2 : l10 = true → l7 = true
  e3 : l11 = true → l8 = true

theorem lt_of_block {w : World} {p : Nat} {o : Obj} (h : w.heap[p]? = some o) : p < w.heap.size := (Array.getElem?_eq_some_iff.1 h).1
end Go.Proofs.YtelocgefaommmaaDoor

namespace Go.Proofs.YtelocgefaommmaaDoor
open Go.RowKit
set_option linter.unusedVariables false

/-- An array, told by a function. -/
def arrF (n : Nat) (f : Nat → Value) : Array Value := ((List.range n).map f).toArray
theorem arrF_get {n k : Nat} (f : Nat → Value) (h : k < n) : (arrF n f)[k]? = some (f k) := by simp [arrF, h]
theorem arrF_ext {n : Nat} {f g : Nat → Value} (h : ∀ k, k < n → f k = g k) : arrF n f = arrF n g := by
  unfold arrF
  congr 1
  apply List.map_congr_left
  intro k hk
  exact h k (List.mem_range.1 hk)
theorem arrF_set (n i : Nat) (f : Nat → Value) (v : Value) : (arrF n f).setIfInBounds i v = arrF n (fun k => if k = i then v else f k) := by
  apply Array.ext
  · simp [arrF]
  · intro k h1 h2
    simp only [arrF, List.getElem_toArray, List.getElem_map, List.getElem_range]
    by_cases q : k = i
    · simp [q]
    · simp [q, Ne.symm q]
theorem two_other {w : World} {g : Nat} {o : Obj} (h : w.heap[g]? = some o) (b i : Nat) (v : Value) (hn : g ≠ b) : (w.setCell ⟨b, i, none⟩ v).heap[g]? = some o := (Below.heap_setCell _ _ _ _ hn).trans h
end Go.Proofs.YtelocgefaommmaaDoor

namespace Go.Proofs.YtelocgefaommmaaDoor
open Go.RowKit
set_option linter.unusedVariables false
theorem heap_atX (w : World) (o : Obj) (k : Nat) (h : k = w.heap.size) : (w.alloc o).heap[k]? = some o := by subst h; exact heap_alloc_new w o
end Go.Proofs.YtelocgefaommmaaDoor

namespace Go.Proofs.YtelocgefaommmaaDoor
open Go.RowKit
set_option linter.unusedVariables false
/-- A square's six cells. -/
def sqC (q : Sq) : List Value := [.int .i32 (q.a : Int), .int .i32 (q.b : Int), .int .i32 (q.c : Int), .int .i32 (q.d : Int), .int .u64 (q.k : Int), .int .i64 q.l]
def flQ (qs : List Sq) : List Value := qs.flatMap sqC
theorem flQ_append (xs ys : List Sq) : flQ (xs ++ ys) = flQ xs ++ flQ ys := by unfold flQ; simp
theorem flQ_get : ∀ (ys : List Sq) (k : Nat) (i : Nat), k < ys.length → i < 6 → (flQ ys)[k * 6 + i]? = (sqC (sqA ys k))[i]?
  | [], k, i, hk, _ => absurd hk (by simp)
  | p :: r, 0, i, hk, hi => by
    show (sqC p ++ flQ r)[0 * 6 + i]? = _
    rw [Nat.zero_mul, Nat.zero_add, List.getElem?_append_left (by simpa [sqC] using hi)]
    rfl
  | p :: r, k + 1, i, hk, hi => by
    have ih := flQ_get r k i (by simpa using hk) hi
    show (sqC p ++ flQ r)[(k + 1) * 6 + i]? = _
    rw [List.getElem?_append_right (by simp [sqC]; omega), show (k + 1) * 6 + i - (sqC p).length = k * 6 + i by simp [sqC]; omega, ih]
    rfl
theorem one_flQ (ys : List Sq) : ∀ u ∈ flQ ys, u.oneCell' = true := fun u hu => by
  unfold flQ at hu
  obtain ⟨q, -, h⟩ := List.mem_flatMap.1 hu
  simp [sqC] at h
  rcases h with rfl | rfl | rfl | rfl | rfl | rfl <;> rfl
/-- A stock as it lies: its block sb, its row's block g. -/
structure StkA (w : World) (sb B g cap : Nat) (qs : List Sq) : Prop where
  blk : w.heap[sb]? = some (.cells #[.slice (some ⟨g, 0, none⟩) qs.length cap, .map none, .map none] 69 (0, 0))
  row : w.ownsRow B 80 6 (.slice (some ⟨g, 0, none⟩) qs.length cap) qs.length (flQ qs)
  le : B ≤ sb
  st : StQ qs
theorem StkA.rowB {w : World} {sb B g cap : Nat} {qs : List Sq} (h : StkA w sb B g cap qs) : B ≤ g ∧ qs.length ≤ cap ∧ ∃ cur : Array Value, w.heap[g]? = some (.cells cur 80 (0, 0)) ∧ cur.size = cap * 6 ∧ cur.toList.take (qs.length * 6) = flQ qs := by
  rcases h.row.2 with ⟨h1, _⟩ | ⟨g', cap', cur, e, hb, hh, hc, _, hs, ht⟩
  · cases h1
  · cases e
    exact ⟨hb, hc, cur, hh, hs, ht⟩
theorem StkA.ne {w : World} {sb B g cap : Nat} {qs : List Sq} (h : StkA w sb B g cap qs) : g ≠ sb := by
  obtain ⟨-, -, cur, e, -, -⟩ := h.rowB
  intro q
  subst q
  rw [h.blk] at e
  injection e with e
  injection e with _ e
  cases e
theorem StkA.lt {w : World} {sb B g cap : Nat} {qs : List Sq} (h : StkA w sb B g cap qs) : sb < w.heap.size ∧ g < w.heap.size := by
  obtain ⟨-, -, cur, e, -, -⟩ := h.rowB
  exact ⟨lt_of_block h.blk, lt_of_block e⟩
theorem StkA.at_ {w : World} {sb B g cap : Nat} {qs : List Sq} (h : StkA w sb B g cap qs) {t i : Nat} (ht : t < qs.length) (hi : i < 6) : w.cell? ⟨g, t * 6 + i, none⟩ = (sqC (sqA qs t))[i]? := by
  obtain ⟨-, hc, cur, e, hs, hk⟩ := h.rowB
  have lt : t * 6 + i < qs.length * 6 := by omega
  have := flQ_get qs t i ht hi
  rw [← hk, List.getElem?_take_of_lt lt] at this
  rw [← this, cell_of_row w g (t * 6 + i) cur _ _ e]
  simp
theorem StkA.cells {w : World} {sb B g cap : Nat} {qs : List Sq} (h : StkA w sb B g cap qs) {t : Nat} (ht : t < qs.length) : w.cell? ⟨g, t * 6, none⟩ = some (.int .i32 ((sqA qs t).a : Int)) ∧ w.cell? ⟨g, t * 6 + 1, none⟩ = some (.int .i32 ((sqA qs t).b : Int)) ∧ w.cell? ⟨g, t * 6 + 2, none⟩ = some (.int .i32 ((sqA qs t).c : Int)) ∧ w.cell? ⟨g, t * 6 + 3, none⟩ = some (.int .i32 ((sqA qs t).d : Int)) ∧ w.cell? ⟨g, t * 6 + 4, none⟩ = some (.int .u64 ((sqA qs t).k : Int)) ∧ w.cell? ⟨g, t * 6 + 5, none⟩ = some (.int .i64 (sqA qs t).l) :=
  ⟨h.at_ (i := 0) ht (by omega), h.at_ (i := 1) ht (by omega), h.at_ (i := 2) ht (by omega), h.at_ (i := 3) ht (by omega), h.at_ (i := 4) ht (by omega), h.at_ (i := 5) ht (by omega)⟩
theorem StkA.keep {w w' : World} {sb B g cap : Nat} {qs : List Sq} (h : StkA w sb B g cap qs) (h1 : w'.heap[sb]? = w.heap[sb]?) (h2 : w'.heap[g]? = w.heap[g]?) : StkA w' sb B g cap qs := by
  refine ⟨h1.trans h.blk, ⟨h.row.1, ?_⟩, h.le, h.st⟩
  rcases h.row.2 with h3 | ⟨g', cap', cur, e, hb, hh, r⟩
  · exact Or.inl h3
  · cases e
    exact Or.inr ⟨g, cap, cur, rfl, hb, h2.trans hh, r⟩
theorem StkA.below {w w' : World} {sb B g cap : Nat} {qs : List Sq} (h : StkA w sb B g cap qs) (b : Below w.heap.size w w') : StkA w' sb B g cap qs := h.keep (b.block _ h.lt.1) (b.block _ h.lt.2)
theorem StkA.alloc {w : World} {sb B g cap : Nat} {qs : List Sq} (h : StkA w sb B g cap qs) (o : Obj) : StkA (w.alloc o) sb B g cap qs := h.keep (heap_alloc_old _ _ h.lt.1) (heap_alloc_old _ _ h.lt.2)
/-- What a stock's growing keeps. -/
structure KpS (sb g g' : Nat) (V V' : World) : Prop where
  os : V'.os = V.os
  tape : V'.tape = V.tape
  output : V'.output = V.output
  size : V.heap.size ≤ V'.heap.size
  keep : ∀ k, k < V.heap.size → k ≠ sb → k ≠ g → V'.heap[k]? = V.heap[k]?
  new : g' = g ∨ V.heap.size ≤ g'
theorem KpS.refl (sb g : Nat) (V : World) : KpS sb g g V V := ⟨rfl, rfl, rfl, Nat.le_refl _, fun _ _ _ _ => rfl, Or.inl rfl⟩
theorem KpS.trans {sb g g' g'' : Nat} {V V' V'' : World} (h : KpS sb g g' V V') (k : KpS sb g' g'' V' V'') : KpS sb g g'' V V'' :=
  ⟨k.os.trans h.os, k.tape.trans h.tape, k.output.trans h.output, Nat.le_trans h.size k.size, fun i hi h1 h2 => (k.keep i (Nat.lt_of_lt_of_le hi h.size) h1 (by rcases h.new with e | e <;> omega)).trans (h.keep i hi h1 h2), by rcases h.new with e | e <;> rcases k.new with f | f <;> first | (left; omega) | (right; have := h.size; omega)⟩
theorem KpS.of_below {sb g : Nat} {V V' : World} (h : Below V.heap.size V V') : KpS sb g g V V' := ⟨h.os, h.tape, h.output, h.size, fun k hk _ _ => h.block k hk, Or.inl rfl⟩
theorem KpS.below {sb g g' B : Nat} {V V' : World} (h : KpS sb g g' V V') (h1 : B ≤ sb) (h2 : B ≤ g) (h3 : B ≤ V.heap.size) : Below B V V' := ⟨h.os, h.tape, h.output, h.size, fun k hk => h.keep k (by omega) (by omega) (by omega)⟩
end Go.Proofs.YtelocgefaommmaaDoor

namespace Go.Proofs.YtelocgefaommmaaDoor
open Go.RowKit
set_option linter.unusedVariables false
theorem info_sq : (Tryd.prog.info? 80).map (fun i => (i.zero, i.size, i.bytes)) = some (some (.agg #[.int .i32 0, .int .i32 0, .int .i32 0, .int .i32 0, .int .u64 0, .int .i64 0]), 6, 32) := by kernel_rfl
def bxQ (q : Sq) : Obj := .cells #[.int .i32 (q.a : Int), .int .i32 (q.b : Int), .int .i32 (q.c : Int), .int .i32 (q.d : Int), .int .u64 (q.k : Int), .int .i64 q.l] 80
theorem news_sq (w : World) (q : Sq) : ∀ j u, (flQ [q])[j]? = some u → (w.alloc (bxQ q)).cell? ((⟨w.heap.size, 0, none⟩ : Addr).add j) = some u := World.news_of_block (cs := #[.int .i32 (q.a : Int), .int .i32 (q.b : Int), .int .i32 (q.c : Int), .int .i32 (q.d : Int), .int .u64 (q.k : Int), .int .i64 q.l]) (heap_alloc_new w _)
def AddP (sb B g : Nat) (qs : List Sq) (q : Sq) (w : World) (e : Ending) (w' : World) : Prop :=
  ∃ g' cap', e = .returned (.int .i32 (qs.length : Int)) ∧ StkA w' sb B g' cap' (qs ++ [q]) ∧ KpS sb g g' w w'
set_option maxRecDepth 100000 in
set_option maxHeartbeats 3200000 in
theorem add_stk (sb B g cap : Nat) (qs : List Sq) (q : Sq) (w : World) (h : StkA w sb B g cap qs) (hB : B ≤ w.heap.size) (hn : qs.length ≤ 2000000) :
    Calls Tryd.prog 43 #[.pointer (some ⟨sb, 0, none⟩), .agg #[.int .i32 (q.a : Int), .int .i32 (q.b : Int), .int .i32 (q.c : Int), .int .i32 (q.d : Int), .int .u64 (q.k : Int), .int .i64 q.l]] w (AddP sb B g qs q w) := by
  obtain ⟨w1, hw1⟩ : ∃ w1, w.alloc (bxQ q) = w1 := ⟨_, rfl⟩
  have HK := hide' h
  have H1 := hide' (show StkA w1 sb B g cap qs by rw [← hw1]; exact h.alloc _)
  have S1 := hide' (show w1.heap.size = w.heap.size + 1 by rw [← hw1]; simp)
  have X1 := hide' (show w1.heap[w.heap.size]? = some (.cells #[.int .i32 (q.a : Int), .int .i32 (q.b : Int), .int .i32 (q.c : Int), .int .i32 (q.d : Int), .int .u64 (q.k : Int), .int .i64 q.l] 80 (0, 0)) by rw [← hw1]; exact heap_alloc_new w _)
  have B1 := hide' (show Below w.heap.size w w1 by rw [← hw1]; exact (Below.refl _ _).alloc (Nat.le_refl _) _)
  have HW1 := hide' hw1
  obtain ⟨n, hnn⟩ : ∃ n, qs.length = n := ⟨_, rfl⟩
  have c0 := cell_of_row w1 sb 0 _ _ _ H1.out.blk
  have f0 := frozen_of_row w1 sb 0 _ _ H1.out.blk
  have x0 := cell_of_row w1 _ 0 _ _ _ X1.out
  have x1 := cell_of_row w1 _ 1 _ _ _ X1.out
  have x2 := cell_of_row w1 _ 2 _ _ _ X1.out
  have x3 := cell_of_row w1 _ 3 _ _ _ X1.out
  have x4 := cell_of_row w1 _ 4 _ _ _ X1.out
  have x5 := cell_of_row w1 _ 5 _ _ _ X1.out
  simp at c0 x0 x1 x2 x3 x4 x5
  rw [hnn] at c0 hn
  have OW := hide' (show w1.ownsRow B 80 6 (.slice (some ⟨g, 0, none⟩) n cap) n (flQ qs) by have := H1.out.row; rw [hnn] at this; exact this)
  have NE := hide' h.ne
  have lt1 : sb < w1.heap.size := H1.out.lt.1
  have d0 : ∀ o, (w1.alloc o).cell? ⟨sb, 0, none⟩ = some (.slice (some ⟨g, 0, none⟩) n cap) := fun o => (World.cell?_alloc_lt _ o ⟨sb, 0, none⟩ lt1).trans c0
  have PM := hide' (fun (o : Obj) (U : World) (hg : (w1.alloc o).drew.grownBy U (some g)) => show U.cell? ⟨sb, 0, none⟩ = some (.slice (some ⟨g, 0, none⟩) n cap) ∧ U.frozen? ⟨sb, 0, none⟩ = false from by
    have e := hg.block sb (by show sb < (w1.alloc o).heap.size; simp; omega) (by simp; exact fun e => NE.out e.symm)
    have e2 : U.heap[sb]? = w1.heap[sb]? := e.trans (heap_alloc_old w1 o lt1)
    exact ⟨(World.cell?_of_block (a := ⟨sb, 0, none⟩) e2).trans c0, (World.frozen?_of_block (a := ⟨sb, 0, none⟩) e2).trans f0⟩)
  have PE := hide' (fun (o : Obj) (U : World) (gg cap' : Nat) (hg : (w1.alloc o).drew.grownBy U (some g)) (ho : U.ownsRow B 80 6 (.slice (some ⟨gg, 0, none⟩) (n + 1) cap') (n + 1) (flQ qs ++ flQ [q])) (hat : some g = some gg ∨ gg = w1.heap.size + 1) => show StkA (U.setCell ⟨sb, 0, none⟩ (.slice (some ⟨gg, 0, none⟩) (n + 1) cap')) sb B gg cap' (qs ++ [q]) ∧ KpS sb g gg w (U.setCell ⟨sb, 0, none⟩ (.slice (some ⟨gg, 0, none⟩) (n + 1) cap')) from by
    have s1 := S1.out
    have e := hg.block sb (by show sb < (w1.alloc o).heap.size; simp; omega) (by simp; exact fun e => NE.out e.symm)
    have e2 : U.heap[sb]? = w1.heap[sb]? := e.trans (heap_alloc_old w1 o lt1)
    have ne : gg ≠ sb := by
      rcases hat with h | h
      · injection h with h; rw [← h]; exact NE.out
      · omega
    have ln : (qs ++ [q]).length = n + 1 := by simp [hnn]
    have sz : (w1.alloc o).drew.heap.size = w1.heap.size + 1 := by show (w1.alloc o).heap.size = _; simp
    have sg := hg.size
    refine ⟨⟨?_, ?_, HK.out.le, HK.out.st.app _⟩, ⟨?_, ?_, ?_, ?_, fun k hk k1 k2 => ?_, ?_⟩⟩
    · rw [ln]
      rw [heap_setCell_same _ _ _ _ _ _ (e2.trans H1.out.blk)]
      rfl
    · rw [ln, flQ_append]
      refine ⟨ho.1, ?_⟩
      rcases ho.2 with ⟨h1, _⟩ | ⟨g', cap'', cur, e3, hb, hh, r⟩
      · cases h1
      · cases e3
        exact Or.inr ⟨_, _, cur, rfl, hb, (Below.heap_setCell _ _ _ _ ne).trans hh, r⟩
    · exact hg.os.trans B1.out.os
    · exact hg.tape.trans B1.out.tape
    · exact hg.output.trans B1.out.output
    · rw [World.size_setCell]; omega
    · rw [Below.heap_setCell _ _ _ _ (by simpa using k1)]
      exact (hg.block k (by omega) (by simpa using k2)).trans ((heap_alloc_old w1 o (by omega)).trans (B1.out.block k hk))
    · rcases hat with h | h
      · injection h with h; exact Or.inl h.symm
      · exact Or.inr (by omega))
  have t1 : IntKind.i32.wrap (n : Int) = (n : Int) := by simp [IntKind.wrap, IntKind.bits, IntKind.signed]; omega
  have hbw : B ≤ w1.heap.size := by have := S1.out; omega
  obtain ⟨i0, hi, hz0, hz1, hz2⟩ := info_parts info_sq
  clear h hw1
  go_enter Tryd.func43, Tryd.ntmps43
  go_upto_region 1 with fail
  rw [show w.alloc (.cells #[.int .i32 (q.a : Int), .int .i32 (q.b : Int), .int .i32 (q.c : Int), .int .i32 (q.d : Int), .int .u64 (q.k : Int), .int .i64 q.l] 80) = w1 from HW1.out]
  go_region_law (first | (refine step_append_lies _ (by rfl) _ _ _ (by rfl) B 80 i0 _ 6 32 Tryd.underlying65 hi hz0 hz1 hz2 rfl (by omega) (.slice (some ⟨g, 0, none⟩) n cap) _ _ (by rfl) ((OW.out.alloc _).drew) ⟨w1.heap.size, 0, none⟩ 1 1 (flQ [q]) (by rfl) (by rfl) (news_sq w1 q) (one_flQ _) (by omega) (by unfold maxLen; omega) (by omega) (by simp; omega) (w1.heap.size + 1) (by simp) ?_; intro gg cap' U hown1 hgrow hat hlt; have y1 := (PM.out _ U hgrow).1; have y2 := (PM.out _ U hgrow).2) | (go_simp; go_wp2))
  all_goals
    go_wp2
    go_ret
    exact ⟨gg, cap', by rw [hnn]; rfl, PE.out _ U gg cap' hgrow hown1 hat⟩
end Go.Proofs.YtelocgefaommmaaDoor

