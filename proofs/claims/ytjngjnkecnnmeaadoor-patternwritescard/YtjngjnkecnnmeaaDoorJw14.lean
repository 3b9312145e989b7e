/-
  What the last text of this claim leans on, part 14: Wc1, DSpec, Da1.
-/
import Derived.Test.YtjngjnkecnnmeaaDoorJw9
import Derived.Test.YtjngjnkecnnmeaaDoorJw5
import Derived.Test.YtjngjnkecnnmeaaDoorJw4
import Derived.Test.YtjngjnkecnnmeaaDoorJw7
import Derived.Laws.RangeAny
namespace Go.Proofs.YtjngjnkecnnmeaaDoor
open Go.RowKit
set_option linter.unusedVariables false

/-- A cell by its place. -/
def atP (W : Nat) (xs : List Int) (x y : Nat) : Int := xs.getD (y * W + x) 0
structure Pat where
  W : Nat
  H : Nat
  xs : List Int
def Pat.ok (p : Pat) : Prop := p.xs.length = p.W * p.H
def Pat.mir (p : Pat) : Pat := ⟨p.W, p.H, mirP p.W p.H p.xs⟩
def Pat.qtr (p : Pat) : Pat := ⟨p.H, p.W, qtrP p.W p.H p.xs⟩
def Pat.rot (p : Pat) : Nat → Pat
  | 0 => p
  | j + 1 => (p.rot j).qtr
def Pat.turn (p : Pat) (k : Nat) : Pat := (if 4 ≤ k then p.mir else p).rot (k % 4)

theorem mir_at (W H : Nat) (xs : List Int) (x y : Nat) (hx : x < W) (hy : y < H) : atP W (mirP W H xs) x y = atP W xs (W - 1 - x) y := by
  unfold atP mirP
  obtain ⟨d, m⟩ := divmod_mk W y x hx
  have hl := mk_lt hx hy
  simp [List.getD, hl, d, m]
theorem qtr_at (W H : Nat) (xs : List Int) (x y : Nat) (hx : x < H) (hy : y < W) : atP H (qtrP W H xs) x y = atP W xs y (H - 1 - x) := by
  unfold atP qtrP
  obtain ⟨d, m⟩ := divmod_mk H y x hx
  have hl := mk_lt hx hy
  simp [List.getD, hl, d, m]

/-- Where the document's turn by k takes the cell x, y of the new pattern from. -/
def srcX (p : Pat) (k x y : Nat) : Nat :=
  let a := if k % 4 = 1 then y else if k % 4 = 2 then p.W - 1 - x else if k % 4 = 3 then p.W - 1 - y else x
  if 4 ≤ k then p.W - 1 - a else a
def srcY (p : Pat) (k x y : Nat) : Nat :=
  if k % 4 = 1 then p.H - 1 - x else if k % 4 = 2 then p.H - 1 - y else if k % 4 = 3 then x else y
def turnW (p : Pat) (k : Nat) : Nat := if k % 2 = 1 then p.H else p.W
def turnH (p : Pat) (k : Nat) : Nat := if k % 2 = 1 then p.W else p.H
def refTurn (p : Pat) (k : Nat) : List Int := (List.range (turnW p k * turnH p k)).map fun q => atP p.W p.xs (srcX p k (q % turnW p k) (q / turnW p k)) (srcY p k (q % turnW p k) (q / turnW p k))

theorem list_at {W H : Nat} {xs ys : List Int} (h1 : xs.length = W * H) (h2 : ys.length = W * H) (h : ∀ x y, x < W → y < H → atP W xs x y = atP W ys x y) : xs = ys := by
  apply List.ext_getElem (by omega)
  intro i hi hj
  obtain ⟨x, y, hx, hy, -, -, e⟩ := split_lt (W := W) (H := H) (i := i) (by omega)
  have := h x y hx hy
  unfold atP at this
  rw [e] at this
  simpa [List.getD, hi, hj] using this
theorem ref_at (p : Pat) (k x y : Nat) (hx : x < turnW p k) (hy : y < turnH p k) : atP (turnW p k) (refTurn p k) x y = atP p.W p.xs (srcX p k x y) (srcY p k x y) := by
  unfold refTurn
  obtain ⟨d, m⟩ := divmod_mk (turnW p k) y x hx
  have hl := mk_lt hx hy
  rw [atP]
  simp [List.getD, hl, d, m]
theorem refTurn_length (p : Pat) (k : Nat) : (refTurn p k).length = turnW p k * turnH p k := by simp [refTurn]

theorem turn_is (p : Pat) (hp : p.ok) (k : Nat) (hk : k < 8) : p.turn k = ⟨turnW p k, turnH p k, refTurn p k⟩ := by
  obtain ⟨W, H, xs⟩ := p
  unfold Pat.ok at hp
  dsimp only at hp
  have key : ∀ (q : Pat), q.W = turnW ⟨W, H, xs⟩ k → q.H = turnH ⟨W, H, xs⟩ k → q.xs.length = q.W * q.H → (∀ x y, x < q.W → y < q.H → atP q.W q.xs x y = atP W xs (srcX ⟨W, H, xs⟩ k x y) (srcY ⟨W, H, xs⟩ k x y)) → q = ⟨turnW ⟨W, H, xs⟩ k, turnH ⟨W, H, xs⟩ k, refTurn ⟨W, H, xs⟩ k⟩ := by
    rintro ⟨A, B, ys⟩ h1 h2 h3 h4
    dsimp only at h1 h2 h3 h4
    subst h1 h2
    congr 1
    refine list_at h3 (refTurn_length _ _) fun x y hx hy => ?_
    rw [h4 x y hx hy, ref_at _ _ _ _ hx hy]
  have hk' : k = 0 ∨ k = 1 ∨ k = 2 ∨ k = 3 ∨ k = 4 ∨ k = 5 ∨ k = 6 ∨ k = 7 := by omega
  rcases hk' with rfl | rfl | rfl | rfl | rfl | rfl | rfl | rfl
  · exact key _ rfl rfl hp fun x y hx hy => rfl
  · exact key _ rfl rfl (qtrP_length _ _ _) fun x y hx hy => qtr_at _ _ _ x y hx hy
  · refine key _ rfl rfl (qtrP_length _ _ _) fun x y hx hy => ?_
    refine (qtr_at _ _ _ x y hx hy).trans ?_
    refine (qtr_at W H xs y (W - 1 - x) hy (by have : x < W := hx; omega)).trans ?_
    rfl
  · refine key _ rfl rfl (qtrP_length _ _ _) fun x y hx hy => ?_
    refine (qtr_at _ _ _ x y hx hy).trans ?_
    refine (qtr_at _ _ _ y (H - 1 - x) hy (by have : x < H := hx; show H - 1 - x < H; omega)).trans ?_
    refine (qtr_at W H xs (H - 1 - x) (W - 1 - y) (by have : x < H := hx; omega) (by have : y < W := hy; omega)).trans ?_
    show atP W xs (W - 1 - y) (H - 1 - (H - 1 - x)) = atP W xs (W - 1 - y) x
    rw [show H - 1 - (H - 1 - x) = x by have : x < H := hx; omega]
  · exact key _ rfl rfl (mirP_length _ _ _) fun x y hx hy => mir_at _ _ _ x y hx hy
  · refine key _ rfl rfl (qtrP_length _ _ _) fun x y hx hy => ?_
    refine (qtr_at _ _ _ x y hx hy).trans ?_
    refine (mir_at W H xs y (H - 1 - x) hy (by have : x < H := hx; omega)).trans ?_
    rfl
  · refine key _ rfl rfl (qtrP_length _ _ _) fun x y hx hy => ?_
    refine (qtr_at _ _ _ x y hx hy).trans ?_
    refine (qtr_at W H _ y (W - 1 - x) hy (by have : x < W := hx; omega)).trans ?_
    refine (mir_at W H xs (W - 1 - x) (H - 1 - y) (by have : x < W := hx; omega) (by have : y < H := hy; omega)).trans ?_
    rfl
  · refine key _ rfl rfl (qtrP_length _ _ _) fun x y hx hy => ?_
    refine (qtr_at _ _ _ x y hx hy).trans ?_
    refine (qtr_at _ _ _ y (H - 1 - x) hy (by have : x < H := hx; show H - 1 - x < H; omega)).trans ?_
    refine (qtr_at W H _ (H - 1 - x) (W - 1 - y) (by have : x < H := hx; omega) (by have : y < W := hy; omega)).trans ?_
    refine (mir_at W H xs (W - 1 - y) (H - 1 - (H - 1 - x)) (by have : y < W := hy; omega) (by have : x < H := hx; omega)).trans ?_
    show atP W xs (W - 1 - (W - 1 - y)) (H - 1 - (H - 1 - x)) = atP W xs (W - 1 - (W - 1 - y)) x
    rw [show H - 1 - (H - 1 - x) = x by have : x < H := hx; omega]
end Go.Proofs.YtjngjnkecnnmeaaDoor

namespace Go.Proofs.YtjngjnkecnnmeaaDoor

def isDot (s : ByteArray) (i : Nat) : Bool := decide (bt s i = 194) && decide (i + 1 < s.size) && decide (bt s (i + 1) = 183)
def isBall (s : ByteArray) (i : Nat) : Bool := decide (bt s i = 226) && decide (i + 2 < s.size) && decide (bt s (i + 1) = 151) && decide (bt s (i + 2) = 143)
theorem isDot_true {s : ByteArray} {i : Nat} : isDot s i = true ↔ bt s i = 194 ∧ i + 1 < s.size ∧ bt s (i + 1) = 183 := by simp [isDot, and_assoc]
theorem isBall_true {s : ByteArray} {i : Nat} : isBall s i = true ↔ bt s i = 226 ∧ i + 2 < s.size ∧ bt s (i + 1) = 151 ∧ bt s (i + 2) = 143 := by simp [isBall, and_assoc]

theorem get_bt (s : ByteArray) (j : Nat) : (s.get! j).toNat = bt s j := by
  unfold bt
  split
  · rename_i h; simp [ByteArray.get!, getElem!_pos, h]; rfl
  · rename_i h
    have : s.data[j]! = default := getElem!_neg _ _ (show ¬ j < s.data.size from h)
    simp [ByteArray.get!, this]; rfl

theorem decode_dot {s : ByteArray} {i : Nat} (h : isDot s i = true) : Utf8.decode s i = (183, 2) := by
  obtain ⟨h0, h1, h2⟩ := isDot_true.1 h
  simp [Utf8.decode, get_bt, h0, h1, h2]
theorem decode_ball {s : ByteArray} {i : Nat} (h : isBall s i = true) : Utf8.decode s i = (9679, 3) := by
  obtain ⟨h0, h1, h2, h3⟩ := isBall_true.1 h
  have h1' : i + 1 < s.size := by omega
  simp [Utf8.decode, get_bt, h0, h1, h1', h2, h3, Utf8.valid]
theorem decode_ten {s : ByteArray} {i : Nat} (h : bt s i = 10) : Utf8.decode s i = (10, 1) := by
  simp [Utf8.decode, get_bt, h]
theorem decode_other {s : ByteArray} {i : Nat} (hd : isDot s i = false) (hb : isBall s i = false) (hn : ¬ bt s i = 10) :
    ¬ (Utf8.decode s i).1 = 183 ∧ ¬ (Utf8.decode s i).1 = 9679 ∧ ¬ (Utf8.decode s i).1 = 10 := by
  have hd' : ¬ (bt s i = 194 ∧ i + 1 < s.size ∧ bt s (i + 1) = 183) := by rw [← isDot_true, hd]; simp
  have hb' : ¬ (bt s i = 226 ∧ i + 2 < s.size ∧ bt s (i + 1) = 151 ∧ bt s (i + 2) = 143) := by rw [← isBall_true, hb]; simp
  have b0 := bt_le s i
  have b1 := bt_le s (i + 1)
  have b2 := bt_le s (i + 2)
  have b3 := bt_le s (i + 3)
  simp only [Utf8.decode, get_bt, Nat.add_zero]
  generalize bt s i = x0 at *
  generalize bt s (i + 1) = x1 at *
  generalize bt s (i + 2) = x2 at *
  generalize bt s (i + 3) = x3 at *
  clear hd hb
  repeat' split
  all_goals simp only [Bool.and_eq_true, decide_eq_true_eq, beq_iff_eq, Utf8.runeError] at *
  all_goals (first | omega | (refine ⟨?_, ?_, ?_⟩ <;> omega))

/-- A drawing from i on: its row began at r, with n cells so far; wide, high and the cells of what was read. -/
def drawF (s : ByteArray) : Nat → Nat → Nat → Nat → Nat → Nat → List Int → (Nat × Nat × List Int) ⊕ (Nat × Nat)
  | 0, _, _, _, _, _, _ => .inr (0, 0)
  | f + 1, i, r, n, wide, high, xs =>
    if s.size ≤ i then (if r < s.size then .inr (s.size, 2) else .inl (wide, high, xs))
    else if isDot s i then (if high = 100 then .inr (r, 1) else if n = 100 then .inr (i, 1) else drawF s f (i + 2) r (n + 1) wide high (xs ++ [0]))
    else if isBall s i then (if high = 100 then .inr (r, 1) else if n = 100 then .inr (i, 1) else drawF s f (i + 3) r (n + 1) wide high (xs ++ [1]))
    else if bt s i ≠ 10 then .inr (i, 2)
    else if high = 100 then .inr (r, 1)
    else if 0 < high ∧ n ≠ wide then .inr (r, 3)
    else drawF s f (i + 1) (i + 1) 0 n (high + 1) xs

def drawS (s : ByteArray) : (Nat × Nat × List Int) ⊕ (Nat × Nat) :=
  if 40000 < s.size then .inr (0, 4) else drawF s (s.size + 1) 0 0 0 0 0 []
end Go.Proofs.YtjngjnkecnnmeaaDoor

namespace Go.Proofs.YtjngjnkecnnmeaaDoor
open Go.RowKit
set_option linter.unusedVariables false

/-- Of the blocks below base, b alone may have turned. -/
structure DRd (b base : Nat) (w w' : World) : Prop where
  os : w'.os = w.os
  tape : w'.tape = w.tape
  output : w'.output = w.output
  size : w.heap.size ≤ w'.heap.size
  block : ∀ k, k < base → k ≠ b → w'.heap[k]? = w.heap[k]?
theorem DRd.refl (b base : Nat) (w : World) : DRd b base w w := ⟨rfl, rfl, rfl, Nat.le_refl _, fun _ _ _ => rfl⟩
theorem DRd.trans {b base : Nat} {a c d : World} (h : DRd b base a c) (k : DRd b base c d) : DRd b base a d :=
  ⟨k.os.trans h.os, k.tape.trans h.tape, k.output.trans h.output, Nat.le_trans h.size k.size, fun i hi hb => (k.block i hi hb).trans (h.block i hi hb)⟩
theorem DRd.set {b base : Nat} {a w : World} (h : DRd b base a w) (o : Nat) (u : Value) : DRd b base a (w.setCell ⟨b, o, none⟩ u) :=
  h.trans ⟨rfl, rfl, rfl, by simp [World.setCell], fun k _ hk => Below.heap_setCell _ _ _ _ hk⟩
theorem DRd.drewN {b base : Nat} {a w : World} (h : DRd b base a w) (n : Nat) : DRd b base a (w.drewN n) := h.trans ⟨rfl, rfl, rfl, Nat.le_refl _, fun _ _ _ => rfl⟩

/-- The drawing at b: its sides so far, the slice of its cells, where its row begins, how many it has. -/
structure DAt (b : Nat) (W H : Nat) (v : Value) (r n : Nat) (w : World) : Prop where
  c0 : w.cell? ⟨b, 0, none⟩ = some (.int .i64 (W : Int))
  c1 : w.cell? ⟨b, 1, none⟩ = some (.int .i64 (H : Int))
  c2 : w.cell? ⟨b, 2, none⟩ = some v
  c3 : w.cell? ⟨b, 3, none⟩ = some (.int .i64 (r : Int))
  c4 : w.cell? ⟨b, 4, none⟩ = some (.int .i64 (n : Int))
  fz : ∀ k, w.frozen? ⟨b, k, none⟩ = false
theorem DAt.block {b W H : Nat} {v : Value} {r n : Nat} {w w' : World} (h : DAt b W H v r n w) (e : w'.heap[b]? = w.heap[b]?) : DAt b W H v r n w' :=
  ⟨(World.cell?_of_block (w := w) (a := ⟨b, 0, none⟩) e).trans h.c0, (World.cell?_of_block (w := w) (a := ⟨b, 1, none⟩) e).trans h.c1, (World.cell?_of_block (w := w) (a := ⟨b, 2, none⟩) e).trans h.c2, (World.cell?_of_block (w := w) (a := ⟨b, 3, none⟩) e).trans h.c3, (World.cell?_of_block (w := w) (a := ⟨b, 4, none⟩) e).trans h.c4,
   fun k => (World.frozen?_of_block (w := w) (a := ⟨b, k, none⟩) e).trans (h.fz k)⟩
theorem DAt.drewN {b W H : Nat} {v : Value} {r n : Nat} {w : World} (h : DAt b W H v r n w) (m : Nat) : DAt b W H v r n (w.drewN m) := h.block rfl
theorem cell_same {w : World} {b k : Nat} {v u : Value} (h : w.cell? ⟨b, k, none⟩ = some v) : (w.setCell ⟨b, k, none⟩ u).cell? ⟨b, k, none⟩ = some u := World.cell?_setCell_same _ _ _ h
theorem cell_other {w : World} {b k j : Nat} {v u : Value} (h : w.cell? ⟨b, j, none⟩ = some v) (hk : k ≠ j) : (w.setCell ⟨b, k, none⟩ u).cell? ⟨b, j, none⟩ = some v :=
  (World.cell?_setCell_other _ ⟨b, k, none⟩ ⟨b, j, none⟩ _ (fun q => hk (congrArg Addr.off q))).trans h
theorem DAt.set0 {b W H : Nat} {v : Value} {r n : Nat} {w : World} (h : DAt b W H v r n w) (x : Nat) : DAt b x H v r n (w.setCell ⟨b, 0, none⟩ (.int .i64 (x : Int))) :=
  ⟨cell_same h.c0, cell_other h.c1 (by omega), cell_other h.c2 (by omega), cell_other h.c3 (by omega), cell_other h.c4 (by omega), fun k => by rw [World.frozen?_setCell]; exact h.fz k⟩
theorem DAt.set1 {b W H : Nat} {v : Value} {r n : Nat} {w : World} (h : DAt b W H v r n w) (x : Nat) : DAt b W x v r n (w.setCell ⟨b, 1, none⟩ (.int .i64 (x : Int))) :=
  ⟨cell_other h.c0 (by omega), cell_same h.c1, cell_other h.c2 (by omega), cell_other h.c3 (by omega), cell_other h.c4 (by omega), fun k => by rw [World.frozen?_setCell]; exact h.fz k⟩
theorem DAt.set2 {b W H : Nat} {v : Value} {r n : Nat} {w : World} (h : DAt b W H v r n w) (x : Value) : DAt b W H x r n (w.setCell ⟨b, 2, none⟩ x) :=
  ⟨cell_other h.c0 (by omega), cell_other h.c1 (by omega), cell_same h.c2, cell_other h.c3 (by omega), cell_other h.c4 (by omega), fun k => by rw [World.frozen?_setCell]; exact h.fz k⟩
theorem DAt.set3 {b W H : Nat} {v : Value} {r n : Nat} {w : World} (h : DAt b W H v r n w) (x : Nat) : DAt b W H v x n (w.setCell ⟨b, 3, none⟩ (.int .i64 (x : Int))) :=
  ⟨cell_other h.c0 (by omega), cell_other h.c1 (by omega), cell_other h.c2 (by omega), cell_same h.c3, cell_other h.c4 (by omega), fun k => by rw [World.frozen?_setCell]; exact h.fz k⟩
theorem DAt.set4 {b W H : Nat} {v : Value} {r n : Nat} {w : World} (h : DAt b W H v r n w) (x : Nat) : DAt b W H v r x (w.setCell ⟨b, 4, none⟩ (.int .i64 (x : Int))) :=
  ⟨cell_other h.c0 (by omega), cell_other h.c1 (by omega), cell_other h.c2 (by omega), cell_other h.c3 (by omega), cell_same h.c4, fun k => by rw [World.frozen?_setCell]; exact h.fz k⟩

set_option maxHeartbeats 1600000 in
theorem pendRow (b W H : Nat) (v : Value) (r n at_ : Nat) (A : Int) (w : World) (hA : A = at_) (h : DAt b W H v r n w) (hat : at_ ≤ 40000) (hH : H < 100) (hn : n ≤ 100) :
    Calls Tryd.prog 133 #[.pointer (some ⟨b, 0, none⟩), .int .i64 A] w fun e w' => Rd b w w' ∧ (((0 < H ∧ n ≠ W) ∧ e = .returned (.tuple #[.int .i64 (r : Int), .iface 87 (.int .i64 3)])) ∨ (¬ (0 < H ∧ n ≠ W) ∧ e = .returned (.tuple #[.int .i64 0, .nilIface]) ∧ DAt b n (H + 1) v (at_ + 1) 0 w')) := by
  subst hA
  have D := hide' h
  have z0 := h.fz 0
  have z1 := h.fz 1
  have z3 := h.fz 3
  have z4 := h.fz 4
  obtain ⟨c0, c1, c2, c3, c4, -⟩ := h
  by_cases q : H = 0
  · have m1 : ((H : Int) == 0) = true := by simp; omega
    have m2 : ((n : Int) != (n : Int)) = false := by simp
    have Q := hide' q
    clear q
    go_enter Tryd.func133, Tryd.ntmps133
    go_wp2
    go_quiet (fail)
    go_wp2
    go_ret2
    refine ⟨(((((Rd.refl _ _).set _ _).drewN _).set _ _).set _ _).set _ _, Or.inr ⟨by have := Q.out; omega, rfl, ?_⟩⟩
    rw [show (H : Int) + 1 = ((H + 1 : Nat) : Int) by omega, show (at_ : Int) + 1 = ((at_ + 1 : Nat) : Int) by omega]
    exact ((((D.out.set0 n).drewN _).set1 (H + 1)).set3 (at_ + 1)).set4 0
  · have m1 : ((H : Int) == 0) = false := by simp; omega
    by_cases q2 : n = W
    · have m2 : ((n : Int) != (W : Int)) = false := by simp; omega
      have Q := hide' q2
      clear q2
      go_enter Tryd.func133, Tryd.ntmps133
      go_wp2
      go_quiet (fail)
      go_wp2
      go_ret2
      refine ⟨((((Rd.refl _ _).drewN _).set _ _).set _ _).set _ _, Or.inr ⟨fun h => h.2 Q.out, rfl, ?_⟩⟩
      rw [show (H : Int) + 1 = ((H + 1 : Nat) : Int) by omega, show (at_ : Int) + 1 = ((at_ + 1 : Nat) : Int) by omega]
      rw [show n = W from Q.out]
      exact (((D.out.drewN _).set1 (H + 1)).set3 (at_ + 1)).set4 0
    · have m2 : ((n : Int) != (W : Int)) = true := by simp; omega
      have Q := hide' q2
      clear q2
      go_enter Tryd.func133, Tryd.ntmps133
      go_wp2
      go_quiet (fail)
      go_wp2
      go_ret2
      exact ⟨(Rd.refl _ _).drewN _, Or.inl ⟨⟨by omega, Q.out⟩, rfl⟩⟩

/-- The three ways in which take ends by an error. -/
theorem ptake_syntax (b W H : Nat) (v : Value) (r n at_ : Nat) (A c : Int) (w : World) (hA : A = at_) (h : DAt b W H v r n w) (h1 : ¬ c = 183) (h2 : ¬ c = 9679) (h3 : ¬ c = 10) :
    Calls Tryd.prog 94 #[.pointer (some ⟨b, 0, none⟩), .int .i64 A, .int .i32 c] w fun e w' => e = .returned (.tuple #[.int .i64 (at_ : Int), .iface 87 (.int .i64 2)]) ∧ Rd b w w' := by
  subst hA
  have m1 : (c != 183) = true := by simp [h1]
  have m2 : (c != 9679) = true := by simp [h2]
  have m3 : (c != 10) = true := by simp [h3]
  clear h1 h2 h3
  go_enter Tryd.func94, Tryd.ntmps94
  go_wp2
  go_ret2
  exact ⟨rfl, Rd.refl _ _⟩

theorem ptake_high (b W H : Nat) (v : Value) (r n at_ : Nat) (A c : Int) (w : World) (hA : A = at_) (h : DAt b W H v r n w) (h1 : c = 183 ∨ c = 9679 ∨ c = 10) (hH : H = 100) :
    Calls Tryd.prog 94 #[.pointer (some ⟨b, 0, none⟩), .int .i64 A, .int .i32 c] w fun e w' => e = .returned (.tuple #[.int .i64 (at_ : Int), .iface 87 (.int .i64 1)]) ∧ Rd b w w' := by
  subst hA
  obtain ⟨c0, c1, c2, c3, c4, z⟩ := h
  have m0 : ((H : Int) == 100) = true := by simp; omega
  clear hH
  rcases h1 with rfl | rfl | rfl
  · go_enter Tryd.func94, Tryd.ntmps94
    go_wp2
    go_ret2
    exact ⟨rfl, Rd.refl _ _⟩
  · go_enter Tryd.func94, Tryd.ntmps94
    go_wp2
    go_ret2
    exact ⟨rfl, Rd.refl _ _⟩
  · go_enter Tryd.func94, Tryd.ntmps94
    go_wp2
    go_ret2
    exact ⟨rfl, Rd.refl _ _⟩

theorem ptake_wide (b W H : Nat) (v : Value) (r n at_ : Nat) (A c : Int) (w : World) (hA : A = at_) (h : DAt b W H v r n w) (h1 : c = 183 ∨ c = 9679) (hH : ¬ H = 100) (hn : n = 100) :
    Calls Tryd.prog 94 #[.pointer (some ⟨b, 0, none⟩), .int .i64 A, .int .i32 c] w fun e w' => e = .returned (.tuple #[.int .i64 (at_ : Int), .iface 87 (.int .i64 1)]) ∧ Rd b w w' := by
  subst hA
  obtain ⟨c0, c1, c2, c3, c4, z⟩ := h
  have m0 : ((H : Int) == 100) = false := by simp; omega
  have m1 : ((n : Int) == 100) = true := by simp; omega
  clear hH hn
  rcases h1 with rfl | rfl
  · go_enter Tryd.func94, Tryd.ntmps94
    go_wp2
    go_ret2
    exact ⟨rfl, Rd.refl _ _⟩
  · go_enter Tryd.func94, Tryd.ntmps94
    go_wp2
    go_ret2
    exact ⟨rfl, Rd.refl _ _⟩

theorem ptake_row (b W H : Nat) (v : Value) (r n at_ : Nat) (A : Int) (w : World) (hA : A = at_) (h : DAt b W H v r n w) (hat : at_ ≤ 40000) (hH : ¬ H = 100) (hH' : H ≤ 100) (hn : n ≤ 100) :
    Calls Tryd.prog 94 #[.pointer (some ⟨b, 0, none⟩), .int .i64 A, .int .i32 10] w fun e w' => Rd b w w' ∧ (((0 < H ∧ n ≠ W) ∧ e = .returned (.tuple #[.int .i64 (r : Int), .iface 87 (.int .i64 3)])) ∨ (¬ (0 < H ∧ n ≠ W) ∧ e = .returned (.tuple #[.int .i64 0, .nilIface]) ∧ DAt b n (H + 1) v (at_ + 1) 0 w')) := by
  subst hA
  have D := hide' h
  obtain ⟨c0, c1, c2, c3, c4, z⟩ := h
  have m0 : ((H : Int) == 100) = false := by simp; omega
  go_enter Tryd.func94, Tryd.ntmps94
  go_wp2_with fail
  refine (pendRow b W H v r n at_ _ _ rfl D.out hat (by omega) hn).mono ?_
  rintro e w1 ⟨r1, (⟨q, rfl⟩ | ⟨q, rfl, d⟩)⟩
  · go_wp2
    go_ret2
    exact ⟨r1, Or.inl ⟨q, rfl⟩⟩
  · have DD := hide' d
    clear d
    go_wp2
    go_ret2
    exact ⟨r1, Or.inr ⟨q, rfl, DD.out⟩⟩
end Go.Proofs.YtjngjnkecnnmeaaDoor

