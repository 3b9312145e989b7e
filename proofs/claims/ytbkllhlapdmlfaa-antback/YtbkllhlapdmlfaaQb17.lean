/-
  What the last text of this claim leans on, part 17: DSpec, Da1, Da2, Da3.
-/
import Derived.Test.YtbkllhlapdmlfaaQb3
import Derived.Test.YtbkllhlapdmlfaaQb2
import Derived.Test.YtbkllhlapdmlfaaQb16
import Derived.Laws.RangeAny
import Derived.Lib.OthersKept
namespace Go.Proofs.Ytbkllhlapdmlfaa

def isDot (s : ByteArray) (i : Nat) : Bool := decide (bt s i = 194) && decide (i + 1 < s.size) && decide (bt s (i + 1) = 183)
def isBall (s : ByteArray) (i : Nat) : Bool := decide (bt s i = 226) && decide (i + 2 < s.size) && decide (bt s (i + 1) = 151) && decide (bt s (i + 2) = 143)
theorem isDot_true {s : ByteArray} {i : Nat} : isDot s i = true ↔ bt s i = 194 ∧ i + 1 < s.size ∧ bt s (i + 1) = 183 := by simp [isDot, and_assoc]
theorem isBall_true {s : ByteArray} {i : Nat} : isBall s i = true ↔ bt s i = 226 ∧ i + 2 < s.size ∧ bt s (i + 1) = 151 ∧ bt s (i + 2) = 143 := by simp [isBall, and_assoc]

theorem get_bt (s : ByteArray) (j : Nat) : (s.get! j).toNat = bt s j := by
  unfold bt
  split
  · rename_i h; simp [ByteArray.get!, getElem!_pos, h]; rfl
  · rename_i h
    have : s.data[j]! = default := getElem!_neg _ _ (show ¬ j < s.data.size from h)
    simp [ByteArray.get!, this]; rfl

theorem decode_dot {s : ByteArray} {i : Nat} (h : isDot s i = true) : Utf8.decode s i = (183, 2) := by
  obtain ⟨h0, h1, h2⟩ := isDot_true.1 h
  simp [Utf8.decode, get_bt, h0, h1, h2]
theorem decode_ball {s : ByteArray} {i : Nat} (h : isBall s i = true) : Utf8.decode s i = (9679, 3) := by
  obtain ⟨h0, h1, h2, h3⟩ := isBall_true.1 h
  have h1' : i + 1 < s.size := by omega
  simp [Utf8.decode, get_bt, h0, h1, h1', h2, h3, Utf8.valid]
theorem decode_ten {s : ByteArray} {i : Nat} (h : bt s i = 10) : Utf8.decode s i = (10, 1) := by
  simp [Utf8.decode, get_bt, h]
theorem decode_other {s : ByteArray} {i : Nat} (hd : isDot s i = false) (hb : isBall s i = false) (hn : ¬ bt s i = 10) :
    ¬ (Utf8.decode s i).1 = 183 ∧ ¬ (Utf8.decode s i).1 = 9679 ∧ ¬ (Utf8.decode s i).1 = 10 := by
  have hd' : ¬ (bt s i = 194 ∧ i + 1 < s.size ∧ bt s (i + 1) = 183) := by rw [← isDot_true, hd]; simp
  have hb' : ¬ (bt s i = 226 ∧ i + 2 < s.size ∧ bt s (i + 1) = 151 ∧ bt s (i + 2) = 143) := by rw [← isBall_true, hb]; simp
  have b0 := bt_le s i
  have b1 := bt_le s (i + 1)
  have b2 := bt_le s (i + 2)
  have b3 := bt_le s (i + 3)
  simp only [Utf8.decode, get_bt, Nat.add_zero]
  generalize bt s i = x0 at *
  generalize bt s (i + 1) = x1 at *
  generalize bt s (i + 2) = x2 at *
  generalize bt s (i + 3) = x3 at *
  clear hd hb
  repeat' split
  all_goals simp only [Bool.and_eq_true, decide_eq_true_eq, beq_iff_eq, Utf8.runeError] at *
  all_goals (first | omega | (refine ⟨?_, ?_, ?_⟩ <;> omega))

/-- A drawing from i on: its row began at r, with n cells so far; wide, high and the cells of what was read. -/
def drawF (s : ByteArray) : Nat → Nat → Nat → Nat → Nat → Nat → List Int → (Nat × Nat × List Int) ⊕ (Nat × Nat)
  | 0, _, _, _, _, _, _ => .inr (0, 0)
  | f + 1, i, r, n, wide, high, xs =>
    if s.size ≤ i then (if r < s.size then .inr (s.size, 2) else .inl (wide, high, xs))
    else if isDot s i then (if high = 100 then .inr (r, 1) else if n = 100 then .inr (i, 1) else drawF s f (i + 2) r (n + 1) wide high (xs ++ [0]))
    else if isBall s i then (if high = 100 then .inr (r, 1) else if n = 100 then .inr (i, 1) else drawF s f (i + 3) r (n + 1) wide high (xs ++ [1]))
    else if bt s i ≠ 10 then .inr (i, 2)
    else if high = 100 then .inr (r, 1)
    else if 0 < high ∧ n ≠ wide then .inr (r, 3)
    else drawF s f (i + 1) (i + 1) 0 n (high + 1) xs

def drawS (s : ByteArray) : (Nat × Nat × List Int) ⊕ (Nat × Nat) :=
  if 40000 < s.size then .inr (0, 4) else drawF s (s.size + 1) 0 0 0 0 0 []
end Go.Proofs.Ytbkllhlapdmlfaa

namespace Go.Proofs.Ytbkllhlapdmlfaa
open Go.RowKit
set_option linter.unusedVariables false

/-- Of the blocks below base, b alone may have turned. -/
structure DRd (b base : Nat) (w w' : World) : Prop where
  os : w'.os = w.os
  tape : w'.tape = w.tape
  output : w'.output = w.output
  size : w.heap.size ≤ w'.heap.size
  block : ∀ k, k < base → k ≠ b → w'.heap[k]? = w.heap[k]?
theorem DRd.refl (b base : Nat) (w : World) : DRd b base w w := ⟨rfl, rfl, rfl, Nat.le_refl _, fun _ _ _ => rfl⟩
theorem DRd.trans {b base : Nat} {a c d : World} (h : DRd b base a c) (k : DRd b base c d) : DRd b base a d :=
  ⟨k.os.trans h.os, k.tape.trans h.tape, k.output.trans h.output, Nat.le_trans h.size k.size, fun i hi hb => (k.block i hi hb).trans (h.block i hi hb)⟩
theorem DRd.set {b base : Nat} {a w : World} (h : DRd b base a w) (o : Nat) (u : Value) : DRd b base a (w.setCell ⟨b, o, none⟩ u) :=
  h.trans ⟨rfl, rfl, rfl, by simp [World.setCell], fun k _ hk => Below.heap_setCell _ _ _ _ hk⟩
theorem DRd.drewN {b base : Nat} {a w : World} (h : DRd b base a w) (n : Nat) : DRd b base a (w.drewN n) := h.trans ⟨rfl, rfl, rfl, Nat.le_refl _, fun _ _ _ => rfl⟩

/-- The drawing at b: its sides so far, the slice of its cells, where its row begins, how many it has. -/
structure DAt (b : Nat) (W H : Nat) (v : Value) (r n : Nat) (w : World) : Prop where
  c0 : w.cell? ⟨b, 0, none⟩ = some (.int .i64 (W : Int))
  c1 : w.cell? ⟨b, 1, none⟩ = some (.int .i64 (H : Int))
  c2 : w.cell? ⟨b, 2, none⟩ = some v
  c3 : w.cell? ⟨b, 3, none⟩ = some (.int .i64 (r : Int))
  c4 : w.cell? ⟨b, 4, none⟩ = some (.int .i64 (n : Int))
  fz : ∀ k, w.frozen? ⟨b, k, none⟩ = false
theorem DAt.block {b W H : Nat} {v : Value} {r n : Nat} {w w' : World} (h : DAt b W H v r n w) (e : w'.heap[b]? = w.heap[b]?) : DAt b W H v r n w' :=
  ⟨(World.cell?_of_block (w := w) (a := ⟨b, 0, none⟩) e).trans h.c0, (World.cell?_of_block (w := w) (a := ⟨b, 1, none⟩) e).trans h.c1, (World.cell?_of_block (w := w) (a := ⟨b, 2, none⟩) e).trans h.c2, (World.cell?_of_block (w := w) (a := ⟨b, 3, none⟩) e).trans h.c3, (World.cell?_of_block (w := w) (a := ⟨b, 4, none⟩) e).trans h.c4,
   fun k => (World.frozen?_of_block (w := w) (a := ⟨b, k, none⟩) e).trans (h.fz k)⟩
theorem DAt.drewN {b W H : Nat} {v : Value} {r n : Nat} {w : World} (h : DAt b W H v r n w) (m : Nat) : DAt b W H v r n (w.drewN m) := h.block rfl
theorem cell_same {w : World} {b k : Nat} {v u : Value} (h : w.cell? ⟨b, k, none⟩ = some v) : (w.setCell ⟨b, k, none⟩ u).cell? ⟨b, k, none⟩ = some u := World.cell?_setCell_same _ _ _ h
theorem cell_other {w : World} {b k j : Nat} {v u : Value} (h : w.cell? ⟨b, j, none⟩ = some v) (hk : k ≠ j) : (w.setCell ⟨b, k, none⟩ u).cell? ⟨b, j, none⟩ = some v :=
  (World.cell?_setCell_other _ ⟨b, k, none⟩ ⟨b, j, none⟩ _ (fun q => hk (congrArg Addr.off q))).trans h
theorem DAt.set0 {b W H : Nat} {v : Value} {r n : Nat} {w : World} (h : DAt b W H v r n w) (x : Nat) : DAt b x H v r n (w.setCell ⟨b, 0, none⟩ (.int .i64 (x : Int))) :=
  ⟨cell_same h.c0, cell_other h.c1 (by omega), cell_other h.c2 (by omega), cell_other h.c3 (by omega), cell_other h.c4 (by omega), fun k => by rw [World.frozen?_setCell]; exact h.fz k⟩
theorem DAt.set1 {b W H : Nat} {v : Value} {r n : Nat} {w : World} (h : DAt b W H v r n w) (x : Nat) : DAt b W x v r n (w.setCell ⟨b, 1, none⟩ (.int .i64 (x : Int))) :=
  ⟨cell_other h.c0 (by omega), cell_same h.c1, cell_other h.c2 (by omega), cell_other h.c3 (by omega), cell_other h.c4 (by omega), fun k => by rw [World.frozen?_setCell]; exact h.fz k⟩
theorem DAt.set2 {b W H : Nat} {v : Value} {r n : Nat} {w : World} (h : DAt b W H v r n w) (x : Value) : DAt b W H x r n (w.setCell ⟨b, 2, none⟩ x) :=
  ⟨cell_other h.c0 (by omega), cell_other h.c1 (by omega), cell_same h.c2, cell_other h.c3 (by omega), cell_other h.c4 (by omega), fun k => by rw [World.frozen?_setCell]; exact h.fz k⟩
theorem DAt.set3 {b W H : Nat} {v : Value} {r n : Nat} {w : World} (h : DAt b W H v r n w) (x : Nat) : DAt b W H v x n (w.setCell ⟨b, 3, none⟩ (.int .i64 (x : Int))) :=
  ⟨cell_other h.c0 (by omega), cell_other h.c1 (by omega), cell_other h.c2 (by omega), cell_same h.c3, cell_other h.c4 (by omega), fun k => by rw [World.frozen?_setCell]; exact h.fz k⟩
theorem DAt.set4 {b W H : Nat} {v : Value} {r n : Nat} {w : World} (h : DAt b W H v r n w) (x : Nat) : DAt b W H v r x (w.setCell ⟨b, 4, none⟩ (.int .i64 (x : Int))) :=
  ⟨cell_other h.c0 (by omega), cell_other h.c1 (by omega), cell_other h.c2 (by omega), cell_other h.c3 (by omega), cell_same h.c4, fun k => by rw [World.frozen?_setCell]; exact h.fz k⟩

end Go.Proofs.Ytbkllhlapdmlfaa

namespace Go.Proofs.Ytbkllhlapdmlfaa
open Go.RowKit
set_option linter.unusedVariables false

def PushPost (b base W H : Nat) (xs : List Int) (r n : Nat) (x : Int) (w : World) (e : Ending) (w' : World) : Prop :=
  e = .returned (.tuple #[.int .i64 0, .nilIface]) ∧ DRd b base w w' ∧ ∃ v', DAt b W H v' r (n + 1) w' ∧ w'.ownsRow base 3 1 v' (xs ++ [x]).length ((xs ++ [x]).map fun x => .int .i64 x)
def pushW (w : World) (b : Nat) (x m : Int) : World := ((w.setCell ⟨b, 4, none⟩ (.int .i64 m)).alloc (.cells #[.int .i64 x] 3)).drew
theorem push_own {w : World} {b base n : Nat} {v : Value} {ys : List Value} (ho : w.ownsRow base 3 1 v n ys) (x m : Int) (hb : b < base) : (((w.setCell ⟨b, 4, none⟩ (.int .i64 m)).alloc (.cells #[.int .i64 x] 3)).drew).ownsRow base 3 1 v n ys :=
  ((ownsRow_setCell_below ho (a := ⟨b, 4, none⟩) hb _).alloc _).drew
theorem push_news (w : World) (b : Nat) (x m : Int) : ∀ j u, [Value.int .i64 x][j]? = some u → (((w.setCell ⟨b, 4, none⟩ (.int .i64 m)).alloc (.cells #[.int .i64 x] 3)).drew).cell? ((⟨w.heap.size, 0, none⟩ : Addr).add j) = some u := by
  have h := World.news_of_block (w := ((w.setCell ⟨b, 4, none⟩ (.int .i64 m)).alloc (.cells #[.int .i64 x] 3)).drew) (cs := #[.int .i64 x]) (t := 3) (fr := (0, 0)) (heap_alloc_new (w.setCell ⟨b, 4, none⟩ (.int .i64 m)) _)
  rw [World.size_setCell] at h
  exact h
theorem push_block {w w1 : World} {b base : Nat} {v : Value} {xs : List Int} (x m : Int) (ho : w.ownsRow base 3 1 v xs.length (xs.map fun x => .int .i64 x)) (hb : b < base) (hbw : base ≤ w.heap.size)
    (hg : (((w.setCell ⟨b, 4, none⟩ (.int .i64 m)).alloc (.cells #[.int .i64 x] 3)).drew).grownBy w1 v.ownBlock) : ∀ k, k < base → w1.heap[k]? = (w.setCell ⟨b, 4, none⟩ (.int .i64 m)).heap[k]? := by
  intro k hk
  have hob := ownsRow_block ho
  rw [(grownBy_drew hg).block k (by rw [World.size_alloc, World.size_setCell]; omega) (fun e => by have := hob k e.symm; omega)]
  exact Below.heap_alloc _ _ _ (by rw [World.size_setCell]; omega)
theorem push_mid {w w1 : World} {b base W H r n : Nat} {v : Value} {xs : List Int} (x : Int) (D : DAt b W H v r n w) (ho : w.ownsRow base 3 1 v xs.length (xs.map fun x => .int .i64 x)) (hb : b < base) (hbw : base ≤ w.heap.size)
    (hg : (((w.setCell ⟨b, 4, none⟩ (.int .i64 ((n : Int) + 1))).alloc (.cells #[.int .i64 x] 3)).drew).grownBy w1 v.ownBlock) : w1.cell? ⟨b, 2, none⟩ = some v ∧ w1.frozen? ⟨b, 2, none⟩ = false := by
  have d := (D.set4 (n + 1)).block (w' := w1) (by rw [show ((n + 1 : Nat) : Int) = (n : Int) + 1 by omega]; exact push_block x _ ho hb hbw hg b hb)
  exact ⟨d.c2, d.fz 2⟩
theorem push_end {w w1 : World} {b base W H r n : Nat} {v u : Value} {xs : List Int} (x : Int) (D : DAt b W H v r n w) (ho : w.ownsRow base 3 1 v xs.length (xs.map fun x => .int .i64 x)) (hb : b < base) (hbw : base ≤ w.heap.size)
    (hg : (((w.setCell ⟨b, 4, none⟩ (.int .i64 ((n : Int) + 1))).alloc (.cells #[.int .i64 x] 3)).drew).grownBy w1 v.ownBlock)
    (h1 : w1.ownsRow base 3 1 u (xs.length + 1) ((xs.map fun x => .int .i64 x) ++ [.int .i64 x])) :
    DRd b base w (w1.setCell ⟨b, 2, none⟩ u) ∧ ∃ v', DAt b W H v' r (n + 1) (w1.setCell ⟨b, 2, none⟩ u) ∧ (w1.setCell ⟨b, 2, none⟩ u).ownsRow base 3 1 v' (xs ++ [x]).length ((xs ++ [x]).map fun x => .int .i64 x) := by
  have hk := push_block x _ ho hb hbw hg
  have d := (D.set4 (n + 1)).block (w' := w1) (by rw [show ((n + 1 : Nat) : Int) = (n : Int) + 1 by omega]; exact hk b hb)
  have g := grownBy_drew hg
  refine ⟨DRd.set (show DRd b base w w1 from ⟨g.os, g.tape, g.output, ?_, fun k hkb hne => ?_⟩) _ _, u, d.set2 u, ?_⟩
  · have := g.size
    rw [World.size_alloc, World.size_setCell] at this
    omega
  · rw [hk k hkb]; exact Below.heap_setCell _ _ _ _ hne
  · have := ownsRow_setCell_below h1 (a := ⟨b, 2, none⟩) hb u
    simpa using this

end Go.Proofs.Ytbkllhlapdmlfaa

namespace Go.Proofs.Ytbkllhlapdmlfaa
open Go.RowKit
set_option linter.unusedVariables false

theorem drawF_fuel (s : ByteArray) : ∀ f f' i r n W H xs, i ≤ s.size → s.size + 1 - i ≤ f → s.size + 1 - i ≤ f' → drawF s f i r n W H xs = drawF s f' i r n W H xs := by
  intro f
  induction f with
  | zero => intro f' i r n W H xs h1 h2; omega
  | succ f ih =>
    intro f' i r n W H xs h1 h2 h3
    obtain ⟨f'', rfl⟩ : ∃ f'', f' = f'' + 1 := ⟨f' - 1, by omega⟩
    simp only [drawF]
    split
    · rfl
    split
    · rename_i hd
      have := isDot_true.1 hd
      split
      · rfl
      split
      · rfl
      exact ih f'' _ _ _ _ _ _ (by omega) (by omega) (by omega)
    split
    · rename_i hd
      have := isBall_true.1 hd
      split
      · rfl
      split
      · rfl
      exact ih f'' _ _ _ _ _ _ (by omega) (by omega) (by omega)
    split
    · rfl
    split
    · rfl
    split
    · rfl
    exact ih f'' _ _ _ _ _ _ (by omega) (by omega) (by omega)

theorem drawF_end {s : ByteArray} {i r n W H : Nat} {xs : List Int} (hi : i = s.size) : drawF s (s.size + 1 - i) i r n W H xs = if r < s.size then .inr (s.size, 2) else .inl (W, H, xs) := by
  rw [show s.size + 1 - i = 0 + 1 by omega, drawF, if_pos (by omega)]
theorem drawF_dot {s : ByteArray} {i r n W H : Nat} {xs : List Int} (hi : i < s.size) (h : isDot s i = true) : drawF s (s.size + 1 - i) i r n W H xs = if H = 100 then .inr (r, 1) else if n = 100 then .inr (i, 1) else drawF s (s.size + 1 - (i + 2)) (i + 2) r (n + 1) W H (xs ++ [0]) := by
  have := isDot_true.1 h
  rw [show s.size + 1 - i = (s.size - i) + 1 by omega, drawF, if_neg (by omega), if_pos h]
  split
  · rfl
  split
  · rfl
  exact drawF_fuel s _ _ _ _ _ _ _ _ (by omega) (by omega) (by omega)
theorem drawF_ball {s : ByteArray} {i r n W H : Nat} {xs : List Int} (hi : i < s.size) (h0 : isDot s i = false) (h : isBall s i = true) : drawF s (s.size + 1 - i) i r n W H xs = if H = 100 then .inr (r, 1) else if n = 100 then .inr (i, 1) else drawF s (s.size + 1 - (i + 3)) (i + 3) r (n + 1) W H (xs ++ [1]) := by
  have := isBall_true.1 h
  rw [show s.size + 1 - i = (s.size - i) + 1 by omega, drawF, if_neg (by omega), if_neg (by rw [h0]; simp), if_pos h]
  split
  · rfl
  split
  · rfl
  exact drawF_fuel s _ _ _ _ _ _ _ _ (by omega) (by omega) (by omega)
theorem drawF_none {s : ByteArray} {i r n W H : Nat} {xs : List Int} (hi : i < s.size) (h0 : isDot s i = false) (h1 : isBall s i = false) (h2 : ¬ bt s i = 10) : drawF s (s.size + 1 - i) i r n W H xs = .inr (i, 2) := by
  rw [show s.size + 1 - i = (s.size - i) + 1 by omega, drawF, if_neg (by omega), if_neg (by rw [h0]; simp), if_neg (by rw [h1]; simp), if_pos h2]
theorem ten_no {s : ByteArray} {i : Nat} (h : bt s i = 10) : isDot s i = false ∧ isBall s i = false := by
  constructor
  · cases hd : isDot s i with
    | false => rfl
    | true => have := isDot_true.1 hd; omega
  · cases hd : isBall s i with
    | false => rfl
    | true => have := isBall_true.1 hd; omega
theorem dot_ball {s : ByteArray} {i : Nat} (h : isBall s i = true) : isDot s i = false := by
  cases hd : isDot s i with
  | false => rfl
  | true => have := isDot_true.1 hd; have := isBall_true.1 h; omega
theorem drawF_ten {s : ByteArray} {i r n W H : Nat} {xs : List Int} (hi : i < s.size) (h : bt s i = 10) : drawF s (s.size + 1 - i) i r n W H xs = if H = 100 then .inr (r, 1) else if 0 < H ∧ n ≠ W then .inr (r, 3) else drawF s (s.size + 1 - (i + 1)) (i + 1) (i + 1) 0 n (H + 1) xs := by
  obtain ⟨h0, h1⟩ := ten_no h
  rw [show s.size + 1 - i = (s.size - i) + 1 by omega, drawF, if_neg (by omega), if_neg (by rw [h0]; simp), if_neg (by rw [h1]; simp), if_neg (by simp [h])]
  split
  · rfl
  split
  · rfl
  exact drawF_fuel s _ _ _ _ _ _ _ _ (by omega) (by omega) (by omega)

theorem ownsRow_from {w w' : World} {base : Nat} {e : TypeId} {v : Value} {n : Nat} {xs : List Value} (h : w.ownsRow base e 1 v n xs) (hb : ∀ k, base ≤ k → k < w.heap.size → w'.heap[k]? = w.heap[k]?) : w'.ownsRow base e 1 v n xs := by
  refine ⟨h.1, ?_⟩
  rcases h.2 with h0 | ⟨g, cap, cur, hv, hg, hh, rest⟩
  · exact Or.inl h0
  · exact Or.inr ⟨g, cap, cur, hv, hg, (hb g hg (Array.getElem?_eq_some_iff.1 hh).1).trans hh, rest⟩

/-- What holds of the numbers between two rounds. -/
structure DNum (s : ByteArray) (i r n W H : Nat) (xs : List Int) : Prop where
  li : i ≤ s.size
  lH : H ≤ 100
  ln : n ≤ 100
  lW : W ≤ 100
  len : xs.length = H * W + n
  top : H = 100 → n = 0
  row : n = 0 → r = i
  lr : r ≤ i
  eq : drawF s (s.size + 1 - i) i r n W H xs = drawS s
theorem DNum.cell {s : ByteArray} {i r n W H : Nat} {xs : List Int} (h : DNum s i r n W H xs) (j : Nat) (x : Int) (hj : j ≤ s.size) (hij : i ≤ j) (hH : ¬ H = 100) (hn : ¬ n = 100) (e : drawF s (s.size + 1 - i) i r n W H xs = drawF s (s.size + 1 - j) j r (n + 1) W H (xs ++ [x])) : DNum s j r (n + 1) W H (xs ++ [x]) :=
  ⟨hj, h.lH, by have := h.ln; omega, h.lW, by have := h.len; simp; omega, fun q => absurd q hH, fun q => by omega, Nat.le_trans h.lr hij, e.symm.trans h.eq⟩
theorem DNum.ten {s : ByteArray} {i r n W H : Nat} {xs : List Int} (h : DNum s i r n W H xs) (hi : i < s.size) (hH : ¬ H = 100) (hn : ¬ (0 < H ∧ n ≠ W)) (hb : bt s i = 10) : DNum s (i + 1) (i + 1) 0 n (H + 1) xs := by
  refine ⟨by omega, by have := h.lH; omega, by omega, h.ln, ?_, fun _ => rfl, fun _ => rfl, Nat.le_refl _, ?_⟩
  · have := h.len
    by_cases q : H = 0
    · subst q; simp at this ⊢; omega
    · have : n = W := by
        rcases Nat.decEq n W with e | e
        · exact absurd ⟨by omega, e⟩ hn
        · exact e
      subst this
      rw [Nat.add_mul]; omega
  · rw [← h.eq, drawF_ten hi hb, if_neg hH, if_neg hn]
theorem DNum.small {s : ByteArray} {i r n W H : Nat} {xs : List Int} (h : DNum s i r n W H xs) (hH : ¬ H = 100) : xs.length ≤ 10000 := by
  have h1 := h.lH
  have h2 : H * W ≤ 99 * 100 := Nat.mul_le_mul (by omega) h.lW
  have h3 := h.len
  have h4 := h.ln
  omega
theorem DNum.all {s : ByteArray} {i r n W H : Nat} {xs : List Int} (h : DNum s i r n W H xs) : xs.length ≤ 10100 := by
  have h2 : H * W ≤ 100 * 100 := Nat.mul_le_mul h.lH h.lW
  have h3 := h.len
  have h4 := h.ln
  omega
theorem DNum.start (s : ByteArray) (hs : s.size ≤ 40000) : DNum s 0 0 0 0 0 [] :=
  ⟨by omega, by omega, by omega, by omega, by simp, by omega, by omega, by omega, by unfold drawS; rw [if_neg (by omega)]; rfl⟩

/-- pattern.ParseDraw's memory between two rounds: the result's block, the drawing's, the iterator's. -/
structure DS (s : ByteArray) (w wr : World) (i r n W H : Nat) (v : Value) (xs : List Int) : Prop where
  it : wr.heap[w.heap.size + 2]? = some (.stringIter s i)
  dat : DAt (w.heap.size + 1) W H v r n wr
  own : wr.ownsRow (w.heap.size + 3) 3 1 v xs.length (xs.map fun x => .int .i64 x)
  res : ResB w.heap.size wr
  below : Below w.heap.size w wr
theorem DS.sz {s : ByteArray} {w wr : World} {i r n W H : Nat} {v : Value} {xs : List Int} (h : DS s w wr i r n W H v xs) : w.heap.size + 3 ≤ wr.heap.size := (Array.getElem?_eq_some_iff.1 h.it).1
theorem DS.iter {s : ByteArray} {w wr : World} {i r n W H : Nat} {v : Value} {xs : List Int} (h : DS s w wr i r n W H v xs) (j : Nat) : DS s w (wr.iterAt (w.heap.size + 2) s j) j r n W H v xs := by
  refine ⟨Lib.iterAt_heap _ _ _ i _ h.it, h.dat.block (Lib.iterAt_other _ _ _ _ _ (by omega)), ownsRow_from h.own fun k hk _ => Lib.iterAt_other _ _ _ _ _ (by omega), h.res.block (Lib.iterAt_other _ _ _ _ _ (by omega)), Lib.below_iterAt h.below (by omega) _ _⟩
theorem DS.rd {s : ByteArray} {w wr w' : World} {i r n W H r' n' W' H' : Nat} {v : Value} {xs : List Int} (h : DS s w wr i r n W H v xs) (hr : Rd (w.heap.size + 1) wr w') (hd : DAt (w.heap.size + 1) W' H' v r' n' w') : DS s w w' i r' n' W' H' v xs := by
  have hz := h.sz
  exact ⟨(hr.block _ (by omega) (by omega)).trans h.it, hd, ownsRow_from h.own fun k hk hl => hr.block k hl (by omega), h.res.block (hr.block _ (by omega) (by omega)), h.below.trans (hr.below (by omega) (by omega))⟩
theorem DS.push {s : ByteArray} {w wr w' : World} {i r n W H : Nat} {v v' : Value} {xs : List Int} {x : Int} (h : DS s w wr i r n W H v xs) (hr : DRd (w.heap.size + 1) (w.heap.size + 3) wr w') (hd : DAt (w.heap.size + 1) W H v' r (n + 1) w') (ho : w'.ownsRow (w.heap.size + 3) 3 1 v' (xs ++ [x]).length ((xs ++ [x]).map fun x => .int .i64 x)) : DS s w w' i r (n + 1) W H v' (xs ++ [x]) := by
  have hz := h.sz
  exact ⟨(hr.block _ (by omega) (by omega)).trans h.it, hd, ho, h.res.block (hr.block _ (by omega) (by omega)), h.below.trans ⟨hr.os, hr.tape, hr.output, hr.size, fun k hk => hr.block k (by omega) (by omega)⟩⟩
theorem DS.pos {s : ByteArray} {w wr : World} {i r n W H : Nat} {v : Value} {xs : List Int} (h : DS s w wr i r n W H v xs) : wr.iterPos (w.heap.size + 2) = i := by
  unfold World.iterPos; rw [h.it]

theorem fresh_own {w0 w : World} {base : Nat} {e : TypeId} {v : Value} {n : Nat} {xs : List Value} (h : w.ownsRow base e 1 v n xs) (hb : w0.heap.size ≤ base) : Fresh w0 v := fun g k c hv => by
  have := ownsRow_block h g (by rw [hv]; rfl)
  omega

def DrawPost (s : ByteArray) (w : World) (e : Ending) (w' : World) : Prop :=
  Below w.heap.size w w' ∧
  ((∃ (W H : Nat) (xs : List Int) (v : Value), drawS s = .inl (W, H, xs) ∧ e = .returned (.tuple #[.agg #[.int .i64 (W : Int), .int .i64 (H : Int), v], .int .i64 0, .nilIface]) ∧ Tab w' v xs ∧ xs.length ≤ 10100 ∧ Fresh w v) ∨
   (∃ a f : Nat, drawS s = .inr (a, f) ∧ e = .returned (.tuple #[.agg #[.int .i64 0, .int .i64 0, .slice none 0 0], .int .i64 (a : Int), .iface 74 (.int .i64 (f : Int))])))
end Go.Proofs.Ytbkllhlapdmlfaa

