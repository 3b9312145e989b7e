/-
  What the last text of this claim leans on, part 12: Qa2, Da3.
-/
import Derived.Test.YtjngjnkecnnmeaaDoorJr9
import Derived.Test.YtjngjnkecnnmeaaDoorJr11
import Derived.Test.YtjngjnkecnnmeaaDoorJr8
import Derived.Lib.OthersKept
namespace Go.Proofs.YtjngjnkecnnmeaaDoor
open Go.RowKit
set_option linter.unusedVariables false

structure RS (w wr : World) (P W H : Nat) (xs : List Int) : Prop where
  res : ResB w.heap.size wr
  non : ResB (w.heap.size + 1) wr
  p0 : wr.cell? ⟨P, 0, none⟩ = some (.int .i64 (W : Int))
  p1 : wr.cell? ⟨P, 1, none⟩ = some (.int .i64 (H : Int))
  p2 : wr.cell? ⟨P, 2, none⟩ = some (.slice (some ⟨P + 1, 0, none⟩) (W * H) (W * H))
  cel : Cel wr (P + 1) xs
  len : xs.length = W * H
  hP : w.heap.size + 2 ≤ P
  below : Below w.heap.size w wr
theorem RS.set {w wr : World} {P W H : Nat} {xs : List Int} (h : RS w wr P W H xs) (p : Nat) (x : Int) (hp : p < xs.length) : RS w (wr.setCell ⟨P + 1, p, none⟩ (.int .i64 x)) P W H (xs.set p x) := by
  have hP := h.hP
  refine ⟨h.res.block (Below.heap_setCell _ _ _ _ (by simp; omega)), h.non.block (Below.heap_setCell _ _ _ _ (by simp; omega)), ?_, ?_, ?_, h.cel.set p x hp, by rw [List.length_set]; exact h.len, hP, h.below.setCell (by simp; omega) _⟩
  · exact (World.cell?_of_block (w := wr) (a := ⟨P, 0, none⟩) (Below.heap_setCell _ _ _ _ (by simp))).trans h.p0
  · exact (World.cell?_of_block (w := wr) (a := ⟨P, 1, none⟩) (Below.heap_setCell _ _ _ _ (by simp))).trans h.p1
  · exact (World.cell?_of_block (w := wr) (a := ⟨P, 2, none⟩) (Below.heap_setCell _ _ _ _ (by simp))).trans h.p2

def zeros (xs : List Int) (p : Nat) : Prop := ∀ q, p ≤ q → xs.getD q 0 = 0
theorem zeros_mono {xs : List Int} {p p' : Nat} (h : zeros xs p) (hp : p ≤ p') : zeros xs p' := fun q hq => h q (by omega)
theorem zeros_replicate (n p : Nat) : zeros (List.replicate n 0) p := fun q _ => by
  simp [List.getD, List.getElem?_replicate]
  split <;> rfl
theorem setRun_zero {xs : List Int} {p : Nat} (h : zeros xs p) (n : Nat) : setRun xs p n 0 = xs := by
  induction n with
  | zero => rfl
  | succ n ih =>
    rw [setRun, ih]
    have := h (p + n) (by omega)
    apply List.ext_getElem?
    intro k
    rw [List.getElem?_set]
    split
    · rename_i e
      subst e
      split
      · rename_i hl
        simp [List.getD, hl] at this
        simp [this, hl]
      · rename_i hl
        rw [List.getElem?_eq_none (by omega)]
    · rfl
theorem setRun_zeros {xs : List Int} {p : Nat} (v : Int) : ∀ n, zeros xs (p + n) → zeros (setRun xs p n v) (p + n) := by
  intro n h q hq
  have : ∀ m, m ≤ n → (setRun xs p m v).getD q 0 = xs.getD q 0 := by
    intro m hm
    induction m with
    | zero => rfl
    | succ m ih =>
      rw [setRun]
      rw [← ih (by omega)]
      simp only [List.getD]
      rw [List.getElem?_set_ne (by omega)]
  rw [this n (Nat.le_refl _)]
  exact h q hq

def RefRuns (s : ByteArray) (w : World) (e : Ending) (w' : World) : Prop :=
  Below w.heap.size w w' ∧
  ((∃ W H xs g, runsS s = .inl (W, H, xs) ∧ e = .returned (.tuple #[.agg #[.int .i64 (W : Int), .int .i64 (H : Int), .slice (some ⟨g, 0, none⟩) (W * H) (W * H)], .int .i64 0, .int .i64 0]) ∧ Cel w' g xs ∧ xs.length = W * H ∧ W ≤ 100 ∧ H ≤ 100) ∨
   (∃ a f : Nat, runsS s = .inr (a, f) ∧ 1 ≤ f ∧ e = .returned (.tuple #[.agg #[.int .i64 0, .int .i64 0, .slice none 0 0], .int .i64 (a : Int), .int .i64 (f : Int)])))

/-- The result's block, written. -/
theorem fin_below {w wr : World} (hb : Below w.heap.size w wr) (a b c : Value) : Below w.heap.size w (((wr.setCell ⟨w.heap.size, 0, none⟩ a).setCell ⟨w.heap.size, 1, none⟩ b).setCell ⟨w.heap.size, 2, none⟩ c) :=
  ((hb.setCell (Nat.le_refl _) _).setCell (Nat.le_refl _) _).setCell (Nat.le_refl _) _
theorem fin_cel {w wr : World} {g : Nat} {xs : List Int} (h : Cel wr g xs) (hg : g ≠ w.heap.size) (a b c : Value) : Cel (((wr.setCell ⟨w.heap.size, 0, none⟩ a).setCell ⟨w.heap.size, 1, none⟩ b).setCell ⟨w.heap.size, 2, none⟩ c) g xs :=
  ((h.rd ((Rd.refl w.heap.size _).set 0 _) hg).rd ((Rd.refl w.heap.size _).set 1 _) hg).rd ((Rd.refl w.heap.size _).set 2 _) hg
theorem res_new (w : World) (t : TypeId) : ResB w.heap.size (w.alloc (.cells #[.int .i64 0, .int .i64 0, .slice none 0 0] t)) :=
  ⟨cell_new_at _ _ _ _, cell_new_at _ _ _ _, cell_new_at _ _ _ _, by simp, by simp, by simp⟩
theorem RS.start {w w1 : World} {W H : Nat} (t1 t2 t3 t4 : TypeId) (hW : W ≤ 100) (hH : H ≤ 100)
    (hb : Below (w.heap.size + 2) ((w.alloc (.cells #[.int .i64 0, .int .i64 0, .slice none 0 0] t1)).alloc (.cells #[.int .i64 0, .int .i64 0, .slice none 0 0] t2)) w1) (N : Nat) (hN : W * H = N) :
    RS w ((w1.alloc (.cells #[.int .i64 (W : Int), .int .i64 (H : Int), .slice (some ⟨w1.heap.size + 1, 0, none⟩) N N] t3)).alloc (.cells (madeCells #[.int .i64 0] N) t4)) w1.heap.size W H (List.replicate N 0) := by
  subst hN
  have z := hb.size
  simp at z
  have r0 := (res_new w t1).block (w' := (w.alloc (.cells #[.int .i64 0, .int .i64 0, .slice none 0 0] t1)).alloc (.cells #[.int .i64 0, .int .i64 0, .slice none 0 0] t2)) (Below.heap_alloc _ _ _ (by simp))
  have r1 := res_new (w.alloc (.cells #[.int .i64 0, .int .i64 0, .slice none 0 0] t1)) t2
  rw [show (w.alloc (.cells #[.int .i64 0, .int .i64 0, .slice none 0 0] t1)).heap.size = w.heap.size + 1 by simp] at r1
  have e : ∀ k, k < w1.heap.size → ((w1.alloc (.cells #[.int .i64 (W : Int), .int .i64 (H : Int), .slice (some ⟨w1.heap.size + 1, 0, none⟩) (W * H) (W * H)] t3)).alloc (.cells (madeCells #[.int .i64 0] (W * H)) t4)).heap[k]? = w1.heap[k]? := fun k hk =>
    (Below.heap_alloc _ _ _ (by simp; omega)).trans (Below.heap_alloc _ _ _ hk)
  refine ⟨(r0.block (hb.block _ (by omega))).block (e _ (by omega)), (r1.block (hb.block _ (by omega))).block (e _ (by omega)), ?_, ?_, ?_, ⟨by simp, fun k hk => ?_, fun k => by simp⟩, by simp, z, ?_⟩
  · rw [World.cell?_alloc_past _ _ _ (by simp), World.cell?_alloc_at _ _ _ _ rfl]; rfl
  · rw [World.cell?_alloc_past _ _ _ (by simp), World.cell?_alloc_at _ _ _ _ rfl]; rfl
  · rw [World.cell?_alloc_past _ _ _ (by simp), World.cell?_alloc_at _ _ _ _ rfl]; rfl
  · rw [World.cell?_alloc_at _ _ _ _ (by simp)]
    rw [List.length_replicate] at hk
    rw [show (List.replicate (W * H) (0 : Int)).getD k 0 = 0 by simp [List.getD, hk]]
    rw [← Array.getElem?_toList, toList_madeCells_one]
    simp [hk]
  · exact (((((Below.refl _ _).alloc (Nat.le_refl _) _).alloc (by simp) _).trans (hb.mono (by omega))).alloc (by omega) _).alloc (by simp; omega) _
end Go.Proofs.YtjngjnkecnnmeaaDoor

namespace Go.Proofs.YtjngjnkecnnmeaaDoor
open Go.RowKit
set_option linter.unusedVariables false

theorem drawF_fuel (s : ByteArray) : ∀ f f' i r n W H xs, i ≤ s.size → s.size + 1 - i ≤ f → s.size + 1 - i ≤ f' → drawF s f i r n W H xs = drawF s f' i r n W H xs := by
  intro f
  induction f with
  | zero => intro f' i r n W H xs h1 h2; omega
  | succ f ih =>
    intro f' i r n W H xs h1 h2 h3
    obtain ⟨f'', rfl⟩ : ∃ f'', f' = f'' + 1 := ⟨f' - 1, by omega⟩
    simp only [drawF]
    split
    · rfl
    split
    · rename_i hd
      have := isDot_true.1 hd
      split
      · rfl
      split
      · rfl
      exact ih f'' _ _ _ _ _ _ (by omega) (by omega) (by omega)
    split
    · rename_i hd
      have := isBall_true.1 hd
      split
      · rfl
      split
      · rfl
      exact ih f'' _ _ _ _ _ _ (by omega) (by omega) (by omega)
    split
    · rfl
    split
    · rfl
    split
    · rfl
    exact ih f'' _ _ _ _ _ _ (by omega) (by omega) (by omega)

theorem drawF_end {s : ByteArray} {i r n W H : Nat} {xs : List Int} (hi : i = s.size) : drawF s (s.size + 1 - i) i r n W H xs = if r < s.size then .inr (s.size, 2) else .inl (W, H, xs) := by
  rw [show s.size + 1 - i = 0 + 1 by omega, drawF, if_pos (by omega)]
theorem drawF_dot {s : ByteArray} {i r n W H : Nat} {xs : List Int} (hi : i < s.size) (h : isDot s i = true) : drawF s (s.size + 1 - i) i r n W H xs = if H = 100 then .inr (r, 1) else if n = 100 then .inr (i, 1) else drawF s (s.size + 1 - (i + 2)) (i + 2) r (n + 1) W H (xs ++ [0]) := by
  have := isDot_true.1 h
  rw [show s.size + 1 - i = (s.size - i) + 1 by omega, drawF, if_neg (by omega), if_pos h]
  split
  · rfl
  split
  · rfl
  exact drawF_fuel s _ _ _ _ _ _ _ _ (by omega) (by omega) (by omega)
theorem drawF_ball {s : ByteArray} {i r n W H : Nat} {xs : List Int} (hi : i < s.size) (h0 : isDot s i = false) (h : isBall s i = true) : drawF s (s.size + 1 - i) i r n W H xs = if H = 100 then .inr (r, 1) else if n = 100 then .inr (i, 1) else drawF s (s.size + 1 - (i + 3)) (i + 3) r (n + 1) W H (xs ++ [1]) := by
  have := isBall_true.1 h
  rw [show s.size + 1 - i = (s.size - i) + 1 by omega, drawF, if_neg (by omega), if_neg (by rw [h0]; simp), if_pos h]
  split
  · rfl
  split
  · rfl
  exact drawF_fuel s _ _ _ _ _ _ _ _ (by omega) (by omega) (by omega)
theorem drawF_none {s : ByteArray} {i r n W H : Nat} {xs : List Int} (hi : i < s.size) (h0 : isDot s i = false) (h1 : isBall s i = false) (h2 : ¬ bt s i = 10) : drawF s (s.size + 1 - i) i r n W H xs = .inr (i, 2) := by
  rw [show s.size + 1 - i = (s.size - i) + 1 by omega, drawF, if_neg (by omega), if_neg (by rw [h0]; simp), if_neg (by rw [h1]; simp), if_pos h2]
theorem ten_no {s : ByteArray} {i : Nat} (h : bt s i = 10) : isDot s i = false ∧ isBall s i = false := by
  constructor
  · cases hd : isDot s i with
    | false => rfl
    | true => have := isDot_true.1 hd; omega
  · cases hd : isBall s i with
    | false => rfl
    | true => have := isBall_true.1 hd; omega
theorem dot_ball {s : ByteArray} {i : Nat} (h : isBall s i = true) : isDot s i = false := by
  cases hd : isDot s i with
  | false => rfl
  | true => have := isDot_true.1 hd; have := isBall_true.1 h; omega
theorem drawF_ten {s : ByteArray} {i r n W H : Nat} {xs : List Int} (hi : i < s.size) (h : bt s i = 10) : drawF s (s.size + 1 - i) i r n W H xs = if H = 100 then .inr (r, 1) else if 0 < H ∧ n ≠ W then .inr (r, 3) else drawF s (s.size + 1 - (i + 1)) (i + 1) (i + 1) 0 n (H + 1) xs := by
  obtain ⟨h0, h1⟩ := ten_no h
  rw [show s.size + 1 - i = (s.size - i) + 1 by omega, drawF, if_neg (by omega), if_neg (by rw [h0]; simp), if_neg (by rw [h1]; simp), if_neg (by simp [h])]
  split
  · rfl
  split
  · rfl
  exact drawF_fuel s _ _ _ _ _ _ _ _ (by omega) (by omega) (by omega)

theorem ownsRow_from {w w' : World} {base : Nat} {e : TypeId} {v : Value} {n : Nat} {xs : List Value} (h : w.ownsRow base e 1 v n xs) (hb : ∀ k, base ≤ k → k < w.heap.size → w'.heap[k]? = w.heap[k]?) : w'.ownsRow base e 1 v n xs := by
  refine ⟨h.1, ?_⟩
  rcases h.2 with h0 | ⟨g, cap, cur, hv, hg, hh, rest⟩
  · exact Or.inl h0
  · exact Or.inr ⟨g, cap, cur, hv, hg, (hb g hg (Array.getElem?_eq_some_iff.1 hh).1).trans hh, rest⟩

/-- What holds of the numbers between two rounds. -/
structure DNum (s : ByteArray) (i r n W H : Nat) (xs : List Int) : Prop where
  li : i ≤ s.size
  lH : H ≤ 100
  ln : n ≤ 100
  lW : W ≤ 100
  len : xs.length = H * W + n
  top : H = 100 → n = 0
  row : n = 0 → r = i
  lr : r ≤ i
  eq : drawF s (s.size + 1 - i) i r n W H xs = drawS s
theorem DNum.cell {s : ByteArray} {i r n W H : Nat} {xs : List Int} (h : DNum s i r n W H xs) (j : Nat) (x : Int) (hj : j ≤ s.size) (hij : i ≤ j) (hH : ¬ H = 100) (hn : ¬ n = 100) (e : drawF s (s.size + 1 - i) i r n W H xs = drawF s (s.size + 1 - j) j r (n + 1) W H (xs ++ [x])) : DNum s j r (n + 1) W H (xs ++ [x]) :=
  ⟨hj, h.lH, by have := h.ln; omega, h.lW, by have := h.len; simp; omega, fun q => absurd q hH, fun q => by omega, Nat.le_trans h.lr hij, e.symm.trans h.eq⟩
theorem DNum.ten {s : ByteArray} {i r n W H : Nat} {xs : List Int} (h : DNum s i r n W H xs) (hi : i < s.size) (hH : ¬ H = 100) (hn : ¬ (0 < H ∧ n ≠ W)) (hb : bt s i = 10) : DNum s (i + 1) (i + 1) 0 n (H + 1) xs := by
  refine ⟨by omega, by have := h.lH; omega, by omega, h.ln, ?_, fun _ => rfl, fun _ => rfl, Nat.le_refl _, ?_⟩
  · have := h.len
    by_cases q : H = 0
    · subst q; simp at this ⊢; omega
    · have : n = W := by
        rcases Nat.decEq n W with e | e
        · exact absurd ⟨by omega, e⟩ hn
        · exact e
      subst this
      rw [Nat.add_mul]; omega
  · rw [← h.eq, drawF_ten hi hb, if_neg hH, if_neg hn]
theorem DNum.small {s : ByteArray} {i r n W H : Nat} {xs : List Int} (h : DNum s i r n W H xs) (hH : ¬ H = 100) : xs.length ≤ 10000 := by
  have h1 := h.lH
  have h2 : H * W ≤ 99 * 100 := Nat.mul_le_mul (by omega) h.lW
  have h3 := h.len
  have h4 := h.ln
  omega
theorem DNum.all {s : ByteArray} {i r n W H : Nat} {xs : List Int} (h : DNum s i r n W H xs) : xs.length ≤ 10100 := by
  have h2 : H * W ≤ 100 * 100 := Nat.mul_le_mul h.lH h.lW
  have h3 := h.len
  have h4 := h.ln
  omega
theorem DNum.start (s : ByteArray) (hs : s.size ≤ 40000) : DNum s 0 0 0 0 0 [] :=
  ⟨by omega, by omega, by omega, by omega, by simp, by omega, by omega, by omega, by unfold drawS; rw [if_neg (by omega)]; rfl⟩

/-- pattern.ParseDraw's memory between two rounds: the result's block, the drawing's, the iterator's. -/
structure DS (s : ByteArray) (w wr : World) (i r n W H : Nat) (v : Value) (xs : List Int) : Prop where
  it : wr.heap[w.heap.size + 2]? = some (.stringIter s i)
  dat : DAt (w.heap.size + 1) W H v r n wr
  own : wr.ownsRow (w.heap.size + 3) 3 1 v xs.length (xs.map fun x => .int .i64 x)
  res : ResB w.heap.size wr
  below : Below w.heap.size w wr
theorem DS.sz {s : ByteArray} {w wr : World} {i r n W H : Nat} {v : Value} {xs : List Int} (h : DS s w wr i r n W H v xs) : w.heap.size + 3 ≤ wr.heap.size := (Array.getElem?_eq_some_iff.1 h.it).1
theorem DS.iter {s : ByteArray} {w wr : World} {i r n W H : Nat} {v : Value} {xs : List Int} (h : DS s w wr i r n W H v xs) (j : Nat) : DS s w (wr.iterAt (w.heap.size + 2) s j) j r n W H v xs := by
  refine ⟨Lib.iterAt_heap _ _ _ i _ h.it, h.dat.block (Lib.iterAt_other _ _ _ _ _ (by omega)), ownsRow_from h.own fun k hk _ => Lib.iterAt_other _ _ _ _ _ (by omega), h.res.block (Lib.iterAt_other _ _ _ _ _ (by omega)), Lib.below_iterAt h.below (by omega) _ _⟩
theorem DS.rd {s : ByteArray} {w wr w' : World} {i r n W H r' n' W' H' : Nat} {v : Value} {xs : List Int} (h : DS s w wr i r n W H v xs) (hr : Rd (w.heap.size + 1) wr w') (hd : DAt (w.heap.size + 1) W' H' v r' n' w') : DS s w w' i r' n' W' H' v xs := by
  have hz := h.sz
  exact ⟨(hr.block _ (by omega) (by omega)).trans h.it, hd, ownsRow_from h.own fun k hk hl => hr.block k hl (by omega), h.res.block (hr.block _ (by omega) (by omega)), h.below.trans (hr.below (by omega) (by omega))⟩
theorem DS.push {s : ByteArray} {w wr w' : World} {i r n W H : Nat} {v v' : Value} {xs : List Int} {x : Int} (h : DS s w wr i r n W H v xs) (hr : DRd (w.heap.size + 1) (w.heap.size + 3) wr w') (hd : DAt (w.heap.size + 1) W H v' r (n + 1) w') (ho : w'.ownsRow (w.heap.size + 3) 3 1 v' (xs ++ [x]).length ((xs ++ [x]).map fun x => .int .i64 x)) : DS s w w' i r (n + 1) W H v' (xs ++ [x]) := by
  have hz := h.sz
  exact ⟨(hr.block _ (by omega) (by omega)).trans h.it, hd, ho, h.res.block (hr.block _ (by omega) (by omega)), h.below.trans ⟨hr.os, hr.tape, hr.output, hr.size, fun k hk => hr.block k (by omega) (by omega)⟩⟩
theorem DS.pos {s : ByteArray} {w wr : World} {i r n W H : Nat} {v : Value} {xs : List Int} (h : DS s w wr i r n W H v xs) : wr.iterPos (w.heap.size + 2) = i := by
  unfold World.iterPos; rw [h.it]

theorem fresh_own {w0 w : World} {base : Nat} {e : TypeId} {v : Value} {n : Nat} {xs : List Value} (h : w.ownsRow base e 1 v n xs) (hb : w0.heap.size ≤ base) : Fresh w0 v := fun g k c hv => by
  have := ownsRow_block h g (by rw [hv]; rfl)
  omega

def DrawPost (s : ByteArray) (w : World) (e : Ending) (w' : World) : Prop :=
  Below w.heap.size w w' ∧
  ((∃ (W H : Nat) (xs : List Int) (v : Value), drawS s = .inl (W, H, xs) ∧ e = .returned (.tuple #[.agg #[.int .i64 (W : Int), .int .i64 (H : Int), v], .int .i64 0, .nilIface]) ∧ Tab w' v xs ∧ xs.length ≤ 10100 ∧ Fresh w v) ∨
   (∃ a f : Nat, drawS s = .inr (a, f) ∧ e = .returned (.tuple #[.agg #[.int .i64 0, .int .i64 0, .slice none 0 0], .int .i64 (a : Int), .iface 87 (.int .i64 (f : Int))])))
end Go.Proofs.YtjngjnkecnnmeaaDoor

