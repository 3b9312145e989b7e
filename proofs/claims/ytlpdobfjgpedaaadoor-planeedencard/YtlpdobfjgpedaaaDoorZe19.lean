/-
  What the last text of this claim leans on, part 19: Da3, Wd1, Wd2, We1, Wf1.
-/
import Derived.Test.YtlpdobfjgpedaaaDoorZe18
import Derived.Test.YtlpdobfjgpedaaaDoorZe17
import Derived.Lib.OthersKept
import Derived.Laws.CopyOwn
namespace Go.Proofs.YtlpdobfjgpedaaaDoor
open Go.RowKit
set_option linter.unusedVariables false

theorem drawF_fuel (s : ByteArray) : ∀ f f' i r n W H xs, i ≤ s.size → s.size + 1 - i ≤ f → s.size + 1 - i ≤ f' → drawF s f i r n W H xs = drawF s f' i r n W H xs := by
  intro f
  induction f with
  | zero => intro f' i r n W H xs h1 h2; omega
  | succ f ih =>
    intro f' i r n W H xs h1 h2 h3
    obtain ⟨f'', rfl⟩ : ∃ f'', f' = f'' + 1 := ⟨f' - 1, by omega⟩
    simp only [drawF]
    split
    · rfl
    split
    · rename_i hd
      have := isDot_true.1 hd
      split
      · rfl
      split
      · rfl
      exact ih f'' _ _ _ _ _ _ (by omega) (by omega) (by omega)
    split
    · rename_i hd
      have := isBall_true.1 hd
      split
      · rfl
      split
      · rfl
      exact ih f'' _ _ _ _ _ _ (by omega) (by omega) (by omega)
    split
    · rfl
    split
    · rfl
    split
    · rfl
    exact ih f'' _ _ _ _ _ _ (by omega) (by omega) (by omega)

theorem drawF_end {s : ByteArray} {i r n W H : Nat} {xs : List Int} (hi : i = s.size) : drawF s (s.size + 1 - i) i r n W H xs = if r < s.size then .inr (s.size, 2) else .inl (W, H, xs) := by
  rw [show s.size + 1 - i = 0 + 1 by omega, drawF, if_pos (by omega)]
theorem drawF_dot {s : ByteArray} {i r n W H : Nat} {xs : List Int} (hi : i < s.size) (h : isDot s i = true) : drawF s (s.size + 1 - i) i r n W H xs = if H = 100 then .inr (r, 1) else if n = 100 then .inr (i, 1) else drawF s (s.size + 1 - (i + 2)) (i + 2) r (n + 1) W H (xs ++ [0]) := by
  have := isDot_true.1 h
  rw [show s.size + 1 - i = (s.size - i) + 1 by omega, drawF, if_neg (by omega), if_pos h]
  split
  · rfl
  split
  · rfl
  exact drawF_fuel s _ _ _ _ _ _ _ _ (by omega) (by omega) (by omega)
theorem drawF_ball {s : ByteArray} {i r n W H : Nat} {xs : List Int} (hi : i < s.size) (h0 : isDot s i = false) (h : isBall s i = true) : drawF s (s.size + 1 - i) i r n W H xs = if H = 100 then .inr (r, 1) else if n = 100 then .inr (i, 1) else drawF s (s.size + 1 - (i + 3)) (i + 3) r (n + 1) W H (xs ++ [1]) := by
  have := isBall_true.1 h
  rw [show s.size + 1 - i = (s.size - i) + 1 by omega, drawF, if_neg (by omega), if_neg (by rw [h0]; simp), if_pos h]
  split
  · rfl
  split
  · rfl
  exact drawF_fuel s _ _ _ _ _ _ _ _ (by omega) (by omega) (by omega)
theorem drawF_none {s : ByteArray} {i r n W H : Nat} {xs : List Int} (hi : i < s.size) (h0 : isDot s i = false) (h1 : isBall s i = false) (h2 : ¬ bt s i = 10) : drawF s (s.size + 1 - i) i r n W H xs = .inr (i, 2) := by
  rw [show s.size + 1 - i = (s.size - i) + 1 by omega, drawF, if_neg (by omega), if_neg (by rw [h0]; simp), if_neg (by rw [h1]; simp), if_pos h2]
theorem ten_no {s : ByteArray} {i : Nat} (h : bt s i = 10) : isDot s i = false ∧ isBall s i = false := by
  constructor
  · cases hd : isDot s i with
    | false => rfl
    | true => have := isDot_true.1 hd; omega
  · cases hd : isBall s i with
    | false => rfl
    | true => have := isBall_true.1 hd; omega
theorem dot_ball {s : ByteArray} {i : Nat} (h : isBall s i = true) : isDot s i = false := by
  cases hd : isDot s i with
  | false => rfl
  | true => have := isDot_true.1 hd; have := isBall_true.1 h; omega
theorem drawF_ten {s : ByteArray} {i r n W H : Nat} {xs : List Int} (hi : i < s.size) (h : bt s i = 10) : drawF s (s.size + 1 - i) i r n W H xs = if H = 100 then .inr (r, 1) else if 0 < H ∧ n ≠ W then .inr (r, 3) else drawF s (s.size + 1 - (i + 1)) (i + 1) (i + 1) 0 n (H + 1) xs := by
  obtain ⟨h0, h1⟩ := ten_no h
  rw [show s.size + 1 - i = (s.size - i) + 1 by omega, drawF, if_neg (by omega), if_neg (by rw [h0]; simp), if_neg (by rw [h1]; simp), if_neg (by simp [h])]
  split
  · rfl
  split
  · rfl
  exact drawF_fuel s _ _ _ _ _ _ _ _ (by omega) (by omega) (by omega)

theorem ownsRow_from {w w' : World} {base : Nat} {e : TypeId} {v : Value} {n : Nat} {xs : List Value} (h : w.ownsRow base e 1 v n xs) (hb : ∀ k, base ≤ k → k < w.heap.size → w'.heap[k]? = w.heap[k]?) : w'.ownsRow base e 1 v n xs := by
  refine ⟨h.1, ?_⟩
  rcases h.2 with h0 | ⟨g, cap, cur, hv, hg, hh, rest⟩
  · exact Or.inl h0
  · exact Or.inr ⟨g, cap, cur, hv, hg, (hb g hg (Array.getElem?_eq_some_iff.1 hh).1).trans hh, rest⟩

/-- What holds of the numbers between two rounds. -/
structure DNum (s : ByteArray) (i r n W H : Nat) (xs : List Int) : Prop where
  li : i ≤ s.size
  lH : H ≤ 100
  ln : n ≤ 100
  lW : W ≤ 100
  len : xs.length = H * W + n
  top : H = 100 → n = 0
  row : n = 0 → r = i
  lr : r ≤ i
  eq : drawF s (s.size + 1 - i) i r n W H xs = drawS s
theorem DNum.cell {s : ByteArray} {i r n W H : Nat} {xs : List Int} (h : DNum s i r n W H xs) (j : Nat) (x : Int) (hj : j ≤ s.size) (hij : i ≤ j) (hH : ¬ H = 100) (hn : ¬ n = 100) (e : drawF s (s.size + 1 - i) i r n W H xs = drawF s (s.size + 1 - j) j r (n + 1) W H (xs ++ [x])) : DNum s j r (n + 1) W H (xs ++ [x]) :=
  ⟨hj, h.lH, by have := h.ln; omega, h.lW, by have := h.len; simp; omega, fun q => absurd q hH, fun q => by omega, Nat.le_trans h.lr hij, e.symm.trans h.eq⟩
theorem DNum.ten {s : ByteArray} {i r n W H : Nat} {xs : List Int} (h : DNum s i r n W H xs) (hi : i < s.size) (hH : ¬ H = 100) (hn : ¬ (0 < H ∧ n ≠ W)) (hb : bt s i = 10) : DNum s (i + 1) (i + 1) 0 n (H + 1) xs := by
  refine ⟨by omega, by have := h.lH; omega, by omega, h.ln, ?_, fun _ => rfl, fun _ => rfl, Nat.le_refl _, ?_⟩
  · have := h.len
    by_cases q : H = 0
    · subst q; simp at this ⊢; omega
    · have : n = W := by
        rcases Nat.decEq n W with e | e
        · exact absurd ⟨by omega, e⟩ hn
        · exact e
      subst this
      rw [Nat.add_mul]; omega
  · rw [← h.eq, drawF_ten hi hb, if_neg hH, if_neg hn]
theorem DNum.small {s : ByteArray} {i r n W H : Nat} {xs : List Int} (h : DNum s i r n W H xs) (hH : ¬ H = 100) : xs.length ≤ 10000 := by
  have h1 := h.lH
  have h2 : H * W ≤ 99 * 100 := Nat.mul_le_mul (by omega) h.lW
  have h3 := h.len
  have h4 := h.ln
  omega
theorem DNum.all {s : ByteArray} {i r n W H : Nat} {xs : List Int} (h : DNum s i r n W H xs) : xs.length ≤ 10100 := by
  have h2 : H * W ≤ 100 * 100 := Nat.mul_le_mul h.lH h.lW
  have h3 := h.len
  have h4 := h.ln
  omega
theorem DNum.start (s : ByteArray) (hs : s.size ≤ 40000) : DNum s 0 0 0 0 0 [] :=
  ⟨by omega, by omega, by omega, by omega, by simp, by omega, by omega, by omega, by unfold drawS; rw [if_neg (by omega)]; rfl⟩

/-- pattern.ParseDraw's memory between two rounds: the result's block, the drawing's, the iterator's. -/
structure DS (s : ByteArray) (w wr : World) (i r n W H : Nat) (v : Value) (xs : List Int) : Prop where
  it : wr.heap[w.heap.size + 2]? = some (.stringIter s i)
  dat : DAt (w.heap.size + 1) W H v r n wr
  own : wr.ownsRow (w.heap.size + 3) 3 1 v xs.length (xs.map fun x => .int .i64 x)
  res : ResB w.heap.size wr
  below : Below w.heap.size w wr
theorem DS.sz {s : ByteArray} {w wr : World} {i r n W H : Nat} {v : Value} {xs : List Int} (h : DS s w wr i r n W H v xs) : w.heap.size + 3 ≤ wr.heap.size := (Array.getElem?_eq_some_iff.1 h.it).1
theorem DS.iter {s : ByteArray} {w wr : World} {i r n W H : Nat} {v : Value} {xs : List Int} (h : DS s w wr i r n W H v xs) (j : Nat) : DS s w (wr.iterAt (w.heap.size + 2) s j) j r n W H v xs := by
  refine ⟨Lib.iterAt_heap _ _ _ i _ h.it, h.dat.block (Lib.iterAt_other _ _ _ _ _ (by omega)), ownsRow_from h.own fun k hk _ => Lib.iterAt_other _ _ _ _ _ (by omega), h.res.block (Lib.iterAt_other _ _ _ _ _ (by omega)), Lib.below_iterAt h.below (by omega) _ _⟩
theorem DS.rd {s : ByteArray} {w wr w' : World} {i r n W H r' n' W' H' : Nat} {v : Value} {xs : List Int} (h : DS s w wr i r n W H v xs) (hr : Rd (w.heap.size + 1) wr w') (hd : DAt (w.heap.size + 1) W' H' v r' n' w') : DS s w w' i r' n' W' H' v xs := by
  have hz := h.sz
  exact ⟨(hr.block _ (by omega) (by omega)).trans h.it, hd, ownsRow_from h.own fun k hk hl => hr.block k hl (by omega), h.res.block (hr.block _ (by omega) (by omega)), h.below.trans (hr.below (by omega) (by omega))⟩
theorem DS.push {s : ByteArray} {w wr w' : World} {i r n W H : Nat} {v v' : Value} {xs : List Int} {x : Int} (h : DS s w wr i r n W H v xs) (hr : DRd (w.heap.size + 1) (w.heap.size + 3) wr w') (hd : DAt (w.heap.size + 1) W H v' r (n + 1) w') (ho : w'.ownsRow (w.heap.size + 3) 3 1 v' (xs ++ [x]).length ((xs ++ [x]).map fun x => .int .i64 x)) : DS s w w' i r (n + 1) W H v' (xs ++ [x]) := by
  have hz := h.sz
  exact ⟨(hr.block _ (by omega) (by omega)).trans h.it, hd, ho, h.res.block (hr.block _ (by omega) (by omega)), h.below.trans ⟨hr.os, hr.tape, hr.output, hr.size, fun k hk => hr.block k (by omega) (by omega)⟩⟩
theorem DS.pos {s : ByteArray} {w wr : World} {i r n W H : Nat} {v : Value} {xs : List Int} (h : DS s w wr i r n W H v xs) : wr.iterPos (w.heap.size + 2) = i := by
  unfold World.iterPos; rw [h.it]

theorem fresh_own {w0 w : World} {base : Nat} {e : TypeId} {v : Value} {n : Nat} {xs : List Value} (h : w.ownsRow base e 1 v n xs) (hb : w0.heap.size ≤ base) : Fresh w0 v := fun g k c hv => by
  have := ownsRow_block h g (by rw [hv]; rfl)
  omega

def DrawPost (s : ByteArray) (w : World) (e : Ending) (w' : World) : Prop :=
  Below w.heap.size w w' ∧
  ((∃ (W H : Nat) (xs : List Int) (v : Value), drawS s = .inl (W, H, xs) ∧ e = .returned (.tuple #[.agg #[.int .i64 (W : Int), .int .i64 (H : Int), v], .int .i64 0, .nilIface]) ∧ Tab w' v xs ∧ xs.length ≤ 10100 ∧ Fresh w v) ∨
   (∃ a f : Nat, drawS s = .inr (a, f) ∧ e = .returned (.tuple #[.agg #[.int .i64 0, .int .i64 0, .slice none 0 0], .int .i64 (a : Int), .iface 54 (.int .i64 (f : Int))])))
end Go.Proofs.YtlpdobfjgpedaaaDoor

namespace Go.Proofs.YtlpdobfjgpedaaaDoor
open Go.RowKit
set_option linter.unusedVariables false

theorem Cel.arg {w : World} {g n c : Nat} {xs : List Int} (h : Cel w g xs) (hn : xs.length = n) (hm : n ≤ maxLen) : ArgP w xs (some ⟨g, 0, none⟩) n c := by
  subst hn
  exact ⟨rfl, hm, fun k hk => ⟨g, 0, rfl, h.lt, by rw [Nat.zero_add, h.cells k hk]; simp [List.getD, hk]⟩⟩
theorem Tab.arg {w : World} {v : Value} {xs : List Int} (h : Tab w v xs) (hm : xs.length ≤ maxLen) : ∃ a c, v = .slice a xs.length c ∧ ArgP w xs a xs.length c := by
  rcases h with ⟨h1, h2⟩ | ⟨g, cap, h1, h2, h3⟩
  · subst h1
    exact ⟨none, 0, h2, rfl, hm, fun k hk => by simp at hk⟩
  · exact ⟨some ⟨g, 0, none⟩, cap, h1, rfl, hm, fun k hk => ⟨g, 0, rfl, h2, by rw [Nat.zero_add]; exact h3 k hk⟩⟩

theorem small (p : Pat) (hp : p.ok) (h1 : p.W ≤ 100) (h2 : p.H ≤ 100) : p.xs.length ≤ 10000 := by rw [hp]; exact Nat.mul_le_mul h1 h2
/-- A slice whose block was made since, its capacity in bounds. -/
def FreshC (w : World) (v : Value) : Prop := ∀ g k c, v = .slice (some ⟨g, 0, none⟩) k c → w.heap.size ≤ g ∧ k ≤ c ∧ c ≤ maxLen
/-- The pattern in the box, as far as it is turned. -/
structure TD (w wr : World) (p : Pat) (v : Value) : Prop where
  box : TB w.heap.size (.int .i64 (p.W : Int)) (.int .i64 (p.H : Int)) v wr
  res : TB (w.heap.size + 1) (.int .i64 0) (.int .i64 0) (.slice none 0 0) wr
  tab : Tab wr v p.xs
  fresh : ∀ g k c, v = .slice (some ⟨g, 0, none⟩) k c → w.heap.size + 2 ≤ g ∧ k ≤ c ∧ c ≤ maxLen
  ok : p.ok
  lW : p.W ≤ 100
  lH : p.H ≤ 100
  below : Below w.heap.size w wr
  sz : w.heap.size + 2 ≤ wr.heap.size

theorem TB.store {p : Nat} {a b c : Value} {w : World} (h : TB p a b c w) (a' b' c' : Value) : TB p a' b' c' (((w.setCell ⟨p, 0, none⟩ a').setCell ⟨p, 1, none⟩ b').setCell ⟨p, 2, none⟩ c') :=
  ⟨cell_other (cell_other (cell_same h.c0) (by omega)) (by omega), cell_other (cell_same (cell_other h.c1 (by omega))) (by omega), cell_same (cell_other (cell_other h.c2 (by omega)) (by omega)), fun k => by rw [World.frozen?_setCell, World.frozen?_setCell, World.frozen?_setCell]; exact h.fz k⟩
theorem stored_blk (w : World) (p q : Nat) (a b c : Value) (h : q ≠ p) : (((w.setCell ⟨p, 0, none⟩ a).setCell ⟨p, 1, none⟩ b).setCell ⟨p, 2, none⟩ c).heap[q]? = w.heap[q]? :=
  (Below.heap_setCell _ _ _ _ h).trans ((Below.heap_setCell _ _ _ _ h).trans (Below.heap_setCell _ _ _ _ h))
theorem TD.next {w wr w' : World} {p : Pat} {v : Value} (h : TD w wr p v) (hb : Below wr.heap.size wr w') (q : Pat) (g : Nat) (n : Nat) (hC : Cel w' g q.xs) (hn : q.xs.length = n) (hg : wr.heap.size ≤ g) (hq : q.ok) (l1 : q.W ≤ 100) (l2 : q.H ≤ 100) :
    TD w (((w'.setCell ⟨w.heap.size, 0, none⟩ (.int .i64 (q.W : Int))).setCell ⟨w.heap.size, 1, none⟩ (.int .i64 (q.H : Int))).setCell ⟨w.heap.size, 2, none⟩ (.slice (some ⟨g, 0, none⟩) n n)) q (.slice (some ⟨g, 0, none⟩) n n) := by
  have hz := h.sz
  have hz' := hb.size
  refine ⟨(h.box.next hb).store _ _ _, (h.res.next hb).block (stored_blk _ _ _ _ _ _ (by omega)), ?_, fun g' k c e => by injection e with e1 e5 e6; injection e1 with e2; injection e2 with e3; subst e5 e6; exact ⟨by omega, Nat.le_refl _, by rw [← hn]; exact Nat.le_trans (small q hq l1 l2) (by unfold maxLen; omega)⟩, hq, l1, l2, ?_, ?_⟩
  · exact (((hC.rd ((Rd.refl w.heap.size _).set 0 _) (by omega)).rd ((Rd.refl w.heap.size _).set 1 _) (by omega)).rd ((Rd.refl w.heap.size _).set 2 _) (by omega)).tab hn
  · exact (((h.below.trans (hb.mono (by omega))).setCell (Nat.le_refl _) _).setCell (Nat.le_refl _) _).setCell (Nat.le_refl _) _
  · rw [World.size_setCell, World.size_setCell, World.size_setCell]; omega
theorem ok_qtr (p : Pat) : p.qtr.ok := qtrP_length _ _ _
theorem ok_mir (p : Pat) : p.mir.ok := mirP_length _ _ _

def TurnedPost (q : Pat) (w : World) (e : Ending) (w' : World) : Prop :=
  ∃ v, e = .returned (.agg #[.int .i64 (q.W : Int), .int .i64 (q.H : Int), v]) ∧ Tab w' v q.xs ∧ Fresh w v ∧ Below w.heap.size w w'

def TurnedPostC (q : Pat) (w : World) (e : Ending) (w' : World) : Prop :=
  ∃ v, e = .returned (.agg #[.int .i64 (q.W : Int), .int .i64 (q.H : Int), v]) ∧ Tab w' v q.xs ∧ FreshC w v ∧ Below w.heap.size w w'

theorem TD.start_nil (w : World) (W H c : Nat) (hp : Pat.ok ⟨W, H, []⟩) (l1 : W ≤ 100) (l2 : H ≤ 100) (t1 t2 : TypeId) : TD w ((w.alloc (.cells #[.int .i64 (W : Int), .int .i64 (H : Int), .slice none 0 0] t1)).alloc (.cells #[.int .i64 0, .int .i64 0, .slice none 0 0] t2)) ⟨W, H, []⟩ (.slice none 0 0) := by
  have r1 := TB.new (w.alloc (.cells #[.int .i64 (W : Int), .int .i64 (H : Int), .slice none 0 0] t1)) (.int .i64 0) (.int .i64 0) (.slice none 0 0) t2
  rw [World.size_alloc] at r1
  exact ⟨(TB.new w _ _ _ t1).alloc _, r1, Or.inl ⟨rfl, rfl⟩, fun g k c e => (by injection e with e1; cases e1), hp, l1, l2, ((Below.refl _ _).alloc (Nat.le_refl _) _).alloc (by simp) _, by simp⟩

end Go.Proofs.YtlpdobfjgpedaaaDoor

namespace Go.Proofs.YtlpdobfjgpedaaaDoor
open Go.RowKit
set_option linter.unusedVariables false

theorem TD.grown_some {w w3 : World} {b r : Obj} (hg : ((w.alloc b).alloc r).grownBy w3 none) : ∀ k, k < w.heap.size + 2 → w3.heap[k]? = ((w.alloc b).alloc r).heap[k]? := fun k hk => hg.block k (by simp; omega) (by simp)
theorem TD.mid_some {w w3 : World} {W H n c : Nat} {a : Addr} {t : TypeId} {r : Obj} (hg : ((w.alloc (.cells #[.int .i64 (W : Int), .int .i64 (H : Int), .slice (some a) n c] t)).alloc r).grownBy w3 none) : w3.cell? ⟨w.heap.size, 0, none⟩ = some (.int .i64 (W : Int)) ∧ w3.cell? ⟨w.heap.size, 1, none⟩ = some (.int .i64 (H : Int)) ∧ w3.cell? ⟨w.heap.size, 2, none⟩ = some (.slice (some a) n c) ∧ w3.frozen? ⟨w.heap.size, 2, none⟩ = false := by
  have h := ((TB.new w (.int .i64 (W : Int)) (.int .i64 (H : Int)) (.slice (some a) n c) t).alloc r).block (TD.grown_some hg _ (by omega))
  exact ⟨h.c0, h.c1, h.c2, h.fz 2⟩
theorem TD.start_some {w w3 : World} {W H c : Nat} {xs : List Int} {a : Addr} {v : Value} {t1 t2 : TypeId} (hp : Pat.ok ⟨W, H, xs⟩) (l1 : W ≤ 100) (l2 : H ≤ 100) (hg : ((w.alloc (.cells #[.int .i64 (W : Int), .int .i64 (H : Int), .slice (some a) xs.length c] t1)).alloc (.cells #[.int .i64 0, .int .i64 0, .slice none 0 0] t2)).grownBy w3 none)
    (ho : w3.ownsRow (w.heap.size + 2) 3 1 v (0 + xs.length) ([] ++ xs.map fun x => .int .i64 x)) : TD w (w3.setCell ⟨w.heap.size, 2, none⟩ v) ⟨W, H, xs⟩ v := by
  have hk := TD.grown_some hg
  have hb := ((TB.new w (.int .i64 (W : Int)) (.int .i64 (H : Int)) (.slice (some a) xs.length c) t1).alloc (.cells #[.int .i64 0, .int .i64 0, .slice none 0 0] t2)).block (hk _ (by omega))
  have r1 := TB.new (w.alloc (.cells #[.int .i64 (W : Int), .int .i64 (H : Int), .slice (some a) xs.length c] t1)) (.int .i64 0) (.int .i64 0) (.slice none 0 0) t2
  rw [World.size_alloc] at r1
  have hsz := hg.size
  simp only [World.size_alloc] at hsz
  rw [Nat.zero_add, List.nil_append] at ho
  refine ⟨⟨cell_other hb.c0 (by omega), cell_other hb.c1 (by omega), cell_same hb.c2, fun k => by rw [World.frozen?_setCell]; exact hb.fz k⟩, (r1.block (hk _ (by omega))).block (Below.heap_setCell _ _ _ _ (by simp)), ownsRow_tab (ownsRow_setCell_below ho (a := ⟨w.heap.size, 2, none⟩) (by simp) _), fun g k c e => ?_, hp, l1, l2, ?_, by rw [World.size_setCell]; omega⟩
  · rcases ho.2 with ⟨h1, -⟩ | ⟨g', cap, cur, h1, h2, -, h3, h4, -⟩
    · rw [h1] at e; cases e
    · rw [h1] at e
      injection e with e1 e2 e3
      injection e1 with e1
      injection e1 with e1
      subst e1 e2 e3
      exact ⟨h2, h3, h4⟩
  · refine Below.setCell (p := ⟨w.heap.size, 2, none⟩) ?_ (Nat.le_refl _) _
    exact (((Below.refl _ _).alloc (Nat.le_refl _) _).alloc (by simp) _).trans ⟨hg.os, hg.tape, hg.output, by simp only [World.size_alloc]; omega, fun k hkk => hk k (by omega)⟩
theorem own_form {w : World} {base : Nat} {v : Value} {xs : List Int} (h : w.ownsRow base 3 1 v (0 + xs.length) ([] ++ xs.map fun x => .int .i64 x)) : ∃ a c, v = .slice a xs.length c := by
  rw [Nat.zero_add, List.nil_append] at h
  rcases ownsRow_tab h with ⟨h1, h2⟩ | ⟨g, cap, h1, -⟩
  · subst h1; exact ⟨none, 0, h2⟩
  · exact ⟨_, cap, h1⟩
theorem TD.arg0 {w wr : World} {W H n c : Nat} {xs : List Int} {a : Option Addr} (h : TD w wr ⟨W, H, xs⟩ (.slice a n c)) : ArgP wr xs a xs.length c := by
  obtain ⟨a', c', e, ap⟩ := h.tab.arg (Nat.le_trans (small _ h.ok h.lW h.lH) (by unfold maxLen; omega))
  injection e with e1 e2 e3
  subst e1 e3
  exact ap
theorem news_arg {w : World} {xs : List Int} {a : Addr} {n c : Nat} (h : ArgP w xs (some a) n c) : ∀ (j : Nat) (u : Value), (xs.map fun x => Value.int .i64 x)[j]? = some u → w.cell? (a.add j) = some u := by
  intro j u hu
  rw [List.getElem?_map] at hu
  obtain ⟨x, hx, rfl⟩ := Option.map_eq_some_iff.1 hu
  obtain ⟨hj, he⟩ := List.getElem?_eq_some_iff.1 hx
  obtain ⟨g, off, e, hg, hc⟩ := h.cells j hj
  injection e with e1
  subst e1
  have ea : (⟨g, off, none⟩ : Addr).add j = ⟨g, off + j, none⟩ := by
    unfold Addr.add
    split
    · rename_i hz; subst hz; rfl
    · rfl
  rw [ea, hc, he]

end Go.Proofs.YtlpdobfjgpedaaaDoor

namespace Go.Proofs.YtlpdobfjgpedaaaDoor
open Go.RowKit
set_option linter.unusedVariables false

/-- The q-th cell of a window V wide that begins at l, t. -/
def winC (W l t V : Nat) (xs : List Int) (q : Nat) : Int := atP W xs (l + q % V) (t + q / V)
def winP (W l t V N : Nat) (xs : List Int) : List Int := (List.range N).map (winC W l t V xs)
/-- The row while it is filled: m cells so far. -/
def winR (W l t V N m : Nat) (xs : List Int) : List Value := (List.range N).map fun q => if q < m then .int .i64 (winC W l t V xs q) else .int .i64 0
theorem winR_length (W l t V N m : Nat) (xs : List Int) : (winR W l t V N m xs).length = N := by simp [winR]
theorem winR_zero (W l t V N : Nat) (xs : List Int) : winR W l t V N 0 xs = List.replicate N (.int .i64 0) := by
  apply List.ext_getElem (by simp [winR])
  intro i h1 h2
  simp [winR]
theorem winR_step (W l t V N y : Nat) (xs : List Int) (h : y * V + V ≤ N) : splice (winR W l t V N (y * V) xs) (y * V) ((List.range V).map fun x => Value.int .i64 (winC W l t V xs (y * V + x))) = winR W l t V N (y * V + V) xs := by
  apply List.ext_getElem?
  intro i
  unfold splice
  rw [List.getElem?_append]
  simp only [List.length_take, winR_length, List.length_map, List.length_range]
  rw [Nat.min_eq_left (by omega)]
  split
  · rename_i hi
    rw [List.getElem?_take, if_pos hi]
    simp [winR, show i < N by omega, hi, show i < y * V + V by omega]
  · rename_i hi
    rw [List.getElem?_append]
    simp only [List.length_map, List.length_range]
    split
    · rename_i hj
      simp [winR, hj, show i < N by omega, show i < y * V + V by omega, show y * V + (i - y * V) = i by omega]
    · rename_i hj
      rw [List.getElem?_drop, show y * V + V + (i - y * V - V) = i by omega]
      by_cases hN : i < N
      · simp [winR, hN, show ¬ i < y * V + V by omega, show ¬ i < y * V by omega]
      · simp [winR, hN]

theorem row_cel {w : World} {g : Nat} {xs : List Int} {t : TypeId} (h : w.heap[g]? = some (.cells (xs.map fun x => Value.int .i64 x).toArray t (0, 0))) : Cel w g xs := by
  refine ⟨(Array.getElem?_eq_some_iff.1 h).1, fun k hk => ?_, fun k => ?_⟩
  · simp [World.cell?, h, hk, List.getD]
  · simp [World.frozen?, h]
end Go.Proofs.YtlpdobfjgpedaaaDoor

namespace Go.Proofs.YtlpdobfjgpedaaaDoor
open Go.RowKit
set_option linter.unusedVariables false

/-- Of the first m cells that live: the least column and row, and behind the greatest. -/
structure Bx where
  l : Nat
  t : Nat
  r : Nat
  b : Nat
def bbx (W H : Nat) (xs : List Int) : Nat → Bx
  | 0 => ⟨W, H, 0, 0⟩
  | m + 1 => if xs.getD m 0 = 1 then ⟨min (bbx W H xs m).l (m % W), min (bbx W H xs m).t (m / W), max (bbx W H xs m).r (m % W + 1), max (bbx W H xs m).b (m / W + 1)⟩ else bbx W H xs m
theorem bbx_yes {W H m : Nat} {xs : List Int} (h : xs.getD m 0 = 1) : bbx W H xs (m + 1) = ⟨min (bbx W H xs m).l (m % W), min (bbx W H xs m).t (m / W), max (bbx W H xs m).r (m % W + 1), max (bbx W H xs m).b (m / W + 1)⟩ := by
  rw [bbx, if_pos h]
theorem bbx_no {W H m : Nat} {xs : List Int} (h : ¬ xs.getD m 0 = 1) : bbx W H xs (m + 1) = bbx W H xs m := by
  rw [bbx, if_neg h]
theorem bbx_le (W H : Nat) (xs : List Int) : ∀ m, m ≤ W * H → (bbx W H xs m).l ≤ W ∧ (bbx W H xs m).t ≤ H ∧ (bbx W H xs m).r ≤ W ∧ (bbx W H xs m).b ≤ H ∧ (((bbx W H xs m).r = 0 ∧ (bbx W H xs m).b = 0) ∨ ((bbx W H xs m).l < (bbx W H xs m).r ∧ (bbx W H xs m).t < (bbx W H xs m).b)) := by
  intro m
  induction m with
  | zero => intro _; simp [bbx]
  | succ m ih =>
    intro hm
    obtain ⟨h1, h2, h3, h4, h5⟩ := ih (by omega)
    by_cases q : xs.getD m 0 = 1
    · rw [bbx_yes q]
      obtain ⟨x, y, hx, hy, ex, ey, -⟩ := split_lt (W := W) (H := H) (i := m) (by omega)
      rw [ex, ey]
      dsimp only
      omega
    · rw [bbx_no q]; exact ⟨h1, h2, h3, h4, h5⟩

/-- Trimmed: the pattern, and what was left out to the left and above. -/
def trimP (p : Pat) : Pat × Nat × Nat :=
  let q := bbx p.W p.H p.xs (p.W * p.H)
  if q.r = 0 then (⟨0, 0, []⟩, 0, 0) else (⟨q.r - q.l, q.b - q.t, winP p.W q.l q.t (q.r - q.l) ((q.r - q.l) * (q.b - q.t)) p.xs⟩, q.l, q.t)
theorem trim_ok (p : Pat) : (trimP p).1.ok := by
  unfold trimP
  dsimp only
  split
  · rfl
  · simp [Pat.ok, winP]
theorem trim_le (p : Pat) (h1 : p.W ≤ 100) (h2 : p.H ≤ 100) : (trimP p).1.W ≤ 100 ∧ (trimP p).1.H ≤ 100 := by
  obtain ⟨a, b, c, d, -⟩ := bbx_le p.W p.H p.xs (p.W * p.H) (Nat.le_refl _)
  unfold trimP
  dsimp only
  split
  · exact ⟨Nat.zero_le _, Nat.zero_le _⟩
  · exact ⟨by dsimp only; omega, by dsimp only; omega⟩
end Go.Proofs.YtlpdobfjgpedaaaDoor

