/-
  What the last text of this claim leans on, part 18: Wd1, Wd2, We1, Wf1, Gs2, Bk7, Bk8, Bk9.
-/
import Derived.Test.YtbkllhlapdmlfaaQb16
import Derived.Test.YtbkllhlapdmlfaaQb17
import Derived.Test.YtbkllhlapdmlfaaQb14
import Derived.Test.YtbkllhlapdmlfaaQb2
import Derived.Test.YtbkllhlapdmlfaaQb11
import Derived.Laws.CopyOwn
import Derived.Deep.AppendLies
import Derived.Deep.RegionLaw
import Derived.Deep.CutRange
namespace Go.Proofs.Ytbkllhlapdmlfaa
open Go.RowKit
set_option linter.unusedVariables false

theorem Cel.arg {w : World} {g n c : Nat} {xs : List Int} (h : Cel w g xs) (hn : xs.length = n) (hm : n ≤ maxLen) : ArgP w xs (some ⟨g, 0, none⟩) n c := by
  subst hn
  exact ⟨rfl, hm, fun k hk => ⟨g, 0, rfl, h.lt, by rw [Nat.zero_add, h.cells k hk]; simp [List.getD, hk]⟩⟩
theorem Tab.arg {w : World} {v : Value} {xs : List Int} (h : Tab w v xs) (hm : xs.length ≤ maxLen) : ∃ a c, v = .slice a xs.length c ∧ ArgP w xs a xs.length c := by
  rcases h with ⟨h1, h2⟩ | ⟨g, cap, h1, h2, h3⟩
  · subst h1
    exact ⟨none, 0, h2, rfl, hm, fun k hk => by simp at hk⟩
  · exact ⟨some ⟨g, 0, none⟩, cap, h1, rfl, hm, fun k hk => ⟨g, 0, rfl, h2, by rw [Nat.zero_add]; exact h3 k hk⟩⟩

theorem small (p : Pat) (hp : p.ok) (h1 : p.W ≤ 100) (h2 : p.H ≤ 100) : p.xs.length ≤ 10000 := by rw [hp]; exact Nat.mul_le_mul h1 h2
/-- A slice whose block was made since, its capacity in bounds. -/
def FreshC (w : World) (v : Value) : Prop := ∀ g k c, v = .slice (some ⟨g, 0, none⟩) k c → w.heap.size ≤ g ∧ k ≤ c ∧ c ≤ maxLen
/-- The pattern in the box, as far as it is turned. -/
structure TD (w wr : World) (p : Pat) (v : Value) : Prop where
  box : TB w.heap.size (.int .i64 (p.W : Int)) (.int .i64 (p.H : Int)) v wr
  res : TB (w.heap.size + 1) (.int .i64 0) (.int .i64 0) (.slice none 0 0) wr
  tab : Tab wr v p.xs
  fresh : ∀ g k c, v = .slice (some ⟨g, 0, none⟩) k c → w.heap.size + 2 ≤ g ∧ k ≤ c ∧ c ≤ maxLen
  ok : p.ok
  lW : p.W ≤ 100
  lH : p.H ≤ 100
  below : Below w.heap.size w wr
  sz : w.heap.size + 2 ≤ wr.heap.size

theorem TB.store {p : Nat} {a b c : Value} {w : World} (h : TB p a b c w) (a' b' c' : Value) : TB p a' b' c' (((w.setCell ⟨p, 0, none⟩ a').setCell ⟨p, 1, none⟩ b').setCell ⟨p, 2, none⟩ c') :=
  ⟨cell_other (cell_other (cell_same h.c0) (by omega)) (by omega), cell_other (cell_same (cell_other h.c1 (by omega))) (by omega), cell_same (cell_other (cell_other h.c2 (by omega)) (by omega)), fun k => by rw [World.frozen?_setCell, World.frozen?_setCell, World.frozen?_setCell]; exact h.fz k⟩
theorem stored_blk (w : World) (p q : Nat) (a b c : Value) (h : q ≠ p) : (((w.setCell ⟨p, 0, none⟩ a).setCell ⟨p, 1, none⟩ b).setCell ⟨p, 2, none⟩ c).heap[q]? = w.heap[q]? :=
  (Below.heap_setCell _ _ _ _ h).trans ((Below.heap_setCell _ _ _ _ h).trans (Below.heap_setCell _ _ _ _ h))
theorem TD.next {w wr w' : World} {p : Pat} {v : Value} (h : TD w wr p v) (hb : Below wr.heap.size wr w') (q : Pat) (g : Nat) (n : Nat) (hC : Cel w' g q.xs) (hn : q.xs.length = n) (hg : wr.heap.size ≤ g) (hq : q.ok) (l1 : q.W ≤ 100) (l2 : q.H ≤ 100) :
    TD w (((w'.setCell ⟨w.heap.size, 0, none⟩ (.int .i64 (q.W : Int))).setCell ⟨w.heap.size, 1, none⟩ (.int .i64 (q.H : Int))).setCell ⟨w.heap.size, 2, none⟩ (.slice (some ⟨g, 0, none⟩) n n)) q (.slice (some ⟨g, 0, none⟩) n n) := by
  have hz := h.sz
  have hz' := hb.size
  refine ⟨(h.box.next hb).store _ _ _, (h.res.next hb).block (stored_blk _ _ _ _ _ _ (by omega)), ?_, fun g' k c e => by injection e with e1 e5 e6; injection e1 with e2; injection e2 with e3; subst e5 e6; exact ⟨by omega, Nat.le_refl _, by rw [← hn]; exact Nat.le_trans (small q hq l1 l2) (by unfold maxLen; omega)⟩, hq, l1, l2, ?_, ?_⟩
  · exact (((hC.rd ((Rd.refl w.heap.size _).set 0 _) (by omega)).rd ((Rd.refl w.heap.size _).set 1 _) (by omega)).rd ((Rd.refl w.heap.size _).set 2 _) (by omega)).tab hn
  · exact (((h.below.trans (hb.mono (by omega))).setCell (Nat.le_refl _) _).setCell (Nat.le_refl _) _).setCell (Nat.le_refl _) _
  · rw [World.size_setCell, World.size_setCell, World.size_setCell]; omega
theorem ok_qtr (p : Pat) : p.qtr.ok := qtrP_length _ _ _
theorem ok_mir (p : Pat) : p.mir.ok := mirP_length _ _ _

def TurnedPost (q : Pat) (w : World) (e : Ending) (w' : World) : Prop :=
  ∃ v, e = .returned (.agg #[.int .i64 (q.W : Int), .int .i64 (q.H : Int), v]) ∧ Tab w' v q.xs ∧ Fresh w v ∧ Below w.heap.size w w'

def TurnedPostC (q : Pat) (w : World) (e : Ending) (w' : World) : Prop :=
  ∃ v, e = .returned (.agg #[.int .i64 (q.W : Int), .int .i64 (q.H : Int), v]) ∧ Tab w' v q.xs ∧ FreshC w v ∧ Below w.heap.size w w'

theorem TD.start_nil (w : World) (W H c : Nat) (hp : Pat.ok ⟨W, H, []⟩) (l1 : W ≤ 100) (l2 : H ≤ 100) (t1 t2 : TypeId) : TD w ((w.alloc (.cells #[.int .i64 (W : Int), .int .i64 (H : Int), .slice none 0 0] t1)).alloc (.cells #[.int .i64 0, .int .i64 0, .slice none 0 0] t2)) ⟨W, H, []⟩ (.slice none 0 0) := by
  have r1 := TB.new (w.alloc (.cells #[.int .i64 (W : Int), .int .i64 (H : Int), .slice none 0 0] t1)) (.int .i64 0) (.int .i64 0) (.slice none 0 0) t2
  rw [World.size_alloc] at r1
  exact ⟨(TB.new w _ _ _ t1).alloc _, r1, Or.inl ⟨rfl, rfl⟩, fun g k c e => (by injection e with e1; cases e1), hp, l1, l2, ((Below.refl _ _).alloc (Nat.le_refl _) _).alloc (by simp) _, by simp⟩

end Go.Proofs.Ytbkllhlapdmlfaa

namespace Go.Proofs.Ytbkllhlapdmlfaa
open Go.RowKit
set_option linter.unusedVariables false

theorem TD.grown_some {w w3 : World} {b r : Obj} (hg : ((w.alloc b).alloc r).grownBy w3 none) : ∀ k, k < w.heap.size + 2 → w3.heap[k]? = ((w.alloc b).alloc r).heap[k]? := fun k hk => hg.block k (by simp; omega) (by simp)
theorem TD.mid_some {w w3 : World} {W H n c : Nat} {a : Addr} {t : TypeId} {r : Obj} (hg : ((w.alloc (.cells #[.int .i64 (W : Int), .int .i64 (H : Int), .slice (some a) n c] t)).alloc r).grownBy w3 none) : w3.cell? ⟨w.heap.size, 0, none⟩ = some (.int .i64 (W : Int)) ∧ w3.cell? ⟨w.heap.size, 1, none⟩ = some (.int .i64 (H : Int)) ∧ w3.cell? ⟨w.heap.size, 2, none⟩ = some (.slice (some a) n c) ∧ w3.frozen? ⟨w.heap.size, 2, none⟩ = false := by
  have h := ((TB.new w (.int .i64 (W : Int)) (.int .i64 (H : Int)) (.slice (some a) n c) t).alloc r).block (TD.grown_some hg _ (by omega))
  exact ⟨h.c0, h.c1, h.c2, h.fz 2⟩
theorem TD.start_some {w w3 : World} {W H c : Nat} {xs : List Int} {a : Addr} {v : Value} {t1 t2 : TypeId} (hp : Pat.ok ⟨W, H, xs⟩) (l1 : W ≤ 100) (l2 : H ≤ 100) (hg : ((w.alloc (.cells #[.int .i64 (W : Int), .int .i64 (H : Int), .slice (some a) xs.length c] t1)).alloc (.cells #[.int .i64 0, .int .i64 0, .slice none 0 0] t2)).grownBy w3 none)
    (ho : w3.ownsRow (w.heap.size + 2) 3 1 v (0 + xs.length) ([] ++ xs.map fun x => .int .i64 x)) : TD w (w3.setCell ⟨w.heap.size, 2, none⟩ v) ⟨W, H, xs⟩ v := by
  have hk := TD.grown_some hg
  have hb := ((TB.new w (.int .i64 (W : Int)) (.int .i64 (H : Int)) (.slice (some a) xs.length c) t1).alloc (.cells #[.int .i64 0, .int .i64 0, .slice none 0 0] t2)).block (hk _ (by omega))
  have r1 := TB.new (w.alloc (.cells #[.int .i64 (W : Int), .int .i64 (H : Int), .slice (some a) xs.length c] t1)) (.int .i64 0) (.int .i64 0) (.slice none 0 0) t2
  rw [World.size_alloc] at r1
  have hsz := hg.size
  simp only [World.size_alloc] at hsz
  rw [Nat.zero_add, List.nil_append] at ho
  refine ⟨⟨cell_other hb.c0 (by omega), cell_other hb.c1 (by omega), cell_same hb.c2, fun k => by rw [World.frozen?_setCell]; exact hb.fz k⟩, (r1.block (hk _ (by omega))).block (Below.heap_setCell _ _ _ _ (by simp)), ownsRow_tab (ownsRow_setCell_below ho (a := ⟨w.heap.size, 2, none⟩) (by simp) _), fun g k c e => ?_, hp, l1, l2, ?_, by rw [World.size_setCell]; omega⟩
  · rcases ho.2 with ⟨h1, -⟩ | ⟨g', cap, cur, h1, h2, -, h3, h4, -⟩
    · rw [h1] at e; cases e
    · rw [h1] at e
      injection e with e1 e2 e3
      injection e1 with e1
      injection e1 with e1
      subst e1 e2 e3
      exact ⟨h2, h3, h4⟩
  · refine Below.setCell (p := ⟨w.heap.size, 2, none⟩) ?_ (Nat.le_refl _) _
    exact (((Below.refl _ _).alloc (Nat.le_refl _) _).alloc (by simp) _).trans ⟨hg.os, hg.tape, hg.output, by simp only [World.size_alloc]; omega, fun k hkk => hk k (by omega)⟩
theorem own_form {w : World} {base : Nat} {v : Value} {xs : List Int} (h : w.ownsRow base 3 1 v (0 + xs.length) ([] ++ xs.map fun x => .int .i64 x)) : ∃ a c, v = .slice a xs.length c := by
  rw [Nat.zero_add, List.nil_append] at h
  rcases ownsRow_tab h with ⟨h1, h2⟩ | ⟨g, cap, h1, -⟩
  · subst h1; exact ⟨none, 0, h2⟩
  · exact ⟨_, cap, h1⟩
theorem TD.arg0 {w wr : World} {W H n c : Nat} {xs : List Int} {a : Option Addr} (h : TD w wr ⟨W, H, xs⟩ (.slice a n c)) : ArgP wr xs a xs.length c := by
  obtain ⟨a', c', e, ap⟩ := h.tab.arg (Nat.le_trans (small _ h.ok h.lW h.lH) (by unfold maxLen; omega))
  injection e with e1 e2 e3
  subst e1 e3
  exact ap
theorem news_arg {w : World} {xs : List Int} {a : Addr} {n c : Nat} (h : ArgP w xs (some a) n c) : ∀ (j : Nat) (u : Value), (xs.map fun x => Value.int .i64 x)[j]? = some u → w.cell? (a.add j) = some u := by
  intro j u hu
  rw [List.getElem?_map] at hu
  obtain ⟨x, hx, rfl⟩ := Option.map_eq_some_iff.1 hu
  obtain ⟨hj, he⟩ := List.getElem?_eq_some_iff.1 hx
  obtain ⟨g, off, e, hg, hc⟩ := h.cells j hj
  injection e with e1
  subst e1
  have ea : (⟨g, off, none⟩ : Addr).add j = ⟨g, off + j, none⟩ := by
    unfold Addr.add
    split
    · rename_i hz; subst hz; rfl
    · rfl
  rw [ea, hc, he]

end Go.Proofs.Ytbkllhlapdmlfaa

namespace Go.Proofs.Ytbkllhlapdmlfaa
open Go.RowKit
set_option linter.unusedVariables false

/-- The q-th cell of a window V wide that begins at l, t. -/
def winC (W l t V : Nat) (xs : List Int) (q : Nat) : Int := atP W xs (l + q % V) (t + q / V)
def winP (W l t V N : Nat) (xs : List Int) : List Int := (List.range N).map (winC W l t V xs)
/-- The row while it is filled: m cells so far. -/
def winR (W l t V N m : Nat) (xs : List Int) : List Value := (List.range N).map fun q => if q < m then .int .i64 (winC W l t V xs q) else .int .i64 0
theorem winR_length (W l t V N m : Nat) (xs : List Int) : (winR W l t V N m xs).length = N := by simp [winR]
theorem winR_zero (W l t V N : Nat) (xs : List Int) : winR W l t V N 0 xs = List.replicate N (.int .i64 0) := by
  apply List.ext_getElem (by simp [winR])
  intro i h1 h2
  simp [winR]
theorem winR_step (W l t V N y : Nat) (xs : List Int) (h : y * V + V ≤ N) : splice (winR W l t V N (y * V) xs) (y * V) ((List.range V).map fun x => Value.int .i64 (winC W l t V xs (y * V + x))) = winR W l t V N (y * V + V) xs := by
  apply List.ext_getElem?
  intro i
  unfold splice
  rw [List.getElem?_append]
  simp only [List.length_take, winR_length, List.length_map, List.length_range]
  rw [Nat.min_eq_left (by omega)]
  split
  · rename_i hi
    rw [List.getElem?_take, if_pos hi]
    simp [winR, show i < N by omega, hi, show i < y * V + V by omega]
  · rename_i hi
    rw [List.getElem?_append]
    simp only [List.length_map, List.length_range]
    split
    · rename_i hj
      simp [winR, hj, show i < N by omega, show i < y * V + V by omega, show y * V + (i - y * V) = i by omega]
    · rename_i hj
      rw [List.getElem?_drop, show y * V + V + (i - y * V - V) = i by omega]
      by_cases hN : i < N
      · simp [winR, hN, show ¬ i < y * V + V by omega, show ¬ i < y * V by omega]
      · simp [winR, hN]

theorem row_cel {w : World} {g : Nat} {xs : List Int} {t : TypeId} (h : w.heap[g]? = some (.cells (xs.map fun x => Value.int .i64 x).toArray t (0, 0))) : Cel w g xs := by
  refine ⟨(Array.getElem?_eq_some_iff.1 h).1, fun k hk => ?_, fun k => ?_⟩
  · simp [World.cell?, h, hk, List.getD]
  · simp [World.frozen?, h]
end Go.Proofs.Ytbkllhlapdmlfaa

namespace Go.Proofs.Ytbkllhlapdmlfaa
open Go.RowKit
set_option linter.unusedVariables false

/-- Of the first m cells that live: the least column and row, and behind the greatest. -/
structure Bx where
  l : Nat
  t : Nat
  r : Nat
  b : Nat
def bbx (W H : Nat) (xs : List Int) : Nat → Bx
  | 0 => ⟨W, H, 0, 0⟩
  | m + 1 => if xs.getD m 0 = 1 then ⟨min (bbx W H xs m).l (m % W), min (bbx W H xs m).t (m / W), max (bbx W H xs m).r (m % W + 1), max (bbx W H xs m).b (m / W + 1)⟩ else bbx W H xs m
theorem bbx_yes {W H m : Nat} {xs : List Int} (h : xs.getD m 0 = 1) : bbx W H xs (m + 1) = ⟨min (bbx W H xs m).l (m % W), min (bbx W H xs m).t (m / W), max (bbx W H xs m).r (m % W + 1), max (bbx W H xs m).b (m / W + 1)⟩ := by
  rw [bbx, if_pos h]
theorem bbx_no {W H m : Nat} {xs : List Int} (h : ¬ xs.getD m 0 = 1) : bbx W H xs (m + 1) = bbx W H xs m := by
  rw [bbx, if_neg h]
theorem bbx_le (W H : Nat) (xs : List Int) : ∀ m, m ≤ W * H → (bbx W H xs m).l ≤ W ∧ (bbx W H xs m).t ≤ H ∧ (bbx W H xs m).r ≤ W ∧ (bbx W H xs m).b ≤ H ∧ (((bbx W H xs m).r = 0 ∧ (bbx W H xs m).b = 0) ∨ ((bbx W H xs m).l < (bbx W H xs m).r ∧ (bbx W H xs m).t < (bbx W H xs m).b)) := by
  intro m
  induction m with
  | zero => intro _; simp [bbx]
  | succ m ih =>
    intro hm
    obtain ⟨h1, h2, h3, h4, h5⟩ := ih (by omega)
    by_cases q : xs.getD m 0 = 1
    · rw [bbx_yes q]
      obtain ⟨x, y, hx, hy, ex, ey, -⟩ := split_lt (W := W) (H := H) (i := m) (by omega)
      rw [ex, ey]
      dsimp only
      omega
    · rw [bbx_no q]; exact ⟨h1, h2, h3, h4, h5⟩

/-- Trimmed: the pattern, and what was left out to the left and above. -/
def trimP (p : Pat) : Pat × Nat × Nat :=
  let q := bbx p.W p.H p.xs (p.W * p.H)
  if q.r = 0 then (⟨0, 0, []⟩, 0, 0) else (⟨q.r - q.l, q.b - q.t, winP p.W q.l q.t (q.r - q.l) ((q.r - q.l) * (q.b - q.t)) p.xs⟩, q.l, q.t)
theorem trim_ok (p : Pat) : (trimP p).1.ok := by
  unfold trimP
  dsimp only
  split
  · rfl
  · simp [Pat.ok, winP]
theorem trim_le (p : Pat) (h1 : p.W ≤ 100) (h2 : p.H ≤ 100) : (trimP p).1.W ≤ 100 ∧ (trimP p).1.H ≤ 100 := by
  obtain ⟨a, b, c, d, -⟩ := bbx_le p.W p.H p.xs (p.W * p.H) (Nat.le_refl _)
  unfold trimP
  dsimp only
  split
  · exact ⟨Nat.zero_le _, Nat.zero_le _⟩
  · exact ⟨by dsimp only; omega, by dsimp only; omega⟩
end Go.Proofs.Ytbkllhlapdmlfaa

namespace Go.Proofs.Ytbkllhlapdmlfaa
open Go.RowKit
set_option linter.unusedVariables false
theorem drew_keep {w w1 : World} {k : Nat} (h : w.heap[k]? = w1.heap[k]?) : w.drew.heap[k]? = w1.heap[k]? := h
theorem cut3P {A B C : Type} {P Φ : A → B → C → Prop} {G : Prop} (h : (∀ a b c, P a b c → Φ a b c) → G) (k : ∀ a b c, P a b c → Φ a b c) : G := h k
/-- A cell of a sheet, by its number in the pattern. -/
def patX (X : Nat → Nat) (W i : Nat) : Nat := X (i / W * 2 + i % W / 64) / 2 ^ (i % W % 64) % 2
theorem made_arr (n : Nat) : madeCells #[Value.int .i64 0] n = arrF n (fun _ => .int .i64 0) := by
  apply Array.ext'
  rw [toList_madeCells_one]
  simp [arrF, List.map_const']
end Go.Proofs.Ytbkllhlapdmlfaa

namespace Go.Proofs.Ytbkllhlapdmlfaa
open Go.RowKit
set_option linter.unusedVariables false
theorem info_intB : (Try.prog.info? 3).map (fun i => (i.zero, i.size, i.bytes)) = some (some (.int .i64 0), 1, 8) := by kernel_rfl
theorem news_intB {w : World} {xs : List Int} {ad : Addr} {n c : Nat} (hA : ArgP w xs (some ad) n c) : ∀ j u, (xs.map fun y => Value.int .i64 y)[j]? = some u → w.cell? (ad.add j) = some u := fun j u hu => by
  rw [List.getElem?_map] at hu
  rcases Nat.lt_or_ge j xs.length with h | h
  · obtain ⟨g, off, e, hg, hc⟩ := hA.cells j h
    cases e
    rw [List.getElem?_eq_getElem h] at hu
    simp at hu
    rw [show (⟨g, off, none⟩ : Addr).add j = ⟨g, off + j, none⟩ from Addr.add_mid g off j, hc, ← hu]
  · rw [List.getElem?_eq_none h] at hu; cases hu
theorem three_rowB {w : World} {g : Nat} {x0 x1 x2 : Value} {t : TypeId} (h : w.heap[g]? = some (.cells #[x0, x1, x2] t (0, 0))) (a b c : Value) :
    (((w.setCell ⟨g, 0, none⟩ a).setCell ⟨g, 1, none⟩ b).setCell ⟨g, 2, none⟩ c).heap[g]? = some (.cells #[a, b, c] t (0, 0)) := by
  have h0 : (w.setCell ⟨g, 0, none⟩ a).heap[g]? = some (.cells #[a, x1, x2] t (0, 0)) := by rw [heap_setCell_same _ _ _ _ _ _ h]; rfl
  have h1 : ((w.setCell ⟨g, 0, none⟩ a).setCell ⟨g, 1, none⟩ b).heap[g]? = some (.cells #[a, b, x2] t (0, 0)) := by rw [heap_setCell_same _ _ _ _ _ _ h0]; rfl
  rw [heap_setCell_same _ _ _ _ _ _ h1]; rfl
theorem three_oth {w : World} {g k : Nat} (hk : k ≠ g) (x0 x1 x2 : Value) : (((w.setCell ⟨g, 0, none⟩ x0).setCell ⟨g, 1, none⟩ x1).setCell ⟨g, 2, none⟩ x2).heap[k]? = w.heap[k]? := by
  rw [Below.heap_setCell _ _ _ _ (by simpa using hk), Below.heap_setCell _ _ _ _ (by simpa using hk), Below.heap_setCell _ _ _ _ (by simpa using hk)]
theorem two_oth {w : World} {g k : Nat} (hk : k ≠ g) (x0 x1 : Value) : ((w.setCell ⟨g, 0, none⟩ x0).setCell ⟨g, 1, none⟩ x1).heap[k]? = w.heap[k]? := by
  rw [Below.heap_setCell _ _ _ _ (by simpa using hk), Below.heap_setCell _ _ _ _ (by simpa using hk)]
/-- So many steps, the phases one behind another. -/
def runB (tv : Nat → Nat) (W H ph : Nat) (f : Nat → Nat) : Nat → Nat → Nat
  | 0 => f
  | i + 1 => if i % 2 = 0 then newB tv W H ph (runB tv W H ph f i) else newB tv W H (1 - ph) (runB tv W H ph f i)
theorem runB_le {tv : Nat → Nat} {W H ph : Nat} {f : Nat → Nat} (hf : ∀ i, f i ≤ 1) : ∀ i j, runB tv W H ph f i j ≤ 1
  | 0, j => hf j
  | i + 1, j => by
    rw [runB]
    split
    · exact dg_le _ _
    · exact dg_le _ _
def RunPost (W H n : Nat) (g : Nat → Nat) (w : World) (e : Ending) (w' : World) : Prop := ∃ gC cap, e = .returned (.tuple #[.agg #[.int .i64 (W : Int), .int .i64 (H : Int), .slice (some ⟨gC, 0, none⟩) n cap], .nilIface]) ∧ CA w' gC n g ∧ w.heap.size ≤ gC ∧ Below w.heap.size w w'
def RunBad (f : Nat) (w : World) (e : Ending) (w' : World) : Prop := e = .returned (.tuple #[.agg #[.int .i64 0, .int .i64 0, .slice none 0 0], errOf f]) ∧ Below w.heap.size w w'
theorem own_CA {w : World} {B g n cap : Nat} {xs : List Int} {f : Nat → Nat} (h : w.ownsRow B 3 1 (.slice (some ⟨g, 0, none⟩) (0 + n) cap) (0 + n) ([] ++ xs.map fun y => Value.int .i64 y)) (hx : xs = (List.range n).map fun i => (f i : Int)) : CA w g n f ∧ B ≤ g := by
  rcases h.2 with ⟨h0, _⟩ | ⟨g', cap', cur, hv, hbg, hg, hnc, hcm, hcs, htake⟩
  · cases h0
  · cases hv
    refine ⟨⟨cur, hg, by omega, fun k hk => ?_⟩, hbg⟩
    have e : cur.toList[k]? = (cur.toList.take ((0 + n) * 1))[k]? := by rw [List.getElem?_take_of_lt (by omega)]
    rw [htake, hx] at e
    simp [hk] at e
    simpa using e
theorem below_grownB {B : Nat} {w V U : World} {row : Option Nat} (h : Below B w V) (hg : V.drew.grownBy U row) (hr : row = none) (hB : B ≤ V.heap.size) : Below B w U := by
  subst hr
  exact ⟨hg.os.trans h.os, hg.tape.trans h.tape, hg.output.trans h.output, Nat.le_trans h.size hg.size, fun k hk => (hg.block k (Nat.lt_of_lt_of_le hk hB) (by simp)).trans (h.block k hk)⟩
structure Kp (w W V : World) : Prop where
  keep : ∀ k, k < W.heap.size → V.heap[k]? = W.heap[k]?
  size : W.heap.size ≤ V.heap.size
  below : Below w.heap.size w V
theorem Kp.drew {w W V : World} (h : Kp w W V) : Kp w W V.drew := ⟨h.keep, h.size, ⟨h.below.os, h.below.tape, h.below.output, h.below.size, h.below.block⟩⟩
theorem Kp.alloc {w W V : World} (h : Kp w W V) (o : Obj) : Kp w W (V.alloc o) := ⟨fun k hk => (Below.heap_alloc _ _ _ (Nat.lt_of_lt_of_le hk h.size)).trans (h.keep k hk), by simp; have := h.size; omega, h.below.alloc h.below.size _⟩
theorem Kp.call {w W S U : World} (h : Kp w W S) (b : Below S.heap.size S U) {g : Nat} (hg : S.heap.size ≤ g) : Kp w W U ∧ W.heap.size ≤ g := ⟨⟨fun k hk => (b.block k (Nat.lt_of_lt_of_le hk h.size)).trans (h.keep k hk), Nat.le_trans h.size b.size, h.below.trans (b.mono h.below.size)⟩, Nat.le_trans h.size hg⟩
theorem cut4P {A B C D : Type} {P Φ : A → B → C → D → Prop} {G : Prop} (h : (∀ a b c d, P a b c d → Φ a b c d) → G) (k : ∀ a b c d, P a b c d → Φ a b c d) : G := h k
end Go.Proofs.Ytbkllhlapdmlfaa

namespace Go.Proofs.Ytbkllhlapdmlfaa
open Go.RowKit
set_option linter.unusedVariables false
def backF (tv : Nat → Nat) : Nat → Nat → Nat
  | 0, _ => 0
  | i + 1, v => if v = tv i then i else backF tv i v
def takF (tv : Nat → Nat) : Nat → Nat → Bool
  | 0, _ => false
  | i + 1, v => if v = tv i then true else takF tv i v
theorem takF_iff (tv : Nat → Nat) (v : Nat) : ∀ i, takF tv i v = true ↔ ∃ j, j < i ∧ tv j = v
  | 0 => by simp [takF]
  | i + 1 => by
    rw [takF]
    by_cases h : v = tv i
    · rw [if_pos h]; simp; exact ⟨i, by omega, h.symm⟩
    · rw [if_neg h, takF_iff tv v i]
      constructor
      · rintro ⟨j, hj, e⟩; exact ⟨j, by omega, e⟩
      · rintro ⟨j, hj, e⟩
        have : j ≠ i := fun q => h (by rw [← e, q])
        exact ⟨j, by omega, e⟩
theorem backF_of {tv : Nat → Nat} {n : Nat} (h : ∀ a b, a < n → b < n → tv a = tv b → a = b) : ∀ i, i ≤ n → ∀ j, j < i → backF tv i (tv j) = j
  | 0, _, j, hj => by omega
  | i + 1, hi, j, hj => by
    rw [backF]
    by_cases e : tv j = tv i
    · rw [if_pos e]; exact (h j i (by omega) (by omega) e).symm
    · rw [if_neg e]
      have : j ≠ i := fun q => e (by rw [q])
      exact backF_of h i (by omega) j (by omega)
def BackPost (tv : Nat → Nat) (w : World) (e : Ending) (w' : World) : Prop :=
  (∃ i j, i < j ∧ j < 16 ∧ tv i = tv j ∧ e = .returned (.tuple #[.slice none 0 0, .iface 74 (.int .i64 5)]) ∧ Below w.heap.size w w') ∨
  ((∀ a b, a < 16 → b < 16 → tv a = tv b → a = b) ∧ ∃ g, e = .returned (.tuple #[.slice (some ⟨g, 0, none⟩) 16 16, .nilIface]) ∧ w.heap.size ≤ g ∧ w'.heap[g]? = some (.cells (arrF 16 (fun v => .int .i64 (backF tv 16 v : Int))) 3 (0, 0)) ∧ Below w.heap.size w w')
theorem inj_next {tv : Nat → Nat} {i : Nat} (h : ∀ a b, a < i → b < i → tv a = tv b → a = b) (n : takF tv i (tv i) = false) : ∀ a b, a < i + 1 → b < i + 1 → tv a = tv b → a = b := by
  have no : ∀ j, j < i → tv j ≠ tv i := fun j hj e => by
    have := (takF_iff tv (tv i) i).2 ⟨j, hj, e⟩
    rw [n] at this; cases this
  intro a b ha hb e
  by_cases ai : a = i
  · by_cases bi : b = i
    · omega
    · exact absurd (by rw [← e, ai]) (no b (by omega))
  · by_cases bi : b = i
    · exact absurd (by rw [e, bi]) (no a (by omega))
    · exact h a b (by omega) (by omega) e
end Go.Proofs.Ytbkllhlapdmlfaa

namespace Go.Proofs.Ytbkllhlapdmlfaa
open Go.RowKit
set_option linter.unusedVariables false
def ones4 (n : Nat) : Nat := dg n 0 + dg n 1 + dg n 2 + dg n 3
def keepB (tv : Nat → Nat) : Bool := (List.range 16).all fun j => ones4 j == ones4 (tv j)
theorem keep_true {tv : Nat → Nat} (h : ∀ j, j < 16 → ones4 j = ones4 (tv j)) : keepB tv = true := by
  unfold keepB
  rw [List.all_eq_true]
  intro j hj
  rw [h j (List.mem_range.1 hj)]; simp
theorem keep_false {tv : Nat → Nat} {i : Nat} (hi : i < 16) (h : ones4 i ≠ ones4 (tv i)) : keepB tv = false := by
  cases hk : keepB tv with
  | false => rfl
  | true =>
    unfold keepB at hk
    have := List.all_eq_true.1 hk i (List.mem_range.2 hi)
    simp at this
    exact absurd this h
def FlagPost (b : Bool) (w : World) (e : Ending) (w' : World) : Prop := e = .returned (.tuple #[.bool b, .nilIface]) ∧ Below w.heap.size w w'
end Go.Proofs.Ytbkllhlapdmlfaa

