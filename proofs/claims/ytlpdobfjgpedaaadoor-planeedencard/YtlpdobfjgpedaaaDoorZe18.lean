/-
  What the last text of this claim leans on, part 18: Wb2, Wb3, Wc1, DSpec, Da1, Da2.
-/
import Derived.Test.YtlpdobfjgpedaaaDoorZe16
import Derived.Test.YtlpdobfjgpedaaaDoorZe17
import Derived.Test.YtlpdobfjgpedaaaDoorZe9
import Derived.Test.YtlpdobfjgpedaaaDoorZe2
import Derived.Laws.RangeAny
namespace Go.Proofs.YtlpdobfjgpedaaaDoor
open Go.RowKit
set_option linter.unusedVariables false

/-- Three values in a block. -/
structure TB (p : Nat) (a b c : Value) (w : World) : Prop where
  c0 : w.cell? ⟨p, 0, none⟩ = some a
  c1 : w.cell? ⟨p, 1, none⟩ = some b
  c2 : w.cell? ⟨p, 2, none⟩ = some c
  fz : ∀ k, w.frozen? ⟨p, k, none⟩ = false
theorem TB.lt {p : Nat} {a b c : Value} {w : World} (h : TB p a b c w) : p < w.heap.size := by
  rcases Nat.lt_or_ge p w.heap.size with k | k
  · exact k
  · have := h.c0; simp [World.cell?, Array.getElem?_eq_none k] at this
theorem TB.block {p : Nat} {a b c : Value} {w w' : World} (h : TB p a b c w) (e : w'.heap[p]? = w.heap[p]?) : TB p a b c w' :=
  ⟨(World.cell?_of_block (w := w) (a := ⟨p, 0, none⟩) e).trans h.c0, (World.cell?_of_block (w := w) (a := ⟨p, 1, none⟩) e).trans h.c1, (World.cell?_of_block (w := w) (a := ⟨p, 2, none⟩) e).trans h.c2, fun k => (World.frozen?_of_block (w := w) (a := ⟨p, k, none⟩) e).trans (h.fz k)⟩
theorem TB.next {p : Nat} {a b c : Value} {w w' : World} (h : TB p a b c w) (hb : Below w.heap.size w w') : TB p a b c w' := h.block (hb.block p h.lt)
theorem TB.alloc {p : Nat} {a b c : Value} {w : World} (h : TB p a b c w) (o : Obj) : TB p a b c (w.alloc o) := h.block (Below.heap_alloc _ _ _ h.lt)
theorem TB.new (w : World) (a b c : Value) (t : TypeId) : TB w.heap.size a b c (w.alloc (.cells #[a, b, c] t)) :=
  ⟨cell_new_at _ _ _ _, cell_new_at _ _ _ _, cell_new_at _ _ _ _, fun k => by simp⟩

/-- A turning's memory: the box, the result's block, the new pattern's block, its cells. -/
structure TW (w wr : World) (O g W H W' H' n k : Nat) (f : Nat → Nat) (xs : List Int) (a : Option Addr) (c : Nat) : Prop where
  box : TB w.heap.size (.int .i64 (W : Int)) (.int .i64 (H : Int)) (.slice a n c) wr
  res : TB (w.heap.size + 1) (.int .i64 0) (.int .i64 0) (.slice none 0 0) wr
  out : TB O (.int .i64 (W' : Int)) (.int .i64 (H' : Int)) (.slice (some ⟨g, 0, none⟩) n n) wr
  sc : ScJ w wr g n k f xs
  hg : w.heap.size + 2 ≤ g
  hO : g < O
theorem TW.step {w wr : World} {O g W H W' H' n k : Nat} {f : Nat → Nat} {xs : List Int} {a : Option Addr} {c : Nat} (h : TW w wr O g W H W' H' n k f xs a c) (m : Nat) (hk : f k < n) (hinj : ∀ i, i < k → f i ≠ f k) {x : Int} (hx : xs.getD k 0 = x) : TW w ((wr.drewN m).setCell ⟨g, f k, none⟩ (.int .i64 x)) O g W H W' H' n (k + 1) f xs a c := by
  have h1 := h.hg
  have h2 := h.hO
  exact ⟨(h.box.block rfl).block (Below.heap_setCell _ _ _ _ (by simp; omega)), (h.res.block rfl).block (Below.heap_setCell _ _ _ _ (by simp; omega)), (h.out.block rfl).block (Below.heap_setCell _ _ _ _ (by simp; omega)), (h.sc.drewN m).step hk hinj hx, h1, h2⟩

theorem TW.start {w w1 : World} {g W H W' H' n : Nat} {f : Nat → Nat} {xs ys : List Int} {a : Option Addr} {c : Nat} (t1 t2 t3 : TypeId) (hg : ((w.alloc (.cells #[.int .i64 (W : Int), .int .i64 (H : Int), .slice a n c] t1)).alloc (.cells #[.int .i64 0, .int .i64 0, .slice none 0 0] t2)).heap.size ≤ g)
    (hc : Cel w1 g ys) (hn : ys.length = n) (hb : Below ((w.alloc (.cells #[.int .i64 (W : Int), .int .i64 (H : Int), .slice a n c] t1)).alloc (.cells #[.int .i64 0, .int .i64 0, .slice none 0 0] t2)).heap.size ((w.alloc (.cells #[.int .i64 (W : Int), .int .i64 (H : Int), .slice a n c] t1)).alloc (.cells #[.int .i64 0, .int .i64 0, .slice none 0 0] t2)) w1) :
    TW w (w1.alloc (.cells #[.int .i64 (W' : Int), .int .i64 (H' : Int), .slice (some ⟨g, 0, none⟩) n n] t3)) w1.heap.size g W H W' H' n 0 f xs a c := by
  have r1 := TB.new (w.alloc (.cells #[.int .i64 (W : Int), .int .i64 (H : Int), .slice a n c] t1)) (.int .i64 0) (.int .i64 0) (.slice none 0 0) t2
  rw [World.size_alloc] at r1
  simp only [World.size_alloc] at hg hb
  have hz := hb.size
  simp only [World.size_alloc] at hz
  have hlt := hc.lt
  have BB : Below w.heap.size w (w1.alloc (.cells #[.int .i64 (W' : Int), .int .i64 (H' : Int), .slice (some ⟨g, 0, none⟩) n n] t3)) :=
    ((((Below.refl _ _).alloc (Nat.le_refl _) _).alloc (by simp) _).trans (hb.mono (by omega))).alloc (by omega) _
  exact ⟨(((TB.new w _ _ _ t1).alloc _).block (hb.block _ (by omega))).alloc _, (r1.block (hb.block _ (by omega))).alloc _, TB.new w1 _ _ _ t3, ScJ.start f xs ys BB (by omega) (hc.block (by simp) (Below.heap_alloc _ _ _ hlt)) hn, by omega, hlt⟩

end Go.Proofs.YtlpdobfjgpedaaaDoor

namespace Go.Proofs.YtlpdobfjgpedaaaDoor
open Go.RowKit
set_option linter.unusedVariables false

end Go.Proofs.YtlpdobfjgpedaaaDoor

namespace Go.Proofs.YtlpdobfjgpedaaaDoor
open Go.RowKit
set_option linter.unusedVariables false

/-- A cell by its place. -/
def atP (W : Nat) (xs : List Int) (x y : Nat) : Int := xs.getD (y * W + x) 0
structure Pat where
  W : Nat
  H : Nat
  xs : List Int
def Pat.ok (p : Pat) : Prop := p.xs.length = p.W * p.H
def Pat.mir (p : Pat) : Pat := ⟨p.W, p.H, mirP p.W p.H p.xs⟩
def Pat.qtr (p : Pat) : Pat := ⟨p.H, p.W, qtrP p.W p.H p.xs⟩
def Pat.rot (p : Pat) : Nat → Pat
  | 0 => p
  | j + 1 => (p.rot j).qtr
def Pat.turn (p : Pat) (k : Nat) : Pat := (if 4 ≤ k then p.mir else p).rot (k % 4)

theorem mir_at (W H : Nat) (xs : List Int) (x y : Nat) (hx : x < W) (hy : y < H) : atP W (mirP W H xs) x y = atP W xs (W - 1 - x) y := by
  unfold atP mirP
  obtain ⟨d, m⟩ := divmod_mk W y x hx
  have hl := mk_lt hx hy
  simp [List.getD, hl, d, m]
theorem qtr_at (W H : Nat) (xs : List Int) (x y : Nat) (hx : x < H) (hy : y < W) : atP H (qtrP W H xs) x y = atP W xs y (H - 1 - x) := by
  unfold atP qtrP
  obtain ⟨d, m⟩ := divmod_mk H y x hx
  have hl := mk_lt hx hy
  simp [List.getD, hl, d, m]

/-- Where the document's turn by k takes the cell x, y of the new pattern from. -/
def srcX (p : Pat) (k x y : Nat) : Nat :=
  let a := if k % 4 = 1 then y else if k % 4 = 2 then p.W - 1 - x else if k % 4 = 3 then p.W - 1 - y else x
  if 4 ≤ k then p.W - 1 - a else a
def srcY (p : Pat) (k x y : Nat) : Nat :=
  if k % 4 = 1 then p.H - 1 - x else if k % 4 = 2 then p.H - 1 - y else if k % 4 = 3 then x else y
def turnW (p : Pat) (k : Nat) : Nat := if k % 2 = 1 then p.H else p.W
def turnH (p : Pat) (k : Nat) : Nat := if k % 2 = 1 then p.W else p.H
def refTurn (p : Pat) (k : Nat) : List Int := (List.range (turnW p k * turnH p k)).map fun q => atP p.W p.xs (srcX p k (q % turnW p k) (q / turnW p k)) (srcY p k (q % turnW p k) (q / turnW p k))

theorem list_at {W H : Nat} {xs ys : List Int} (h1 : xs.length = W * H) (h2 : ys.length = W * H) (h : ∀ x y, x < W → y < H → atP W xs x y = atP W ys x y) : xs = ys := by
  apply List.ext_getElem (by omega)
  intro i hi hj
  obtain ⟨x, y, hx, hy, -, -, e⟩ := split_lt (W := W) (H := H) (i := i) (by omega)
  have := h x y hx hy
  unfold atP at this
  rw [e] at this
  simpa [List.getD, hi, hj] using this
theorem ref_at (p : Pat) (k x y : Nat) (hx : x < turnW p k) (hy : y < turnH p k) : atP (turnW p k) (refTurn p k) x y = atP p.W p.xs (srcX p k x y) (srcY p k x y) := by
  unfold refTurn
  obtain ⟨d, m⟩ := divmod_mk (turnW p k) y x hx
  have hl := mk_lt hx hy
  rw [atP]
  simp [List.getD, hl, d, m]
theorem refTurn_length (p : Pat) (k : Nat) : (refTurn p k).length = turnW p k * turnH p k := by simp [refTurn]

theorem turn_is (p : Pat) (hp : p.ok) (k : Nat) (hk : k < 8) : p.turn k = ⟨turnW p k, turnH p k, refTurn p k⟩ := by
  obtain ⟨W, H, xs⟩ := p
  unfold Pat.ok at hp
  dsimp only at hp
  have key : ∀ (q : Pat), q.W = turnW ⟨W, H, xs⟩ k → q.H = turnH ⟨W, H, xs⟩ k → q.xs.length = q.W * q.H → (∀ x y, x < q.W → y < q.H → atP q.W q.xs x y = atP W xs (srcX ⟨W, H, xs⟩ k x y) (srcY ⟨W, H, xs⟩ k x y)) → q = ⟨turnW ⟨W, H, xs⟩ k, turnH ⟨W, H, xs⟩ k, refTurn ⟨W, H, xs⟩ k⟩ := by
    rintro ⟨A, B, ys⟩ h1 h2 h3 h4
    dsimp only at h1 h2 h3 h4
    subst h1 h2
    congr 1
    refine list_at h3 (refTurn_length _ _) fun x y hx hy => ?_
    rw [h4 x y hx hy, ref_at _ _ _ _ hx hy]
  have hk' : k = 0 ∨ k = 1 ∨ k = 2 ∨ k = 3 ∨ k = 4 ∨ k = 5 ∨ k = 6 ∨ k = 7 := by omega
  rcases hk' with rfl | rfl | rfl | rfl | rfl | rfl | rfl | rfl
  · exact key _ rfl rfl hp fun x y hx hy => rfl
  · exact key _ rfl rfl (qtrP_length _ _ _) fun x y hx hy => qtr_at _ _ _ x y hx hy
  · refine key _ rfl rfl (qtrP_length _ _ _) fun x y hx hy => ?_
    refine (qtr_at _ _ _ x y hx hy).trans ?_
    refine (qtr_at W H xs y (W - 1 - x) hy (by have : x < W := hx; omega)).trans ?_
    rfl
  · refine key _ rfl rfl (qtrP_length _ _ _) fun x y hx hy => ?_
    refine (qtr_at _ _ _ x y hx hy).trans ?_
    refine (qtr_at _ _ _ y (H - 1 - x) hy (by have : x < H := hx; show H - 1 - x < H; omega)).trans ?_
    refine (qtr_at W H xs (H - 1 - x) (W - 1 - y) (by have : x < H := hx; omega) (by have : y < W := hy; omega)).trans ?_
    show atP W xs (W - 1 - y) (H - 1 - (H - 1 - x)) = atP W xs (W - 1 - y) x
    rw [show H - 1 - (H - 1 - x) = x by have : x < H := hx; omega]
  · exact key _ rfl rfl (mirP_length _ _ _) fun x y hx hy => mir_at _ _ _ x y hx hy
  · refine key _ rfl rfl (qtrP_length _ _ _) fun x y hx hy => ?_
    refine (qtr_at _ _ _ x y hx hy).trans ?_
    refine (mir_at W H xs y (H - 1 - x) hy (by have : x < H := hx; omega)).trans ?_
    rfl
  · refine key _ rfl rfl (qtrP_length _ _ _) fun x y hx hy => ?_
    refine (qtr_at _ _ _ x y hx hy).trans ?_
    refine (qtr_at W H _ y (W - 1 - x) hy (by have : x < W := hx; omega)).trans ?_
    refine (mir_at W H xs (W - 1 - x) (H - 1 - y) (by have : x < W := hx; omega) (by have : y < H := hy; omega)).trans ?_
    rfl
  · refine key _ rfl rfl (qtrP_length _ _ _) fun x y hx hy => ?_
    refine (qtr_at _ _ _ x y hx hy).trans ?_
    refine (qtr_at _ _ _ y (H - 1 - x) hy (by have : x < H := hx; show H - 1 - x < H; omega)).trans ?_
    refine (qtr_at W H _ (H - 1 - x) (W - 1 - y) (by have : x < H := hx; omega) (by have : y < W := hy; omega)).trans ?_
    refine (mir_at W H xs (W - 1 - y) (H - 1 - (H - 1 - x)) (by have : y < W := hy; omega) (by have : x < H := hx; omega)).trans ?_
    show atP W xs (W - 1 - (W - 1 - y)) (H - 1 - (H - 1 - x)) = atP W xs (W - 1 - (W - 1 - y)) x
    rw [show H - 1 - (H - 1 - x) = x by have : x < H := hx; omega]
end Go.Proofs.YtlpdobfjgpedaaaDoor

namespace Go.Proofs.YtlpdobfjgpedaaaDoor

def isDot (s : ByteArray) (i : Nat) : Bool := decide (bt s i = 194) && decide (i + 1 < s.size) && decide (bt s (i + 1) = 183)
def isBall (s : ByteArray) (i : Nat) : Bool := decide (bt s i = 226) && decide (i + 2 < s.size) && decide (bt s (i + 1) = 151) && decide (bt s (i + 2) = 143)
theorem isDot_true {s : ByteArray} {i : Nat} : isDot s i = true ↔ bt s i = 194 ∧ i + 1 < s.size ∧ bt s (i + 1) = 183 := by simp [isDot, and_assoc]
theorem isBall_true {s : ByteArray} {i : Nat} : isBall s i = true ↔ bt s i = 226 ∧ i + 2 < s.size ∧ bt s (i + 1) = 151 ∧ bt s (i + 2) = 143 := by simp [isBall, and_assoc]

theorem get_bt (s : ByteArray) (j : Nat) : (s.get! j).toNat = bt s j := by
  unfold bt
  split
  · rename_i h; simp [ByteArray.get!, getElem!_pos, h]; rfl
  · rename_i h
    have : s.data[j]! = default := getElem!_neg _ _ (show ¬ j < s.data.size from h)
    simp [ByteArray.get!, this]; rfl

theorem decode_dot {s : ByteArray} {i : Nat} (h : isDot s i = true) : Utf8.decode s i = (183, 2) := by
  obtain ⟨h0, h1, h2⟩ := isDot_true.1 h
  simp [Utf8.decode, get_bt, h0, h1, h2]
theorem decode_ball {s : ByteArray} {i : Nat} (h : isBall s i = true) : Utf8.decode s i = (9679, 3) := by
  obtain ⟨h0, h1, h2, h3⟩ := isBall_true.1 h
  have h1' : i + 1 < s.size := by omega
  simp [Utf8.decode, get_bt, h0, h1, h1', h2, h3, Utf8.valid]
theorem decode_ten {s : ByteArray} {i : Nat} (h : bt s i = 10) : Utf8.decode s i = (10, 1) := by
  simp [Utf8.decode, get_bt, h]
theorem decode_other {s : ByteArray} {i : Nat} (hd : isDot s i = false) (hb : isBall s i = false) (hn : ¬ bt s i = 10) :
    ¬ (Utf8.decode s i).1 = 183 ∧ ¬ (Utf8.decode s i).1 = 9679 ∧ ¬ (Utf8.decode s i).1 = 10 := by
  have hd' : ¬ (bt s i = 194 ∧ i + 1 < s.size ∧ bt s (i + 1) = 183) := by rw [← isDot_true, hd]; simp
  have hb' : ¬ (bt s i = 226 ∧ i + 2 < s.size ∧ bt s (i + 1) = 151 ∧ bt s (i + 2) = 143) := by rw [← isBall_true, hb]; simp
  have b0 := bt_le s i
  have b1 := bt_le s (i + 1)
  have b2 := bt_le s (i + 2)
  have b3 := bt_le s (i + 3)
  simp only [Utf8.decode, get_bt, Nat.add_zero]
  generalize bt s i = x0 at *
  generalize bt s (i + 1) = x1 at *
  generalize bt s (i + 2) = x2 at *
  generalize bt s (i + 3) = x3 at *
  clear hd hb
  repeat' split
  all_goals simp only [Bool.and_eq_true, decide_eq_true_eq, beq_iff_eq, Utf8.runeError] at *
  all_goals (first | omega | (refine ⟨?_, ?_, ?_⟩ <;> omega))

/-- A drawing from i on: its row began at r, with n cells so far; wide, high and the cells of what was read. -/
def drawF (s : ByteArray) : Nat → Nat → Nat → Nat → Nat → Nat → List Int → (Nat × Nat × List Int) ⊕ (Nat × Nat)
  | 0, _, _, _, _, _, _ => .inr (0, 0)
  | f + 1, i, r, n, wide, high, xs =>
    if s.size ≤ i then (if r < s.size then .inr (s.size, 2) else .inl (wide, high, xs))
    else if isDot s i then (if high = 100 then .inr (r, 1) else if n = 100 then .inr (i, 1) else drawF s f (i + 2) r (n + 1) wide high (xs ++ [0]))
    else if isBall s i then (if high = 100 then .inr (r, 1) else if n = 100 then .inr (i, 1) else drawF s f (i + 3) r (n + 1) wide high (xs ++ [1]))
    else if bt s i ≠ 10 then .inr (i, 2)
    else if high = 100 then .inr (r, 1)
    else if 0 < high ∧ n ≠ wide then .inr (r, 3)
    else drawF s f (i + 1) (i + 1) 0 n (high + 1) xs

def drawS (s : ByteArray) : (Nat × Nat × List Int) ⊕ (Nat × Nat) :=
  if 40000 < s.size then .inr (0, 4) else drawF s (s.size + 1) 0 0 0 0 0 []
end Go.Proofs.YtlpdobfjgpedaaaDoor

namespace Go.Proofs.YtlpdobfjgpedaaaDoor
open Go.RowKit
set_option linter.unusedVariables false

/-- Of the blocks below base, b alone may have turned. -/
structure DRd (b base : Nat) (w w' : World) : Prop where
  os : w'.os = w.os
  tape : w'.tape = w.tape
  output : w'.output = w.output
  size : w.heap.size ≤ w'.heap.size
  block : ∀ k, k < base → k ≠ b → w'.heap[k]? = w.heap[k]?
theorem DRd.refl (b base : Nat) (w : World) : DRd b base w w := ⟨rfl, rfl, rfl, Nat.le_refl _, fun _ _ _ => rfl⟩
theorem DRd.trans {b base : Nat} {a c d : World} (h : DRd b base a c) (k : DRd b base c d) : DRd b base a d :=
  ⟨k.os.trans h.os, k.tape.trans h.tape, k.output.trans h.output, Nat.le_trans h.size k.size, fun i hi hb => (k.block i hi hb).trans (h.block i hi hb)⟩
theorem DRd.set {b base : Nat} {a w : World} (h : DRd b base a w) (o : Nat) (u : Value) : DRd b base a (w.setCell ⟨b, o, none⟩ u) :=
  h.trans ⟨rfl, rfl, rfl, by simp [World.setCell], fun k _ hk => Below.heap_setCell _ _ _ _ hk⟩
theorem DRd.drewN {b base : Nat} {a w : World} (h : DRd b base a w) (n : Nat) : DRd b base a (w.drewN n) := h.trans ⟨rfl, rfl, rfl, Nat.le_refl _, fun _ _ _ => rfl⟩

/-- The drawing at b: its sides so far, the slice of its cells, where its row begins, how many it has. -/
structure DAt (b : Nat) (W H : Nat) (v : Value) (r n : Nat) (w : World) : Prop where
  c0 : w.cell? ⟨b, 0, none⟩ = some (.int .i64 (W : Int))
  c1 : w.cell? ⟨b, 1, none⟩ = some (.int .i64 (H : Int))
  c2 : w.cell? ⟨b, 2, none⟩ = some v
  c3 : w.cell? ⟨b, 3, none⟩ = some (.int .i64 (r : Int))
  c4 : w.cell? ⟨b, 4, none⟩ = some (.int .i64 (n : Int))
  fz : ∀ k, w.frozen? ⟨b, k, none⟩ = false
theorem DAt.block {b W H : Nat} {v : Value} {r n : Nat} {w w' : World} (h : DAt b W H v r n w) (e : w'.heap[b]? = w.heap[b]?) : DAt b W H v r n w' :=
  ⟨(World.cell?_of_block (w := w) (a := ⟨b, 0, none⟩) e).trans h.c0, (World.cell?_of_block (w := w) (a := ⟨b, 1, none⟩) e).trans h.c1, (World.cell?_of_block (w := w) (a := ⟨b, 2, none⟩) e).trans h.c2, (World.cell?_of_block (w := w) (a := ⟨b, 3, none⟩) e).trans h.c3, (World.cell?_of_block (w := w) (a := ⟨b, 4, none⟩) e).trans h.c4,
   fun k => (World.frozen?_of_block (w := w) (a := ⟨b, k, none⟩) e).trans (h.fz k)⟩
theorem DAt.drewN {b W H : Nat} {v : Value} {r n : Nat} {w : World} (h : DAt b W H v r n w) (m : Nat) : DAt b W H v r n (w.drewN m) := h.block rfl
theorem cell_same {w : World} {b k : Nat} {v u : Value} (h : w.cell? ⟨b, k, none⟩ = some v) : (w.setCell ⟨b, k, none⟩ u).cell? ⟨b, k, none⟩ = some u := World.cell?_setCell_same _ _ _ h
theorem cell_other {w : World} {b k j : Nat} {v u : Value} (h : w.cell? ⟨b, j, none⟩ = some v) (hk : k ≠ j) : (w.setCell ⟨b, k, none⟩ u).cell? ⟨b, j, none⟩ = some v :=
  (World.cell?_setCell_other _ ⟨b, k, none⟩ ⟨b, j, none⟩ _ (fun q => hk (congrArg Addr.off q))).trans h
theorem DAt.set0 {b W H : Nat} {v : Value} {r n : Nat} {w : World} (h : DAt b W H v r n w) (x : Nat) : DAt b x H v r n (w.setCell ⟨b, 0, none⟩ (.int .i64 (x : Int))) :=
  ⟨cell_same h.c0, cell_other h.c1 (by omega), cell_other h.c2 (by omega), cell_other h.c3 (by omega), cell_other h.c4 (by omega), fun k => by rw [World.frozen?_setCell]; exact h.fz k⟩
theorem DAt.set1 {b W H : Nat} {v : Value} {r n : Nat} {w : World} (h : DAt b W H v r n w) (x : Nat) : DAt b W x v r n (w.setCell ⟨b, 1, none⟩ (.int .i64 (x : Int))) :=
  ⟨cell_other h.c0 (by omega), cell_same h.c1, cell_other h.c2 (by omega), cell_other h.c3 (by omega), cell_other h.c4 (by omega), fun k => by rw [World.frozen?_setCell]; exact h.fz k⟩
theorem DAt.set2 {b W H : Nat} {v : Value} {r n : Nat} {w : World} (h : DAt b W H v r n w) (x : Value) : DAt b W H x r n (w.setCell ⟨b, 2, none⟩ x) :=
  ⟨cell_other h.c0 (by omega), cell_other h.c1 (by omega), cell_same h.c2, cell_other h.c3 (by omega), cell_other h.c4 (by omega), fun k => by rw [World.frozen?_setCell]; exact h.fz k⟩
theorem DAt.set3 {b W H : Nat} {v : Value} {r n : Nat} {w : World} (h : DAt b W H v r n w) (x : Nat) : DAt b W H v x n (w.setCell ⟨b, 3, none⟩ (.int .i64 (x : Int))) :=
  ⟨cell_other h.c0 (by omega), cell_other h.c1 (by omega), cell_other h.c2 (by omega), cell_same h.c3, cell_other h.c4 (by omega), fun k => by rw [World.frozen?_setCell]; exact h.fz k⟩
theorem DAt.set4 {b W H : Nat} {v : Value} {r n : Nat} {w : World} (h : DAt b W H v r n w) (x : Nat) : DAt b W H v r x (w.setCell ⟨b, 4, none⟩ (.int .i64 (x : Int))) :=
  ⟨cell_other h.c0 (by omega), cell_other h.c1 (by omega), cell_other h.c2 (by omega), cell_other h.c3 (by omega), cell_same h.c4, fun k => by rw [World.frozen?_setCell]; exact h.fz k⟩

end Go.Proofs.YtlpdobfjgpedaaaDoor

namespace Go.Proofs.YtlpdobfjgpedaaaDoor
open Go.RowKit
set_option linter.unusedVariables false

def PushPost (b base W H : Nat) (xs : List Int) (r n : Nat) (x : Int) (w : World) (e : Ending) (w' : World) : Prop :=
  e = .returned (.tuple #[.int .i64 0, .nilIface]) ∧ DRd b base w w' ∧ ∃ v', DAt b W H v' r (n + 1) w' ∧ w'.ownsRow base 3 1 v' (xs ++ [x]).length ((xs ++ [x]).map fun x => .int .i64 x)
def pushW (w : World) (b : Nat) (x m : Int) : World := ((w.setCell ⟨b, 4, none⟩ (.int .i64 m)).alloc (.cells #[.int .i64 x] 3)).drew
theorem push_own {w : World} {b base n : Nat} {v : Value} {ys : List Value} (ho : w.ownsRow base 3 1 v n ys) (x m : Int) (hb : b < base) : (((w.setCell ⟨b, 4, none⟩ (.int .i64 m)).alloc (.cells #[.int .i64 x] 3)).drew).ownsRow base 3 1 v n ys :=
  ((ownsRow_setCell_below ho (a := ⟨b, 4, none⟩) hb _).alloc _).drew
theorem push_news (w : World) (b : Nat) (x m : Int) : ∀ j u, [Value.int .i64 x][j]? = some u → (((w.setCell ⟨b, 4, none⟩ (.int .i64 m)).alloc (.cells #[.int .i64 x] 3)).drew).cell? ((⟨w.heap.size, 0, none⟩ : Addr).add j) = some u := by
  have h := World.news_of_block (w := ((w.setCell ⟨b, 4, none⟩ (.int .i64 m)).alloc (.cells #[.int .i64 x] 3)).drew) (cs := #[.int .i64 x]) (t := 3) (fr := (0, 0)) (heap_alloc_new (w.setCell ⟨b, 4, none⟩ (.int .i64 m)) _)
  rw [World.size_setCell] at h
  exact h
theorem push_block {w w1 : World} {b base : Nat} {v : Value} {xs : List Int} (x m : Int) (ho : w.ownsRow base 3 1 v xs.length (xs.map fun x => .int .i64 x)) (hb : b < base) (hbw : base ≤ w.heap.size)
    (hg : (((w.setCell ⟨b, 4, none⟩ (.int .i64 m)).alloc (.cells #[.int .i64 x] 3)).drew).grownBy w1 v.ownBlock) : ∀ k, k < base → w1.heap[k]? = (w.setCell ⟨b, 4, none⟩ (.int .i64 m)).heap[k]? := by
  intro k hk
  have hob := ownsRow_block ho
  rw [(grownBy_drew hg).block k (by rw [World.size_alloc, World.size_setCell]; omega) (fun e => by have := hob k e.symm; omega)]
  exact Below.heap_alloc _ _ _ (by rw [World.size_setCell]; omega)
theorem push_mid {w w1 : World} {b base W H r n : Nat} {v : Value} {xs : List Int} (x : Int) (D : DAt b W H v r n w) (ho : w.ownsRow base 3 1 v xs.length (xs.map fun x => .int .i64 x)) (hb : b < base) (hbw : base ≤ w.heap.size)
    (hg : (((w.setCell ⟨b, 4, none⟩ (.int .i64 ((n : Int) + 1))).alloc (.cells #[.int .i64 x] 3)).drew).grownBy w1 v.ownBlock) : w1.cell? ⟨b, 2, none⟩ = some v ∧ w1.frozen? ⟨b, 2, none⟩ = false := by
  have d := (D.set4 (n + 1)).block (w' := w1) (by rw [show ((n + 1 : Nat) : Int) = (n : Int) + 1 by omega]; exact push_block x _ ho hb hbw hg b hb)
  exact ⟨d.c2, d.fz 2⟩
theorem push_end {w w1 : World} {b base W H r n : Nat} {v u : Value} {xs : List Int} (x : Int) (D : DAt b W H v r n w) (ho : w.ownsRow base 3 1 v xs.length (xs.map fun x => .int .i64 x)) (hb : b < base) (hbw : base ≤ w.heap.size)
    (hg : (((w.setCell ⟨b, 4, none⟩ (.int .i64 ((n : Int) + 1))).alloc (.cells #[.int .i64 x] 3)).drew).grownBy w1 v.ownBlock)
    (h1 : w1.ownsRow base 3 1 u (xs.length + 1) ((xs.map fun x => .int .i64 x) ++ [.int .i64 x])) :
    DRd b base w (w1.setCell ⟨b, 2, none⟩ u) ∧ ∃ v', DAt b W H v' r (n + 1) (w1.setCell ⟨b, 2, none⟩ u) ∧ (w1.setCell ⟨b, 2, none⟩ u).ownsRow base 3 1 v' (xs ++ [x]).length ((xs ++ [x]).map fun x => .int .i64 x) := by
  have hk := push_block x _ ho hb hbw hg
  have d := (D.set4 (n + 1)).block (w' := w1) (by rw [show ((n + 1 : Nat) : Int) = (n : Int) + 1 by omega]; exact hk b hb)
  have g := grownBy_drew hg
  refine ⟨DRd.set (show DRd b base w w1 from ⟨g.os, g.tape, g.output, ?_, fun k hkb hne => ?_⟩) _ _, u, d.set2 u, ?_⟩
  · have := g.size
    rw [World.size_alloc, World.size_setCell] at this
    omega
  · rw [hk k hkb]; exact Below.heap_setCell _ _ _ _ hne
  · have := ownsRow_setCell_below h1 (a := ⟨b, 2, none⟩) hb u
    simpa using this

end Go.Proofs.YtlpdobfjgpedaaaDoor

