/-
  What the last text of this claim leans on, part 21: Oj1, Oj2, Oj3, Oj4.
-/
import Derived.Test.YtjjdjdodhedihaaDoorJl1
import Derived.Test.YtjjdjdodhedihaaDoorJl10
import Derived.Test.YtjjdjdodhedihaaDoorJl14
import Derived.Test.YtjjdjdodhedihaaDoorJl11
import Derived.Laws.Bits64b
import Derived.Lib.TrailingZeros
import Derived.Maps.AppendAt
namespace Go.Proofs.YtjjdjdodhedihaaDoor
set_option linter.unusedVariables false

/-- The number of so many bits. -/
def bitsN (f : Nat → Bool) : Nat → Nat
  | 0 => 0
  | k + 1 => bitsN f k + if f k then 2 ^ k else 0
theorem bitsN_lt (f : Nat → Bool) : ∀ k, bitsN f k < 2 ^ k
  | 0 => by simp [bitsN]
  | k + 1 => by
    have := bitsN_lt f k
    rw [bitsN, Nat.pow_succ]
    split <;> omega
theorem testBit_bitsN (f : Nat → Bool) : ∀ k q, (bitsN f k).testBit q = (decide (q < k) && f q)
  | 0, q => by simp [bitsN]
  | k + 1, q => by
    have h := bitsN_lt f k
    have ih := testBit_bitsN f k q
    have e : bitsN f (k + 1) = 2 ^ k * (if f k then 1 else 0) + bitsN f k := by rw [bitsN]; split <;> omega
    rw [e, Nat.testBit_two_pow_mul_add _ h]
    by_cases hq : q < k
    · rw [if_pos hq, ih]; simp [hq, show q < k + 1 by omega]
    · rw [if_neg hq]
      by_cases hk : q = k
      · subst hk; simp; split <;> simp_all
      · have : ¬ q < k + 1 := by omega
        simp only [this, decide_false, Bool.false_and]
        have h1 : q - k ≠ 0 := by omega
        split
        · obtain ⟨d, hd⟩ : ∃ d, q - k = d + 1 := ⟨q - k - 1, by omega⟩
          rw [hd, Nat.testBit_succ]; simp
        · simp
theorem bitsN_of {f : Nat → Bool} {k m : Nat} (hm : m < 2 ^ k) (h : ∀ q, q < k → m.testBit q = f q) : m = bitsN f k := by
  apply Nat.eq_of_testBit_eq
  intro q
  rw [testBit_bitsN]
  by_cases hq : q < k
  · simp [hq, h q hq]
  · simp only [hq, decide_false, Bool.false_and]
    exact Nat.testBit_lt_two_pow (Nat.lt_of_lt_of_le hm (Nat.pow_le_pow_right (by omega) (by omega)))
/-- Without its lowest bit. -/
theorem and_pred {x k : Nat} (hk : x.testBit k = true) (hl : ∀ j, j < k → x.testBit j = false) (q : Nat) : (x &&& (x - 1)).testBit q = (x.testBit q && decide (q ≠ k)) := by
  obtain ⟨a, ha⟩ : ∃ a, x = 2 ^ k * (2 * a + 1) := by
    have h0 : x % 2 ^ k = 0 := by
      apply Nat.eq_of_testBit_eq
      intro j
      rw [Nat.testBit_mod_two_pow]
      by_cases hj : j < k
      · simp [hl j hj]
      · simp [hj]
    have h1 : x = 2 ^ k * (x / 2 ^ k) := by have := Nat.div_add_mod x (2 ^ k); omega
    have h2 : (x / 2 ^ k) % 2 = 1 := by
      have := hk
      rw [Nat.testBit, Nat.shiftRight_eq_div_pow] at this
      simp at this
      omega
    exact ⟨x / 2 ^ k / 2, by rw [show 2 * (x / 2 ^ k / 2) + 1 = x / 2 ^ k by omega]; exact h1⟩
  have hp : 0 < 2 ^ k := Nat.pow_pos (by omega)
  have hx1 : x - 1 = 2 ^ k * (2 * a) + (2 ^ k - 1) := by rw [ha, Nat.mul_add]; omega
  rw [Nat.testBit_and, hx1, Nat.testBit_two_pow_mul_add _ (by omega)]
  by_cases hq : q < k
  · rw [if_pos hq, hl q hq]; simp
  · rw [if_neg hq]
    by_cases e : q = k
    · subst e; simp
    · obtain ⟨d, hd⟩ : ∃ d, q = k + 1 + d := ⟨q - k - 1, by omega⟩
      have t1 : x.testBit q = a.testBit d := by
        have : x = 2 ^ k * (2 * a + 1) + 0 := by omega
        rw [this, Nat.testBit_two_pow_mul_add _ hp, if_neg hq, show q - k = d + 1 by omega, Nat.testBit_succ]
        congr 1; omega
      have t2 : (2 * a).testBit (q - k) = a.testBit d := by
        rw [show q - k = d + 1 by omega, Nat.testBit_succ]
        congr 1; omega
      rw [t1, t2]
      simp [e]
/-- Does a cell lead from a place to a place, a state coming of it? -/
def leadB (S n : Nat) (T : List Int) (c p q : Nat) : Bool := (List.range S).any fun x => decide (T.getD (p * S + x) 0 = (c : Int)) && decide ((p * S + x) % n = q)
/-- Does a set of places lead to a place? -/
def anyB (S n : Nat) (T : List Int) (c m q : Nat) : Bool := (List.range n).any fun p => m.testBit p && leadB S n T c p q
def leadN (S n : Nat) (T : List Int) (c p : Nat) : Nat := bitsN (leadB S n T c p) n
def follN (S n : Nat) (T : List Int) (c m : Nat) : Nat := bitsN (anyB S n T c m) n
theorem anyB_iff {S n : Nat} {T : List Int} {c m q : Nat} : anyB S n T c m q = true ↔ ∃ p, p < n ∧ m.testBit p = true ∧ leadB S n T c p q = true := by
  simp [anyB]
theorem leadB_iff {S n : Nat} {T : List Int} {c p q : Nat} : leadB S n T c p q = true ↔ ∃ x, x < S ∧ T.getD (p * S + x) 0 = (c : Int) ∧ (p * S + x) % n = q := by
  simp [leadB]
theorem anyB_zero (S n : Nat) (T : List Int) (c q : Nat) : anyB S n T c 0 q = false := by
  simp [anyB]
/-- One place taken out of a set. -/
theorem anyB_out {S n : Nat} {T : List Int} {c m k q : Nat} (hk : m.testBit k = true) (hl : ∀ j, j < k → m.testBit j = false) (kn : k < n) : anyB S n T c m q = (leadB S n T c k q || anyB S n T c (m &&& (m - 1)) q) := by
  rw [Bool.eq_iff_iff, Bool.or_eq_true, anyB_iff, anyB_iff]
  constructor
  · rintro ⟨p, hp, h1, h2⟩
    by_cases e : p = k
    · subst e; exact Or.inl h2
    · exact Or.inr ⟨p, hp, by rw [and_pred hk hl, h1]; simp [e], h2⟩
  · rintro (h | ⟨p, hp, h1, h2⟩)
    · exact ⟨k, kn, hk, h⟩
    · rw [and_pred hk hl] at h1
      simp at h1
      exact ⟨p, hp, h1.1, h2⟩
theorem follN_lt (S n : Nat) (T : List Int) (c m : Nat) : follN S n T c m < 2 ^ n := bitsN_lt _ _
theorem leadN_lt (S n : Nat) (T : List Int) (c p : Nat) : leadN S n T c p < 2 ^ n := bitsN_lt _ _
/-- What was taken together so far, and what is still to come. -/
def FollInv (S n : Nat) (T : List Int) (c m cur out : Nat) : Prop := cur < 2 ^ n ∧ out < 2 ^ n ∧ ∀ q, q < n → (out.testBit q || anyB S n T c cur q) = anyB S n T c m q
theorem FollInv.start {S n : Nat} {T : List Int} {c m : Nat} (h : m < 2 ^ n) : FollInv S n T c m m 0 := ⟨h, Nat.pow_pos (by omega), fun q _ => by simp⟩
theorem FollInv.fin {S n : Nat} {T : List Int} {c m out : Nat} (h : FollInv S n T c m 0 out) : out = follN S n T c m := bitsN_of h.2.1 fun q hq => by
  have := h.2.2 q hq
  rw [anyB_zero, Bool.or_false] at this
  exact this
theorem FollInv.step {S n : Nat} {T : List Int} {c m cur out k : Nat} (h : FollInv S n T c m cur out) (hk : cur.testBit k = true) (hl : ∀ j, j < k → cur.testBit j = false) : k < n ∧ FollInv S n T c m (cur &&& (cur - 1)) (out ||| leadN S n T c k) ∧ cur &&& (cur - 1) < cur := by
  have kn : k < n := by
    rcases Nat.lt_or_ge k n with c | c
    · exact c
    · rw [Nat.testBit_lt_two_pow (Nat.lt_of_lt_of_le h.1 (Nat.pow_le_pow_right (by omega) c))] at hk
      cases hk
  have c0 : cur ≠ 0 := by rintro rfl; simp at hk
  refine ⟨kn, ⟨Nat.lt_of_le_of_lt Nat.and_le_left h.1, Nat.or_lt_two_pow h.2.1 (leadN_lt ..), fun q hq => ?_⟩, ?_⟩
  · rw [← h.2.2 q hq, anyB_out (q := q) hk hl kn, Nat.testBit_or, leadN, testBit_bitsN]
    simp [hq, Bool.or_assoc]
  · have : cur &&& (cur - 1) ≤ cur - 1 := Nat.and_le_right
    omega
/-- A set of places that was come to: its number, by which state, from which, and the word so far. -/
structure En where
  set : Nat
  st : Nat
  ah : Nat
  wd : List Int
end Go.Proofs.YtjjdjdodhedihaaDoor

namespace Go.Proofs.YtjjdjdodhedihaaDoor
open Go.RowKit
set_option linter.unusedVariables false

/-- The library's table as it is laid. -/
def TzTab (w : World) : Prop := ∀ j, j < 64 → w.cell? ⟨2, j, none⟩ = some (.int .u8 (Lib.deBruijn64tab.getD j 0))
theorem tz_lt {w : World} (h : TzTab w) : 2 < w.heap.size := by
  rcases Nat.lt_or_ge 2 w.heap.size with k | k
  · exact k
  · have := h 0 (by omega); simp [World.cell?, Array.getElem?_eq_none k] at this
theorem TzTab.below {w w' : World} (h : TzTab w) (hb : Below w.heap.size w w') : TzTab w' := fun j hj => (World.cell?_of_block (w := w) (a := ⟨2, j, none⟩) (hb.block _ (tz_lt h))).trans (h j hj)
end Go.Proofs.YtjjdjdodhedihaaDoor

namespace Go.Proofs.YtjjdjdodhedihaaDoor
open Go.RowKit
set_option linter.unusedVariables false

/-- The rows of leads, while they are laid. -/
structure LD (w wr : World) (S R n : Nat) (vt : Value) (g k : Nat) (rows : Nat → List Int) : Prop where
  gb : GB w.heap.size S R n vt wr
  tab : ∀ c, c < S → wr.cell? ⟨g, c, none⟩ = some (if c < k then .slice (some ⟨g + 1 + c, 0, none⟩) n n else .slice none 0 0)
  fz : ∀ c, wr.frozen? ⟨g, c, none⟩ = false
  row : ∀ c, c < k → Cel wr (g + 1 + c) (rows c)
  bl : Below w.heap.size w wr
  gl : w.heap.size < g
  gs : g < wr.heap.size
theorem LD.below {w wr wr' : World} {S R n : Nat} {vt : Value} {g k : Nat} {rows : Nat → List Int} (h : LD w wr S R n vt g k rows) (hb : Below wr.heap.size wr wr') : LD w wr' S R n vt g k rows :=
  ⟨h.gb.next hb, fun c hc => (World.cell?_of_block (w := wr) (a := ⟨g, c, none⟩) (hb.block g h.gs)).trans (h.tab c hc), fun c => (World.frozen?_of_block (w := wr) (a := ⟨g, c, none⟩) (hb.block g h.gs)).trans (h.fz c), fun c hc => (h.row c hc).below hb, h.bl.trans (hb.mono h.bl.size), h.gl, Nat.lt_of_lt_of_le h.gs hb.size⟩
/-- One row more. -/
theorem LD.more {w wr : World} {S R n : Nat} {vt : Value} {g k : Nat} {t : TypeId} (h : LD w wr S R n vt g k fun _ => List.replicate n 0) (hz : wr.heap.size = g + 1 + k) (hk : k < S) :
    LD w ((wr.setCell ⟨g, k, none⟩ (.slice (some ⟨wr.heap.size, 0, none⟩) n n)).alloc (.cells (madeCells #[.int .i64 0] n) t)) S R n vt g (k + 1) fun _ => List.replicate n 0 := by
  have gs := h.gs
  have gl := h.gl
  obtain ⟨W, hW⟩ : ∃ W, wr.setCell ⟨g, k, none⟩ (.slice (some ⟨wr.heap.size, 0, none⟩) n n) = W := ⟨_, rfl⟩
  have wz : W.heap.size = wr.heap.size := by rw [← hW, World.size_setCell]
  have ho : ∀ b, b ≠ g → W.heap[b]? = wr.heap[b]? := fun b hb => by rw [← hW]; exact heap_setCell_other _ _ _ _ _ hb
  rw [hW]
  have hb : Below W.heap.size W (W.alloc (.cells (madeCells #[.int .i64 0] n) t)) := (Below.refl _ _).alloc (Nat.le_refl _) _
  have BW : Below w.heap.size w W := by rw [← hW]; exact h.bl.setCell (p := ⟨g, k, none⟩) (by show w.heap.size ≤ g; omega) _
  refine ⟨(h.gb.block (ho _ (by omega))).next hb, fun c hc => ?_, fun c => ?_, fun c hc => ?_, BW.trans (hb.mono BW.size), gl, by simp; omega⟩
  · rw [World.cell?_of_block (w := W) (a := ⟨g, c, none⟩) (hb.block g (by omega)), ← hW]
    by_cases e : c = k
    · subst e
      rw [World.cell?_setCell_same _ _ _ (h.tab c hc), if_pos (by omega), hz]
    · rw [World.cell?_setCell_other _ _ _ _ (by simp <;> omega), h.tab c hc]
      by_cases d : c < k
      · rw [if_pos d, if_pos (by omega)]
      · rw [if_neg d, if_neg (by omega)]
  · rw [World.frozen?_of_block (w := W) (a := ⟨g, c, none⟩) (hb.block g (by omega)), ← hW, World.frozen?_setCell]
    exact h.fz c
  · by_cases e : c = k
    · subst e
      have := Cel.made W n t
      rw [wz, hz] at this
      exact this
    · exact ((h.row c (by omega)).block (by omega) (ho _ (by omega))).below hb
/-- A cell of a row is set. -/
theorem LD.set {w wr : World} {S R n : Nat} {vt : Value} {g k : Nat} {rows rows' : Nat → List Int} (h : LD w wr S R n vt g k rows) (c p : Nat) (x : Int) (hc : c < k) (hp : p < (rows c).length) (h1 : rows' c = (rows c).set p x) (h2 : ∀ c', c' ≠ c → c' < k → rows' c' = rows c') :
    LD w (wr.setCell ⟨g + 1 + c, p, none⟩ (.int .i64 x)) S R n vt g k rows' := by
  have gs := h.gs
  have gl := h.gl
  refine ⟨h.gb.block (heap_setCell_other _ _ _ _ _ (by omega)), fun c' hc' => ?_, fun c' => by rw [World.frozen?_setCell]; exact h.fz c', fun c' hc' => ?_, h.bl.setCell (p := ⟨g + 1 + c, p, none⟩) (by show w.heap.size ≤ g + 1 + c; omega) _, gl, by rw [World.size_setCell]; exact gs⟩
  · rw [World.cell?_setCell_other _ _ _ _ (by simp <;> omega)]; exact h.tab c' hc'
  · by_cases e : c' = c
    · subst e; rw [h1]; exact (h.row c' hc').set p x hp
    · rw [h2 c' e hc']
      exact (h.row c' hc').block (by rw [World.size_setCell]; exact Nat.le_refl _) (heap_setCell_other _ _ _ _ _ (by omega))
end Go.Proofs.YtjjdjdodhedihaaDoor

namespace Go.Proofs.YtjjdjdodhedihaaDoor
open Go.RowKit
set_option linter.unusedVariables false

/-- Numbers in a block. -/
structure IC (w : World) (g n : Nat) (E : Nat → Int) : Prop where
  lt : g < w.heap.size
  c0 : ∀ k, k < n → w.cell? ⟨g, k, none⟩ = some (.int .i64 (E k))
  fz : ∀ k, w.frozen? ⟨g, k, none⟩ = false
theorem IC.drew {w : World} {g n : Nat} {E : Nat → Int} (h : IC w g n E) : IC w.drew g n E := ⟨h.lt, h.c0, h.fz⟩
theorem IC.set {w : World} {g n : Nat} {E : Nat → Int} (h : IC w g n E) (i : Nat) (hi : i < n) (x : Int) : IC (w.setCell ⟨g, i, none⟩ (.int .i64 x)) g n (fun k => if k = i then x else E k) := by
  refine ⟨by simpa using h.lt, fun k hk => ?_, fun k => by rw [World.frozen?_setCell]; exact h.fz k⟩
  by_cases e : k = i
  · subst e
    simp only [if_true]
    exact World.cell?_setCell_same _ _ _ (h.c0 k hk)
  · rw [World.cell?_setCell_other _ ⟨g, i, none⟩ ⟨g, k, none⟩ _ (fun q => e (congrArg Addr.off q).symm), if_neg e]; exact h.c0 k hk
theorem rd_set1 {w w' : World} {g : Nat} (h : Rd g w w') (i : Nat) (u : Value) : Rd g w (w'.setCell ⟨g, i, none⟩ u) :=
  ⟨h.os, h.tape, h.output, by simpa using h.size, fun k hk hg => by rw [heap_setCell_other _ _ _ _ _ hg]; exact h.block k hk hg⟩

/-- The queue, cell by cell. -/
structure QC (W : World) (g : Nat) (Q : List En) : Prop where
  lt : g < W.heap.size
  c0 : ∀ i e, Q[i]? = some e → W.cell? ⟨g, i * 3, none⟩ = some (.int .i64 (e.set : Int))
  c1 : ∀ i e, Q[i]? = some e → W.cell? ⟨g, i * 3 + 1, none⟩ = some (.int .i64 (e.st : Int))
  c2 : ∀ i e, Q[i]? = some e → W.cell? ⟨g, i * 3 + 2, none⟩ = some (.int .i64 (e.ah : Int))
theorem QC.block {W W' : World} {g : Nat} {Q : List En} (h : QC W g Q) (hs : W.heap.size ≤ W'.heap.size) (e : W'.heap[g]? = W.heap[g]?) : QC W' g Q :=
  ⟨Nat.lt_of_lt_of_le h.lt hs, fun i x hx => (World.cell?_of_block (w := W) (a := ⟨g, i * 3, none⟩) e).trans (h.c0 i x hx), fun i x hx => (World.cell?_of_block (w := W) (a := ⟨g, i * 3 + 1, none⟩) e).trans (h.c1 i x hx), fun i x hx => (World.cell?_of_block (w := W) (a := ⟨g, i * 3 + 2, none⟩) e).trans (h.c2 i x hx)⟩
theorem QC.below {W W' : World} {g : Nat} {Q : List En} (h : QC W g Q) (hb : Below W.heap.size W W') : QC W' g Q := h.block hb.size (hb.block g h.lt)
end Go.Proofs.YtjjdjdodhedihaaDoor

