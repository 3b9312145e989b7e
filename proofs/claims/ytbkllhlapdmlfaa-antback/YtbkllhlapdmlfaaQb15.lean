/-
  What the last text of this claim leans on, part 15: Wb1, Qa1, Pa7, Pa8, Jumps, Pa9.
-/
import Derived.Test.YtbkllhlapdmlfaaQb4
import Derived.Test.YtbkllhlapdmlfaaQb2
import Derived.Test.YtbkllhlapdmlfaaQb3
import Derived.Scope
import Derived.WalkMore
namespace Go.Proofs.Ytbkllhlapdmlfaa
open Go.RowKit
set_option linter.unusedVariables false

/-- Where a cell goes when its pattern is mirrored; turned by a quarter. -/
def mirI (W H i : Nat) : Nat := i / W * W + (W - 1 - i % W)
def qtrI (W H i : Nat) : Nat := i % W * H + (H - 1 - i / W)
/-- The pattern mirrored; turned by a quarter (as wide as it was high). -/
def mirP (W H : Nat) (xs : List Int) : List Int := (List.range (W * H)).map fun q => xs.getD (q / W * W + (W - 1 - q % W)) 0
def qtrP (W H : Nat) (xs : List Int) : List Int := (List.range (H * W)).map fun q => xs.getD ((H - 1 - q % H) * W + q / H) 0
theorem mirP_length (W H : Nat) (xs : List Int) : (mirP W H xs).length = W * H := by simp [mirP]
theorem qtrP_length (W H : Nat) (xs : List Int) : (qtrP W H xs).length = H * W := by simp [qtrP]

theorem divmod_mk (W y x : Nat) (hx : x < W) : (y * W + x) / W = y ∧ (y * W + x) % W = x := by
  constructor
  · rw [Nat.mul_comm, Nat.mul_add_div (by omega), Nat.div_eq_of_lt hx]; omega
  · rw [Nat.mul_comm, Nat.mul_add_mod, Nat.mod_eq_of_lt hx]
theorem split_lt {W H i : Nat} (hi : i < W * H) : ∃ x y, x < W ∧ y < H ∧ i % W = x ∧ i / W = y ∧ y * W + x = i := by
  have hW : 0 < W := by
    rcases Nat.eq_zero_or_pos W with h | h
    · rw [h, Nat.zero_mul] at hi; omega
    · exact h
  refine ⟨i % W, i / W, Nat.mod_lt _ hW, ?_, rfl, rfl, ?_⟩
  · rw [Nat.div_lt_iff_lt_mul hW, Nat.mul_comm]; exact hi
  · rw [Nat.mul_comm]; exact Nat.div_add_mod i W
theorem mk_lt {W H x y : Nat} (hx : x < W) (hy : y < H) : y * W + x < W * H := by
  have := Nat.mul_le_mul_right W (show y + 1 ≤ H by omega)
  rw [Nat.add_mul, Nat.mul_comm H W] at this
  omega
theorem mirI_lt {W H i : Nat} (hi : i < W * H) : mirI W H i < W * H := by
  obtain ⟨x, y, h1, h2, h3, h4, h5⟩ := split_lt hi
  unfold mirI
  rw [h3, h4]
  exact mk_lt (by omega) h2
theorem mirI_mirI {W H i : Nat} (hi : i < W * H) : mirI W H (mirI W H i) = i := by
  obtain ⟨x, y, h1, h2, h3, h4, h5⟩ := split_lt hi
  obtain ⟨d, m⟩ := divmod_mk W y (W - 1 - x) (by omega)
  unfold mirI
  rw [h3, h4, d, m]
  omega
theorem qtrI_lt {W H i : Nat} (hi : i < W * H) : qtrI W H i < H * W := by
  obtain ⟨x, y, h1, h2, h3, h4, h5⟩ := split_lt hi
  unfold qtrI
  rw [h3, h4]
  exact mk_lt (by omega) h1
/-- The way back from a quarter. -/
def qtrJ (W H q : Nat) : Nat := (H - 1 - q % H) * W + q / H
theorem qtrJ_qtrI {W H i : Nat} (hi : i < W * H) : qtrJ W H (qtrI W H i) = i := by
  obtain ⟨x, y, h1, h2, h3, h4, h5⟩ := split_lt hi
  obtain ⟨d, m⟩ := divmod_mk H x (H - 1 - y) (by omega)
  unfold qtrJ qtrI
  rw [h3, h4, d, m, show H - 1 - (H - 1 - y) = y by omega]
  exact h5
theorem qtrJ_lt {W H q : Nat} (hq : q < H * W) : qtrJ W H q < W * H := by
  obtain ⟨x, y, h1, h2, h3, h4, h5⟩ := split_lt hq
  unfold qtrJ
  rw [h3, h4]
  exact mk_lt h2 (by omega)
theorem qtrI_qtrJ {W H q : Nat} (hq : q < H * W) : qtrI W H (qtrJ W H q) = q := by
  obtain ⟨x, y, h1, h2, h3, h4, h5⟩ := split_lt hq
  obtain ⟨d, m⟩ := divmod_mk W (H - 1 - x) y h2
  unfold qtrI qtrJ
  rw [h3, h4, d, m, show H - 1 - (H - 1 - x) = x by omega]
  exact h5

/-- At block g a list of n ints of the call's own; what stands at f i, for i below k, is xs' i-th. -/
structure ScJ (w0 w : World) (g n k : Nat) (f : Nat → Nat) (xs : List Int) : Prop where
  below : Below w0.heap.size w0 w
  ge : w0.heap.size ≤ g
  lt : g < w.heap.size
  cells : ∀ j, j < n → ∃ v, w.cell? ⟨g, j, none⟩ = some v ∧ (∀ i, i < k → f i = j → v = .int .i64 (xs.getD i 0))
  fz : ∀ j, w.frozen? ⟨g, j, none⟩ = false
theorem ScJ.step {w0 w : World} {g n k : Nat} {f : Nat → Nat} {xs : List Int} (h : ScJ w0 w g n k f xs) (hk : f k < n) (hinj : ∀ i, i < k → f i ≠ f k) {x : Int} (hx : xs.getD k 0 = x) : ScJ w0 (w.setCell ⟨g, f k, none⟩ (.int .i64 x)) g n (k + 1) f xs := by
  refine ⟨h.below.setCell h.ge _, h.ge, by rw [World.size_setCell]; exact h.lt, fun j hj => ?_, fun j => by rw [World.frozen?_setCell]; exact h.fz j⟩
  by_cases e : j = f k
  · subst e
    obtain ⟨v, hv, -⟩ := h.cells _ hj
    refine ⟨_, World.cell?_setCell_same _ _ _ hv, fun i hi he => ?_⟩
    by_cases q : i = k
    · subst q; rw [hx]
    · exact absurd he (hinj i (by omega))
  · obtain ⟨v, hv, hv'⟩ := h.cells j hj
    refine ⟨v, ?_, fun i hi he => hv' i (by have : i ≠ k := fun q => e (by rw [← he, q]); omega) he⟩
    exact (World.cell?_setCell_other _ ⟨g, f k, none⟩ ⟨g, j, none⟩ _ (fun q => e (congrArg Addr.off q).symm)).trans hv
theorem ScJ.drewN {w0 w : World} {g n k : Nat} {f : Nat → Nat} {xs : List Int} (h : ScJ w0 w g n k f xs) (m : Nat) : ScJ w0 (w.drewN m) g n k f xs :=
  ⟨h.below.trans ⟨rfl, rfl, rfl, Nat.le_refl _, fun _ _ => rfl⟩, h.ge, h.lt, h.cells, h.fz⟩
theorem ScJ.start {w0 w : World} {g n : Nat} (f : Nat → Nat) (xs ys : List Int) (hb : Below w0.heap.size w0 w) (hg : w0.heap.size ≤ g) (hc : Cel w g ys) (hn : ys.length = n) : ScJ w0 w g n 0 f xs :=
  ⟨hb, hg, hc.lt, fun j hj => ⟨_, hc.cells j (by omega), fun i hi => by omega⟩, hc.fz⟩
theorem ScJ.cel {w0 w : World} {g n : Nat} {f fi : Nat → Nat} {xs : List Int} (h : ScJ w0 w g n n f xs) (h1 : ∀ j, j < n → fi j < n) (h2 : ∀ j, j < n → f (fi j) = j) : Cel w g ((List.range n).map fun j => xs.getD (fi j) 0) := by
  refine ⟨h.lt, fun k hk => ?_, h.fz⟩
  simp only [List.length_map, List.length_range] at hk
  obtain ⟨v, hv, hv'⟩ := h.cells k hk
  rw [hv, hv' (fi k) (h1 k hk) (h2 k hk)]
  simp [List.getD, hk]
end Go.Proofs.Ytbkllhlapdmlfaa

namespace Go.Proofs.Ytbkllhlapdmlfaa
open Go.RowKit
set_option linter.unusedVariables false

def hd2 (s : ByteArray) (i a b : Nat) : (Nat × Nat × Nat) ⊕ (Nat × Nat) := match wordF s [10] i with | .inr k => .inr (k, 2) | .inl k => .inl (a, b, k)
def hd1 (s : ByteArray) (i a : Nat) : (Nat × Nat × Nat) ⊕ (Nat × Nat) := match sideS s [44, 32, 121, 32, 61, 32] i with | .inr e => .inr e | .inl (h, j) => hd2 s j a h
def hd0 (s : ByteArray) (i : Nat) : (Nat × Nat × Nat) ⊕ (Nat × Nat) := match sideS s [120, 32, 61, 32] i with | .inr e => .inr e | .inl (a, j) => hd1 s j a
theorem headS_hd (s : ByteArray) : headS s = hd0 s 0 := rfl
def hdQ (s : ByteArray) (q i a b : Nat) : (Nat × Nat × Nat) ⊕ (Nat × Nat) := if q = 0 then hd0 s i else if q = 1 then hd1 s i a else hd2 s i a b
def wd (q : Nat) : ByteArray := if q = 0 then ⟨#[120, 32, 61, 32]⟩ else if q = 1 then ⟨#[44, 32, 121, 32, 61, 32]⟩ else ⟨#[10]⟩

theorem wd_size (q : Nat) : (wd q).size ≤ 6 := by
  unfold wd
  split
  · decide
  split
  · decide
  · decide
theorem wd_word (q : Nat) : bts (wd q) = if q = 0 then [120, 32, 61, 32] else if q = 1 then [44, 32, 121, 32, 61, 32] else [10] := by
  unfold wd
  split
  · decide
  split
  · decide
  · decide

structure SdW (w wr : World) (a b : Nat) : Prop where
  below : Below w.heap.size w wr
  size : w.heap.size + 2 ≤ wr.heap.size
  words : ∀ q, q < 3 → wr.cell? ⟨w.heap.size, q, none⟩ = some (.string (wd q))
  n0 : wr.cell? ⟨w.heap.size + 1, 0, none⟩ = some (.int .i64 (a : Int))
  n1 : wr.cell? ⟨w.heap.size + 1, 1, none⟩ = some (.int .i64 (b : Int))
  fz : ∀ k, wr.frozen? ⟨w.heap.size + 1, k, none⟩ = false
theorem SdW.drewN {w wr : World} {a b : Nat} (h : SdW w wr a b) (n : Nat) : SdW w (wr.drewN n) a b :=
  ⟨h.below.trans ⟨rfl, rfl, rfl, Nat.le_refl _, fun _ _ => rfl⟩, h.size, h.words, h.n0, h.n1, h.fz⟩
theorem SdW.set0 {w wr : World} {a b : Nat} (h : SdW w wr a b) (x : Nat) : SdW w (wr.setCell ⟨w.heap.size + 1, 0, none⟩ (.int .i64 (x : Int))) x b := by
  refine ⟨h.below.setCell (by simp) _, by rw [World.size_setCell]; exact h.size, fun q hq => ?_, ?_, ?_, fun k => by rw [World.frozen?_setCell]; exact h.fz k⟩
  · exact (World.cell?_setCell_other _ ⟨w.heap.size + 1, 0, none⟩ ⟨w.heap.size, q, none⟩ _ (fun e => by have := congrArg Addr.block e; simp at this)).trans (h.words q hq)
  · exact World.cell?_setCell_same _ _ _ h.n0
  · exact (World.cell?_setCell_other _ ⟨w.heap.size + 1, 0, none⟩ ⟨w.heap.size + 1, 1, none⟩ _ (fun e => by have := congrArg Addr.off e; simp at this)).trans h.n1
theorem SdW.set1 {w wr : World} {a b : Nat} (h : SdW w wr a b) (x : Nat) : SdW w (wr.setCell ⟨w.heap.size + 1, 1, none⟩ (.int .i64 (x : Int))) a x := by
  refine ⟨h.below.setCell (by simp) _, by rw [World.size_setCell]; exact h.size, fun q hq => ?_, ?_, ?_, fun k => by rw [World.frozen?_setCell]; exact h.fz k⟩
  · exact (World.cell?_setCell_other _ ⟨w.heap.size + 1, 1, none⟩ ⟨w.heap.size, q, none⟩ _ (fun e => by have := congrArg Addr.block e; simp at this)).trans (h.words q hq)
  · exact (World.cell?_setCell_other _ ⟨w.heap.size + 1, 1, none⟩ ⟨w.heap.size + 1, 0, none⟩ _ (fun e => by have := congrArg Addr.off e; simp at this)).trans h.n0
  · exact World.cell?_setCell_same _ _ _ h.n1
theorem SdW.start (w : World) (t1 t2 : TypeId) : SdW w ((w.alloc (.cells #[.string ⟨#[120, 32, 61, 32]⟩, .string ⟨#[44, 32, 121, 32, 61, 32]⟩, .string ⟨#[10]⟩] t1)).alloc (.cells #[.int .i64 0, .int .i64 0, .int .i64 0] t2)) 0 0 := by
  refine ⟨((Below.refl _ _).alloc (Nat.le_refl _) _).alloc (by simp) _, by simp, fun q hq => ?_, ?_, ?_, fun k => ?_⟩
  · rw [World.cell?_alloc_past _ _ _ (by simp), World.cell?_alloc_at _ _ _ _ rfl]
    match q, hq with
    | 0, _ => rfl
    | 1, _ => rfl
    | 2, _ => rfl
  · rw [World.cell?_alloc_at _ _ _ _ (by simp)]; rfl
  · rw [World.cell?_alloc_at _ _ _ _ (by simp)]; rfl
  · simp

/-- What is left of a side behind its word. -/
def sideN (s : ByteArray) (j : Nat) : (Nat × Nat) ⊕ (Nat × Nat) := if !numSix s j then .inr (j, 2) else if 100 < (num s j).1 then .inr (j, 1) else .inl ((num s j).1, (num s j).2)
theorem sideS_inl {s : ByteArray} {ws : List Nat} {i j : Nat} (h : wordF s ws i = .inl j) : sideS s ws i = sideN s j := by unfold sideS sideN; rw [h]
theorem sideS_inr {s : ByteArray} {ws : List Nat} {i j : Nat} (h : wordF s ws i = .inr j) : sideS s ws i = .inr (j, 2) := by unfold sideS; rw [h]
theorem hdQ_no {s : ByteArray} {q i a b j : Nat} (h : wordF s (bts (wd q)) i = .inr j) : hdQ s q i a b = .inr (j, 2) := by
  rw [wd_word] at h
  unfold hdQ
  split
  · rename_i e; rw [if_pos e] at h; unfold hd0; rw [sideS_inr h]
  · rename_i e; rw [if_neg e] at h
    split
    · rename_i e; rw [if_pos e] at h; unfold hd1; rw [sideS_inr h]
    · rename_i e; rw [if_neg e] at h; unfold hd2; rw [h]
theorem hdQ_bad {s : ByteArray} {q i a b j k f : Nat} (hq : q < 2) (h : wordF s (bts (wd q)) i = .inl j) (hn : sideN s j = .inr (k, f)) : hdQ s q i a b = .inr (k, f) := by
  rw [wd_word] at h
  unfold hdQ
  split
  · rename_i e; rw [if_pos e] at h; unfold hd0; rw [sideS_inl h, hn]
  · rename_i e; rw [if_neg e, if_pos (by omega)] at h
    rw [if_pos (by omega)]; unfold hd1; rw [sideS_inl h, hn]
theorem hdQ_0 {s : ByteArray} {i a b j k n : Nat} (h : wordF s (bts (wd 0)) i = .inl j) (hn : sideN s j = .inl (n, k)) : hdQ s 0 i a b = hdQ s 1 k n b := by
  rw [wd_word] at h
  unfold hdQ
  rw [if_pos rfl] at h
  simp only [if_true, Nat.one_ne_zero, if_false]
  unfold hd0
  rw [sideS_inl h, hn]
theorem hdQ_1 {s : ByteArray} {i a b j k n : Nat} (h : wordF s (bts (wd 1)) i = .inl j) (hn : sideN s j = .inl (n, k)) : hdQ s 1 i a b = hdQ s 2 k a n := by
  rw [wd_word] at h
  unfold hdQ
  rw [if_neg (by omega), if_pos rfl] at h
  rw [if_neg (by omega), if_pos rfl, if_neg (by omega), if_neg (by omega)]
  unfold hd1
  rw [sideS_inl h, hn]
theorem hdQ_2 {s : ByteArray} {i a b j : Nat} (h : wordF s (bts (wd 2)) i = .inl j) : hdQ s 2 i a b = .inl (a, b, j) := by
  rw [wd_word] at h
  unfold hdQ
  rw [if_neg (by omega), if_neg (by omega)] at h
  rw [if_neg (by omega), if_neg (by omega)]
  unfold hd2
  rw [h]
theorem six_of {s : ByteArray} {j : Nat} {N : Int} (h : NumRef s j N) :
    (N < 0 ∧ numSix s j = false) ∨ (¬ N < 0 ∧ (j : Int) + 6 < ((num s j).2 : Int) ∧ numSix s j = false) ∨ (¬ N < 0 ∧ ¬ (j : Int) + 6 < ((num s j).2 : Int) ∧ numSix s j = true ∧ N = ((num s j).1 : Int)) := by
  have hg := num_ge s j
  by_cases b : (num s j).2 = j ∨ (1 < (num s j).2 - j ∧ bt s j = 48)
  · left
    have := h.bad b
    exact ⟨by omega, numSix_false.2 (by omega)⟩
  · right
    have h0 := h.good b
    by_cases c : (num s j).2 - j ≤ 6
    · right
      have hb := num_bound s j c
      have hok : numOk s j 0 999999 = true := by
        simp [numOk]
        omega
      exact ⟨by omega, by omega, numSix_true.2 (by omega), (h.ok 0 999999 (by omega) hok).1⟩
    · left
      exact ⟨by omega, by omega, numSix_false.2 (by omega)⟩

end Go.Proofs.Ytbkllhlapdmlfaa

namespace Go.Proofs.Ytbkllhlapdmlfaa
open Go.RowKit
set_option linter.unusedVariables false

theorem bts_x : bts ⟨#[120, 32, 61, 32]⟩ = [120, 32, 61, 32] := by decide
theorem bts_y : bts ⟨#[44, 32, 121, 32, 61, 32]⟩ = [44, 32, 121, 32, 61, 32] := by decide
theorem bts_n : bts ⟨#[10]⟩ = [10] := by decide

def HeadPost (b : Nat) (s : ByteArray) (r : Rv) (w : World) (e : Ending) (w' : World) : Prop :=
  (∃ W H k g, headS s = .inl (W, H, k) ∧ e = .returned (.bool true) ∧ RAt b s { r with i := k, wd := (W : Int), hi := (H : Int), cs := .slice (some ⟨g, 0, none⟩) (W * H) (W * H) } w' ∧ w.heap.size ≤ g ∧ Cel w' g (List.replicate (W * H) 0) ∧ Rd b w w' ∧ k ≤ s.size ∧ W ≤ 100 ∧ H ≤ 100) ∨
  (∃ a f : Nat, headS s = .inr (a, f) ∧ e = .returned (.bool false) ∧ RAt b s { r with i := a, fl := f } w' ∧ Rd b w w')

theorem Below.toRd {b : Nat} {w w' : World} (h : Below w.heap.size w w') : Rd b w w' := ⟨h.os, h.tape, h.output, h.size, fun k hk _ => h.block k hk⟩

def CountPost (b : Nat) (s : ByteArray) (r : Rv) (w : World) (e : Ending) (w' : World) : Prop :=
  (tagBad s r.i = false ∧ e = .returned (.bool true) ∧ RAt b s { r with i := tagK s r.i, bg := (r.i : Int), tm := (tagN s r.i : Int) } w' ∧ Rd b w w' ∧ tagK s r.i ≤ s.size) ∨
  (tagBad s r.i = true ∧ e = .returned (.bool false) ∧ (∃ t, RAt b s { r with i := r.i, fl := 2, bg := (r.i : Int), tm := t } w') ∧ Rd b w w')

end Go.Proofs.Ytbkllhlapdmlfaa

namespace Go.Proofs.Ytbkllhlapdmlfaa
open Go.RowKit
set_option linter.unusedVariables false

end Go.Proofs.Ytbkllhlapdmlfaa

namespace Go.Proofs.Ytbkllhlapdmlfaa
open Go

/-- As Q; by a goto to label l: J l. -/
def jumps (J : Nat → Act → World → Prop) (Q : Exit → Act → World → Prop) : Exit → Act → World → Prop
  | .goto l, a, w => J l a w
  | e, a, w => Q e a w

section
variable {P : Program} {a : Act} {w : World} {Q : Exit → Act → World → Prop}

theorem wp_scope_labels {c : Code} (J : Nat → Act → World → Prop) (μ : Nat → Act → World → Nat)
    (first : c.wp P (jumps J Q) a w)
    (pass : ∀ l a w, J l a w → ∃ rest, findLabel c l = some rest ∧ rest.wp P (jumps (fun l' a' w' => J l' a' w' ∧ μ l' a' w' < μ l a w) Q) a w) : (Code.scope c).wp P Q a w := by
  intro b k cs
  have key : ∀ n l a w, μ l a w = n → J l a w → ∃ rest, findLabel c l = some rest ∧ ∃ e a' w', Q e a' w' ∧ Arrives P (lone (b.at a (.code rest :: .inScope c :: k)) cs w) b k cs e a' w' := by
    intro n
    induction n using Nat.strongRecOn with
    | _ n ih =>
      intro l a w hn hJ
      obtain ⟨rest, hf, hp⟩ := pass l a w hJ
      refine ⟨rest, hf, ?_⟩
      obtain ⟨e, a₁, w₁, hq, harr⟩ := hp b (.inScope c :: k) cs
      cases e with
      | normal => exact ⟨.normal, a₁, w₁, hq, Steps.trans harr (.one step_inScope)⟩
      | exit id => exact ⟨.exit id, a₁, w₁, hq, fun k' hk => harr k' (by simp [exitTo, hk])⟩
      | goto l' =>
        obtain ⟨hJ', hlt⟩ := hq
        obtain ⟨rest', hf', e₂, a₂, w₂, hq₂, harr₂⟩ := ih _ (by omega) l' a₁ w₁ rfl hJ'
        have hg : gotoIn l' (.inScope c :: k) = some (.code rest' :: .inScope c :: k) := by simp [gotoIn, hf']
        exact ⟨e₂, a₂, w₂, hq₂, .of_steps (harr _ hg) harr₂⟩
      | ret => exact ⟨_, a₁, w₁, hq, harr⟩
      | panic ch => exact ⟨_, a₁, w₁, hq, harr⟩
      | outgrown => exact ⟨_, a₁, w₁, hq, harr⟩
  obtain ⟨e, a₁, w₁, hq, harr⟩ := first b (.inScope c :: k) cs
  cases e with
  | normal => exact ⟨.normal, a₁, w₁, hq, .head step_scope (Steps.trans harr (.one step_inScope))⟩
  | exit id => exact ⟨.exit id, a₁, w₁, hq, fun k' hk => .head step_scope (harr k' (by simp [exitTo, hk]))⟩
  | goto l' =>
    obtain ⟨rest', hf', e₂, a₂, w₂, hq₂, harr₂⟩ := key _ l' a₁ w₁ rfl hq
    have hg : gotoIn l' (.inScope c :: k) = some (.code rest' :: .inScope c :: k) := by simp [gotoIn, hf']
    exact ⟨e₂, a₂, w₂, hq₂, .of_steps (.head step_scope (harr _ hg)) harr₂⟩
  | ret => exact ⟨_, a₁, w₁, hq, .of_steps (.one step_scope) harr⟩
  | panic ch => exact ⟨_, a₁, w₁, hq, .of_steps (.one step_scope) harr⟩
  | outgrown => exact ⟨_, a₁, w₁, hq, .of_steps (.one step_scope) harr⟩
end
end Go.Proofs.Ytbkllhlapdmlfaa

namespace Go.Proofs.Ytbkllhlapdmlfaa
open Go.RowKit
set_option linter.unusedVariables false

/-- The frame at a jump: the text, where the result and the reader lie. -/
def RunFrame (s : ByteArray) (R b : Nat) (a' : Act) : Prop := ∃ u6 u7 u8 u9 u10 u11 u12 u13 u14 u15 u16 u17 u18 u19 u20 u21 u22 u23 u24 u25 u26 u27 u28 u29 u30 u31 u32 u33 u34 u35 u36 u37 u38 u39 u40 u41 u42 u43 u44 u45 u46 u47 u48 u49 : Value, a' = { tmps := #[.string s, undef, .pointer (some ⟨R, 0, none⟩), .int .i64 0, .nilIface, .pointer (some ⟨b, 0, none⟩), u6, u7, u8, u9, u10, u11, u12, u13, u14, u15, u16, u17, u18, u19, u20, u21, u22, u23, u24, u25, u26, u27, u28, u29, u30, u31, u32, u33, u34, u35, u36, u37, u38, u39, u40, u41, u42, u43, u44, u45, u46, u47, u48, u49], defers := [] }

/-- The result's block. -/
structure ResB (R : Nat) (w : World) : Prop where
  c0 : w.cell? ⟨R, 0, none⟩ = some (.int .i64 0)
  c1 : w.cell? ⟨R, 1, none⟩ = some (.int .i64 0)
  c2 : w.cell? ⟨R, 2, none⟩ = some (.slice none 0 0)
  f0 : w.frozen? ⟨R, 0, none⟩ = false
  f1 : w.frozen? ⟨R, 1, none⟩ = false
  f2 : w.frozen? ⟨R, 2, none⟩ = false
theorem ResB.block {R : Nat} {w w' : World} (h : ResB R w) (e : w'.heap[R]? = w.heap[R]?) : ResB R w' :=
  ⟨(World.cell?_of_block (w := w) (a := ⟨R, 0, none⟩) e).trans h.c0, (World.cell?_of_block (w := w) (a := ⟨R, 1, none⟩) e).trans h.c1, (World.cell?_of_block (w := w) (a := ⟨R, 2, none⟩) e).trans h.c2,
   (World.frozen?_of_block (w := w) (a := ⟨R, 0, none⟩) e).trans h.f0, (World.frozen?_of_block (w := w) (a := ⟨R, 1, none⟩) e).trans h.f1, (World.frozen?_of_block (w := w) (a := ⟨R, 2, none⟩) e).trans h.f2⟩
theorem ResB.below {w w' : World} {R : Nat} (h : ResB R w) (hR : R < w.heap.size) (hb : Below (R + 1) w w') : ResB R w' := h.block (hb.block R (by omega))

def fin2 (W H : Nat) : List Int ⊕ (Nat × Nat) → (Nat × Nat × List Int) ⊕ (Nat × Nat)
  | .inl xs => .inl (W, H, xs)
  | .inr e => .inr e
def fin3 (s : ByteArray) (W H i : Nat) (xs : List Int) : (Nat × Nat × List Int) ⊕ (Nat × Nat) :=
  if sk s i = s.size then .inl (W, H, xs) else .inr (sk s i, 2)

def mAll (s : ByteArray) (w0 : World) (l : Nat) (_ : Act) (w' : World) : Nat := match l with | 0 => 0 | 2 => 1 | _ => 2 + (s.size - posOf (w0.heap.size + 1) w')

def RunsPost (s : ByteArray) (w : World) (e : Ending) (w' : World) : Prop :=
  Below w.heap.size w w' ∧
  ((∃ W H xs g, runsS s = .inl (W, H, xs) ∧ e = .returned (.tuple #[.agg #[.int .i64 (W : Int), .int .i64 (H : Int), .slice (some ⟨g, 0, none⟩) (W * H) (W * H)], .int .i64 0, .nilIface]) ∧ Cel w' g xs ∧ xs.length = W * H ∧ W ≤ 100 ∧ H ≤ 100) ∨
   (∃ a f : Nat, runsS s = .inr (a, f) ∧ e = .returned (.tuple #[.agg #[.int .i64 0, .int .i64 0, .slice none 0 0], .int .i64 (a : Int), .iface 74 (.int .i64 (f : Int))])))

end Go.Proofs.Ytbkllhlapdmlfaa

