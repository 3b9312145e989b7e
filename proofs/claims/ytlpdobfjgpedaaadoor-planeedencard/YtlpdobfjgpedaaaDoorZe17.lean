/-
  What the last text of this claim leans on, part 17: Pa7, Pa8, Jumps, Pa9, Pa10, Qa2.
-/
import Derived.Test.YtlpdobfjgpedaaaDoorZe9
import Derived.Test.YtlpdobfjgpedaaaDoorZe16
import Derived.Scope
import Derived.WalkMore
namespace Go.Proofs.YtlpdobfjgpedaaaDoor
open Go.RowKit
set_option linter.unusedVariables false

theorem bts_x : bts ⟨#[120, 32, 61, 32]⟩ = [120, 32, 61, 32] := by decide
theorem bts_y : bts ⟨#[44, 32, 121, 32, 61, 32]⟩ = [44, 32, 121, 32, 61, 32] := by decide
theorem bts_n : bts ⟨#[10]⟩ = [10] := by decide

def HeadPost (b : Nat) (s : ByteArray) (r : Rv) (w : World) (e : Ending) (w' : World) : Prop :=
  (∃ W H k g, headS s = .inl (W, H, k) ∧ e = .returned (.bool true) ∧ RAt b s { r with i := k, wd := (W : Int), hi := (H : Int), cs := .slice (some ⟨g, 0, none⟩) (W * H) (W * H) } w' ∧ w.heap.size ≤ g ∧ Cel w' g (List.replicate (W * H) 0) ∧ Rd b w w' ∧ k ≤ s.size ∧ W ≤ 100 ∧ H ≤ 100) ∨
  (∃ a f : Nat, headS s = .inr (a, f) ∧ e = .returned (.bool false) ∧ RAt b s { r with i := a, fl := f } w' ∧ Rd b w w')

theorem Below.toRd {b : Nat} {w w' : World} (h : Below w.heap.size w w') : Rd b w w' := ⟨h.os, h.tape, h.output, h.size, fun k hk _ => h.block k hk⟩

def CountPost (b : Nat) (s : ByteArray) (r : Rv) (w : World) (e : Ending) (w' : World) : Prop :=
  (tagBad s r.i = false ∧ e = .returned (.bool true) ∧ RAt b s { r with i := tagK s r.i, bg := (r.i : Int), tm := (tagN s r.i : Int) } w' ∧ Rd b w w' ∧ tagK s r.i ≤ s.size) ∨
  (tagBad s r.i = true ∧ e = .returned (.bool false) ∧ (∃ t, RAt b s { r with i := r.i, fl := 2, bg := (r.i : Int), tm := t } w') ∧ Rd b w w')

end Go.Proofs.YtlpdobfjgpedaaaDoor

namespace Go.Proofs.YtlpdobfjgpedaaaDoor
open Go.RowKit
set_option linter.unusedVariables false

end Go.Proofs.YtlpdobfjgpedaaaDoor

namespace Go.Proofs.YtlpdobfjgpedaaaDoor
open Go

/-- As Q; by a goto to label l: J l. -/
def jumps (J : Nat → Act → World → Prop) (Q : Exit → Act → World → Prop) : Exit → Act → World → Prop
  | .goto l, a, w => J l a w
  | e, a, w => Q e a w

section
variable {P : Program} {a : Act} {w : World} {Q : Exit → Act → World → Prop}

theorem wp_scope_labels {c : Code} (J : Nat → Act → World → Prop) (μ : Nat → Act → World → Nat)
    (first : c.wp P (jumps J Q) a w)
    (pass : ∀ l a w, J l a w → ∃ rest, findLabel c l = some rest ∧ rest.wp P (jumps (fun l' a' w' => J l' a' w' ∧ μ l' a' w' < μ l a w) Q) a w) : (Code.scope c).wp P Q a w := by
  intro b k cs
  have key : ∀ n l a w, μ l a w = n → J l a w → ∃ rest, findLabel c l = some rest ∧ ∃ e a' w', Q e a' w' ∧ Arrives P (lone (b.at a (.code rest :: .inScope c :: k)) cs w) b k cs e a' w' := by
    intro n
    induction n using Nat.strongRecOn with
    | _ n ih =>
      intro l a w hn hJ
      obtain ⟨rest, hf, hp⟩ := pass l a w hJ
      refine ⟨rest, hf, ?_⟩
      obtain ⟨e, a₁, w₁, hq, harr⟩ := hp b (.inScope c :: k) cs
      cases e with
      | normal => exact ⟨.normal, a₁, w₁, hq, Steps.trans harr (.one step_inScope)⟩
      | exit id => exact ⟨.exit id, a₁, w₁, hq, fun k' hk => harr k' (by simp [exitTo, hk])⟩
      | goto l' =>
        obtain ⟨hJ', hlt⟩ := hq
        obtain ⟨rest', hf', e₂, a₂, w₂, hq₂, harr₂⟩ := ih _ (by omega) l' a₁ w₁ rfl hJ'
        have hg : gotoIn l' (.inScope c :: k) = some (.code rest' :: .inScope c :: k) := by simp [gotoIn, hf']
        exact ⟨e₂, a₂, w₂, hq₂, .of_steps (harr _ hg) harr₂⟩
      | ret => exact ⟨_, a₁, w₁, hq, harr⟩
      | panic ch => exact ⟨_, a₁, w₁, hq, harr⟩
      | outgrown => exact ⟨_, a₁, w₁, hq, harr⟩
  obtain ⟨e, a₁, w₁, hq, harr⟩ := first b (.inScope c :: k) cs
  cases e with
  | normal => exact ⟨.normal, a₁, w₁, hq, .head step_scope (Steps.trans harr (.one step_inScope))⟩
  | exit id => exact ⟨.exit id, a₁, w₁, hq, fun k' hk => .head step_scope (harr k' (by simp [exitTo, hk]))⟩
  | goto l' =>
    obtain ⟨rest', hf', e₂, a₂, w₂, hq₂, harr₂⟩ := key _ l' a₁ w₁ rfl hq
    have hg : gotoIn l' (.inScope c :: k) = some (.code rest' :: .inScope c :: k) := by simp [gotoIn, hf']
    exact ⟨e₂, a₂, w₂, hq₂, .of_steps (.head step_scope (harr _ hg)) harr₂⟩
  | ret => exact ⟨_, a₁, w₁, hq, .of_steps (.one step_scope) harr⟩
  | panic ch => exact ⟨_, a₁, w₁, hq, .of_steps (.one step_scope) harr⟩
  | outgrown => exact ⟨_, a₁, w₁, hq, .of_steps (.one step_scope) harr⟩
end
end Go.Proofs.YtlpdobfjgpedaaaDoor

namespace Go.Proofs.YtlpdobfjgpedaaaDoor
open Go.RowKit
set_option linter.unusedVariables false

/-- The frame at a jump: the text, where the result and the reader lie. -/
def RunFrame (s : ByteArray) (R b : Nat) (a' : Act) : Prop := ∃ u6 u7 u8 u9 u10 u11 u12 u13 u14 u15 u16 u17 u18 u19 u20 u21 u22 u23 u24 u25 u26 u27 u28 u29 u30 u31 u32 u33 u34 u35 u36 u37 u38 u39 u40 u41 u42 u43 u44 u45 u46 u47 u48 u49 : Value, a' = { tmps := #[.string s, undef, .pointer (some ⟨R, 0, none⟩), .int .i64 0, .nilIface, .pointer (some ⟨b, 0, none⟩), u6, u7, u8, u9, u10, u11, u12, u13, u14, u15, u16, u17, u18, u19, u20, u21, u22, u23, u24, u25, u26, u27, u28, u29, u30, u31, u32, u33, u34, u35, u36, u37, u38, u39, u40, u41, u42, u43, u44, u45, u46, u47, u48, u49], defers := [] }

/-- The result's block. -/
structure ResB (R : Nat) (w : World) : Prop where
  c0 : w.cell? ⟨R, 0, none⟩ = some (.int .i64 0)
  c1 : w.cell? ⟨R, 1, none⟩ = some (.int .i64 0)
  c2 : w.cell? ⟨R, 2, none⟩ = some (.slice none 0 0)
  f0 : w.frozen? ⟨R, 0, none⟩ = false
  f1 : w.frozen? ⟨R, 1, none⟩ = false
  f2 : w.frozen? ⟨R, 2, none⟩ = false
theorem ResB.block {R : Nat} {w w' : World} (h : ResB R w) (e : w'.heap[R]? = w.heap[R]?) : ResB R w' :=
  ⟨(World.cell?_of_block (w := w) (a := ⟨R, 0, none⟩) e).trans h.c0, (World.cell?_of_block (w := w) (a := ⟨R, 1, none⟩) e).trans h.c1, (World.cell?_of_block (w := w) (a := ⟨R, 2, none⟩) e).trans h.c2,
   (World.frozen?_of_block (w := w) (a := ⟨R, 0, none⟩) e).trans h.f0, (World.frozen?_of_block (w := w) (a := ⟨R, 1, none⟩) e).trans h.f1, (World.frozen?_of_block (w := w) (a := ⟨R, 2, none⟩) e).trans h.f2⟩
def resW (w : World) : World := w.alloc (.cells #[.int .i64 0, .int .i64 0, .slice none 0 0] 26)
theorem resW_size (w : World) : (resW w).heap.size = w.heap.size + 1 := by simp [resW]
theorem resW_res (w : World) : ResB w.heap.size (resW w) := by
  unfold resW
  exact ⟨cell_new_at _ _ _ _, cell_new_at _ _ _ _, cell_new_at _ _ _ _, by simp, by simp, by simp⟩
theorem ResB.below {w w' : World} {R : Nat} (h : ResB R w) (hR : R < w.heap.size) (hb : Below (R + 1) w w') : ResB R w' := h.block (hb.block R (by omega))

def fin2 (W H : Nat) : List Int ⊕ (Nat × Nat) → (Nat × Nat × List Int) ⊕ (Nat × Nat)
  | .inl xs => .inl (W, H, xs)
  | .inr e => .inr e
def fin3 (s : ByteArray) (W H i : Nat) (xs : List Int) : (Nat × Nat × List Int) ⊕ (Nat × Nat) :=
  if sk s i = s.size then .inl (W, H, xs) else .inr (sk s i, 2)

structure JWrong (s : ByteArray) (w0 w' : World) : Prop where
  at_ : ∃ r f : Nat, ∃ v : Rv, RAt (w0.heap.size + 1) s v w' ∧ v.i = r ∧ v.fl = (f : Int) ∧ runsS s = .inr (r, f)
  below : Below (w0.heap.size + 1) (resW w0) w'
structure JCells (s : ByteArray) (w0 w' : World) (v : Rv) (W H g : Nat) (xs : List Int) : Prop where
  rat : RAt (w0.heap.size + 1) s v w'
  wd : v.wd = (W : Int)
  hi : v.hi = (H : Int)
  cs : v.cs = .slice (some ⟨g, 0, none⟩) (W * H) (W * H)
  cel : Cel w' g xs
  len : xs.length = W * H
  gb : w0.heap.size + 1 < g
  lw : W ≤ 100
  lh : H ≤ 100
  li : v.i ≤ s.size
  below : Below (w0.heap.size + 1) (resW w0) w'
def JRun (s : ByteArray) (w0 w' : World) : Prop := ∃ (v : Rv) (W H g x y : Nat) (xs : List Int), JCells s w0 w' v W H g xs ∧ v.rt = (x : Int) ∧ v.dn = (y : Int) ∧ x ≤ W ∧ y ≤ H ∧ fin2 W H (tagsF s W H (s.size + 1 - v.i) v.i x y xs) = runsS s
def JRest (s : ByteArray) (w0 w' : World) : Prop := ∃ (v : Rv) (W H g : Nat) (xs : List Int), JCells s w0 w' v W H g xs ∧ fin3 s W H v.i xs = runsS s

def JAll (s : ByteArray) (w0 : World) (l : Nat) (a' : Act) (w' : World) : Prop :=
  RunFrame s w0.heap.size (w0.heap.size + 1) a' ∧ ((l = 0 ∧ JWrong s w0 w') ∨ (l = 1 ∧ JRun s w0 w') ∨ (l = 2 ∧ JRest s w0 w'))
def mAll (s : ByteArray) (w0 : World) (l : Nat) (_ : Act) (w' : World) : Nat := match l with | 0 => 0 | 2 => 1 | _ => 2 + (s.size - posOf (w0.heap.size + 1) w')

theorem JCells.rd {s : ByteArray} {w0 w' w'' : World} {v v' : Rv} {W H g : Nat} {xs : List Int} (h : JCells s w0 w' v W H g xs) (ha : RAt (w0.heap.size + 1) s v' w'') (hr : Rd (w0.heap.size + 1) w' w'') (h1 : v'.wd = v.wd) (h2 : v'.hi = v.hi) (h3 : v'.cs = v.cs) (h4 : v'.i ≤ s.size) : JCells s w0 w'' v' W H g xs :=
  ⟨ha, h1.trans h.wd, h2.trans h.hi, h3.trans h.cs, h.cel.rd hr (by have := h.gb; omega), h.len, h.gb, h.lw, h.lh, h4, h.below.trans (hr.below (Nat.le_refl _) (by have := h.below.size; rw [resW_size] at this; omega))⟩

def RunsPost (s : ByteArray) (w : World) (e : Ending) (w' : World) : Prop :=
  Below w.heap.size w w' ∧
  ((∃ W H xs g, runsS s = .inl (W, H, xs) ∧ e = .returned (.tuple #[.agg #[.int .i64 (W : Int), .int .i64 (H : Int), .slice (some ⟨g, 0, none⟩) (W * H) (W * H)], .int .i64 0, .nilIface]) ∧ Cel w' g xs ∧ xs.length = W * H ∧ W ≤ 100 ∧ H ≤ 100) ∨
   (∃ a f : Nat, runsS s = .inr (a, f) ∧ e = .returned (.tuple #[.agg #[.int .i64 0, .int .i64 0, .slice none 0 0], .int .i64 (a : Int), .iface 54 (.int .i64 (f : Int))])))

end Go.Proofs.YtlpdobfjgpedaaaDoor

namespace Go.Proofs.YtlpdobfjgpedaaaDoor
open Go.RowKit
set_option linter.unusedVariables false

theorem tag1_bad {s : ByteArray} {W H j x y : Nat} {xs : List Int} (h : tagBad s j = true) : tag1 s W H j x y xs = .bad j 2 := by
  unfold tag1; rw [if_pos h]
theorem tag1_none {s : ByteArray} {W H j x y : Nat} {xs : List Int} (h : tagBad s j = false) (h1 : ¬ bt s (tagK s j) = 98) (h2 : ¬ bt s (tagK s j) = 111) (h3 : ¬ bt s (tagK s j) = 36) (h4 : ¬ bt s (tagK s j) = 33) : tag1 s W H j x y xs = .bad (tagK s j) 2 := by
  unfold tag1
  rw [if_neg (by rw [h]; simp)]
  split
  · rfl
  · simp [h1, h2]
theorem tag1_cells_bad {s : ByteArray} {W H j x y : Nat} {xs : List Int} (h : tagBad s j = false) (hk : tagK s j < s.size) (h1 : bt s (tagK s j) = 98 ∨ bt s (tagK s j) = 111) (h2 : H ≤ y ∨ W < x + tagN s j) : tag1 s W H j x y xs = .bad j 1 := by
  unfold tag1
  rw [if_neg (by rw [h]; simp), if_neg (by omega), if_pos h1, if_pos h2]
theorem tag1_cells_on {s : ByteArray} {W H j x y : Nat} {xs : List Int} (c : Int) (h : tagBad s j = false) (hk : tagK s j < s.size) (h1 : bt s (tagK s j) = 98 ∨ bt s (tagK s j) = 111) (hc : (if bt s (tagK s j) = 111 then (1 : Int) else 0) = c) (h2 : ¬ (H ≤ y ∨ W < x + tagN s j)) : tag1 s W H j x y xs = .on (tagK s j + 1) (x + tagN s j) y (setRun xs (y * W + x) (tagN s j) c) := by
  unfold tag1
  rw [if_neg (by rw [h]; simp), if_neg (by omega), if_pos h1, if_neg h2, hc]
theorem tag1_rows_bad {s : ByteArray} {W H j x y : Nat} {xs : List Int} (h : tagBad s j = false) (hk : tagK s j < s.size) (h1 : bt s (tagK s j) = 36) (h2 : H ≤ y + tagN s j) : tag1 s W H j x y xs = .bad j 1 := by
  unfold tag1
  rw [if_neg (by rw [h]; simp), if_neg (by omega), if_neg (by omega), if_pos h1, if_pos h2]
theorem tag1_rows_on {s : ByteArray} {W H j x y : Nat} {xs : List Int} (h : tagBad s j = false) (hk : tagK s j < s.size) (h1 : bt s (tagK s j) = 36) (h2 : ¬ H ≤ y + tagN s j) : tag1 s W H j x y xs = .on (tagK s j + 1) 0 (y + tagN s j) xs := by
  unfold tag1
  rw [if_neg (by rw [h]; simp), if_neg (by omega), if_neg (by omega), if_pos h1, if_neg h2]
theorem tag1_end_bad {s : ByteArray} {W H j x y : Nat} {xs : List Int} (h : tagBad s j = false) (hk : tagK s j < s.size) (h1 : bt s (tagK s j) = 33) (h2 : tagK s j ≠ j) : tag1 s W H j x y xs = .bad (tagK s j) 2 := by
  unfold tag1
  rw [if_neg (by rw [h]; simp), if_neg (by omega), if_neg (by omega), if_neg (by omega), if_pos h1, if_pos (fun e => h2 e.symm)]
theorem tag1_end {s : ByteArray} {W H j x y : Nat} {xs : List Int} (h : tagBad s j = false) (hk : tagK s j < s.size) (h1 : bt s (tagK s j) = 33) (h2 : tagK s j = j) : tag1 s W H j x y xs = if sk s (tagK s j + 1) = s.size then .done xs else .bad (sk s (tagK s j + 1)) 2 := by
  unfold tag1
  rw [if_neg (by rw [h]; simp), if_neg (by omega), if_neg (by omega), if_neg (by omega), if_pos h1, if_neg (fun e => e h2.symm)]
theorem tag1_on {s : ByteArray} {W H j x y i' x' y' : Nat} {xs xs' : List Int} (h : tag1 s W H j x y xs = .on i' x' y' xs') : j < i' ∧ i' ≤ s.size := by
  have hk := tagK_ge s j
  unfold tag1 at h
  split at h
  · cases h
  split at h
  · cases h
  split at h
  · split at h
    · cases h
    · simp only [Sum.inl.injEq, Prod.mk.injEq] at h; omega
  split at h
  · split at h
    · cases h
    · simp only [Sum.inl.injEq, Prod.mk.injEq] at h; omega
  split at h
  · split at h
    · cases h
    · split at h <;> cases h
  · cases h

theorem tagsF_fuel (s : ByteArray) (W H : Nat) : ∀ f f' i x y xs, i ≤ s.size → s.size + 1 - i ≤ f → s.size + 1 - i ≤ f' → tagsF s W H f i x y xs = tagsF s W H f' i x y xs := by
  intro f
  induction f with
  | zero => intro f' i x y xs h1 h2; omega
  | succ f ih =>
    intro f' i x y xs h1 h2 h3
    obtain ⟨f'', rfl⟩ : ∃ f'', f' = f'' + 1 := ⟨f' - 1, by omega⟩
    simp only [tagsF]
    cases ht : tag1 s W H (sk s i) x y xs with
    | inl q =>
      obtain ⟨i', x', y', xs'⟩ := q
      have := tag1_on ht
      have := sk_ge s i
      exact ih f'' i' x' y' xs' (by omega) (by omega) (by omega)
    | inr q => cases q <;> rfl
theorem tagsF_bad {s : ByteArray} {W H i x y a e : Nat} {xs : List Int} (hi : i ≤ s.size) (h : tag1 s W H (sk s i) x y xs = .bad a e) : tagsF s W H (s.size + 1 - i) i x y xs = .inr (a, e) := by
  rw [show s.size + 1 - i = (s.size - i) + 1 by omega, tagsF, h]
theorem tagsF_done {s : ByteArray} {W H i x y : Nat} {xs ys : List Int} (hi : i ≤ s.size) (h : tag1 s W H (sk s i) x y xs = .done ys) : tagsF s W H (s.size + 1 - i) i x y xs = .inl ys := by
  rw [show s.size + 1 - i = (s.size - i) + 1 by omega, tagsF, h]
theorem tagsF_on {s : ByteArray} {W H i x y i' x' y' : Nat} {xs xs' : List Int} (hi : i ≤ s.size) (h : tag1 s W H (sk s i) x y xs = .on i' x' y' xs') : tagsF s W H (s.size + 1 - i) i x y xs = tagsF s W H (s.size + 1 - i') i' x' y' xs' := by
  rw [show s.size + 1 - i = (s.size - i) + 1 by omega, tagsF, h]
  have := tag1_on h
  have := sk_ge s i
  exact tagsF_fuel s W H _ _ _ _ _ _ (by omega) (by omega) (by omega)
theorem fin_end {s : ByteArray} {W H i x y : Nat} {xs : List Int} (hi : i ≤ s.size) (h : tag1 s W H (sk s i) x y xs = if sk s (tagK s (sk s i) + 1) = s.size then .done xs else .bad (sk s (tagK s (sk s i) + 1)) 2) :
    fin2 W H (tagsF s W H (s.size + 1 - i) i x y xs) = fin3 s W H (tagK s (sk s i) + 1) xs := by
  unfold fin3
  split
  · rename_i q
    rw [if_pos q] at h
    rw [tagsF_done hi h]; rfl
  · rename_i q
    rw [if_neg q] at h
    rw [tagsF_bad hi h]; rfl
theorem tagN_lt {s : ByteArray} {j : Nat} (h : tagBad s j = false) : tagN s j < 1000000 := by
  unfold tagN
  split
  · rename_i hd
    unfold tagBad at h
    rw [hd] at h
    simp at h
    exact num_bound s j (numSix_true.1 h.1).2.2
  · omega

theorem JWrong.mk' {s : ByteArray} {w0 w' w'' : World} {v v' : Rv} {W H g : Nat} {xs : List Int} (h : JCells s w0 w' v W H g xs) (ha : RAt (w0.heap.size + 1) s v' w'') (hr : Rd (w0.heap.size + 1) w' w'') (r f : Nat) (h1 : v'.i = r) (h2 : v'.fl = (f : Int)) (h3 : runsS s = .inr (r, f)) : JWrong s w0 w'' :=
  ⟨⟨r, f, v', ha, h1, h2, h3⟩, h.below.trans (hr.below (Nat.le_refl _) (by have := h.below.size; rw [resW_size] at this; omega))⟩
theorem JCells.cells {s : ByteArray} {w0 w' w'' : World} {v v' : Rv} {W H g : Nat} {xs xs' : List Int} (h : JCells s w0 w' v W H g xs) (ha : RAt (w0.heap.size + 1) s v' w'') (hb : Below (w0.heap.size + 1) w' w'') (hC : Cel w'' g xs') (hl : xs'.length = xs.length) (h1 : v'.wd = v.wd) (h2 : v'.hi = v.hi) (h3 : v'.cs = v.cs) (h4 : v'.i ≤ s.size) : JCells s w0 w'' v' W H g xs' :=
  ⟨ha, h1.trans h.wd, h2.trans h.hi, h3.trans h.cs, hC, hl.trans h.len, h.gb, h.lw, h.lh, h4, h.below.trans hb⟩
end Go.Proofs.YtlpdobfjgpedaaaDoor

namespace Go.Proofs.YtlpdobfjgpedaaaDoor
open Go.RowKit
set_option linter.unusedVariables false

structure RS (w wr : World) (P W H : Nat) (xs : List Int) : Prop where
  res : ResB w.heap.size wr
  non : ResB (w.heap.size + 1) wr
  p0 : wr.cell? ⟨P, 0, none⟩ = some (.int .i64 (W : Int))
  p1 : wr.cell? ⟨P, 1, none⟩ = some (.int .i64 (H : Int))
  p2 : wr.cell? ⟨P, 2, none⟩ = some (.slice (some ⟨P + 1, 0, none⟩) (W * H) (W * H))
  cel : Cel wr (P + 1) xs
  len : xs.length = W * H
  hP : w.heap.size + 2 ≤ P
  below : Below w.heap.size w wr
theorem RS.set {w wr : World} {P W H : Nat} {xs : List Int} (h : RS w wr P W H xs) (p : Nat) (x : Int) (hp : p < xs.length) : RS w (wr.setCell ⟨P + 1, p, none⟩ (.int .i64 x)) P W H (xs.set p x) := by
  have hP := h.hP
  refine ⟨h.res.block (Below.heap_setCell _ _ _ _ (by simp; omega)), h.non.block (Below.heap_setCell _ _ _ _ (by simp; omega)), ?_, ?_, ?_, h.cel.set p x hp, by rw [List.length_set]; exact h.len, hP, h.below.setCell (by simp; omega) _⟩
  · exact (World.cell?_of_block (w := wr) (a := ⟨P, 0, none⟩) (Below.heap_setCell _ _ _ _ (by simp))).trans h.p0
  · exact (World.cell?_of_block (w := wr) (a := ⟨P, 1, none⟩) (Below.heap_setCell _ _ _ _ (by simp))).trans h.p1
  · exact (World.cell?_of_block (w := wr) (a := ⟨P, 2, none⟩) (Below.heap_setCell _ _ _ _ (by simp))).trans h.p2

def zeros (xs : List Int) (p : Nat) : Prop := ∀ q, p ≤ q → xs.getD q 0 = 0
theorem zeros_mono {xs : List Int} {p p' : Nat} (h : zeros xs p) (hp : p ≤ p') : zeros xs p' := fun q hq => h q (by omega)
theorem zeros_replicate (n p : Nat) : zeros (List.replicate n 0) p := fun q _ => by
  simp [List.getD, List.getElem?_replicate]
  split <;> rfl
theorem setRun_zero {xs : List Int} {p : Nat} (h : zeros xs p) (n : Nat) : setRun xs p n 0 = xs := by
  induction n with
  | zero => rfl
  | succ n ih =>
    rw [setRun, ih]
    have := h (p + n) (by omega)
    apply List.ext_getElem?
    intro k
    rw [List.getElem?_set]
    split
    · rename_i e
      subst e
      split
      · rename_i hl
        simp [List.getD, hl] at this
        simp [this, hl]
      · rename_i hl
        rw [List.getElem?_eq_none (by omega)]
    · rfl
theorem setRun_zeros {xs : List Int} {p : Nat} (v : Int) : ∀ n, zeros xs (p + n) → zeros (setRun xs p n v) (p + n) := by
  intro n h q hq
  have : ∀ m, m ≤ n → (setRun xs p m v).getD q 0 = xs.getD q 0 := by
    intro m hm
    induction m with
    | zero => rfl
    | succ m ih =>
      rw [setRun]
      rw [← ih (by omega)]
      simp only [List.getD]
      rw [List.getElem?_set_ne (by omega)]
  rw [this n (Nat.le_refl _)]
  exact h q hq

def RefRuns (s : ByteArray) (w : World) (e : Ending) (w' : World) : Prop :=
  Below w.heap.size w w' ∧
  ((∃ W H xs g, runsS s = .inl (W, H, xs) ∧ e = .returned (.tuple #[.agg #[.int .i64 (W : Int), .int .i64 (H : Int), .slice (some ⟨g, 0, none⟩) (W * H) (W * H)], .int .i64 0, .int .i64 0]) ∧ Cel w' g xs ∧ xs.length = W * H ∧ W ≤ 100 ∧ H ≤ 100) ∨
   (∃ a f : Nat, runsS s = .inr (a, f) ∧ 1 ≤ f ∧ e = .returned (.tuple #[.agg #[.int .i64 0, .int .i64 0, .slice none 0 0], .int .i64 (a : Int), .int .i64 (f : Int)])))

/-- The result's block, written. -/
theorem fin_below {w wr : World} (hb : Below w.heap.size w wr) (a b c : Value) : Below w.heap.size w (((wr.setCell ⟨w.heap.size, 0, none⟩ a).setCell ⟨w.heap.size, 1, none⟩ b).setCell ⟨w.heap.size, 2, none⟩ c) :=
  ((hb.setCell (Nat.le_refl _) _).setCell (Nat.le_refl _) _).setCell (Nat.le_refl _) _
theorem fin_cel {w wr : World} {g : Nat} {xs : List Int} (h : Cel wr g xs) (hg : g ≠ w.heap.size) (a b c : Value) : Cel (((wr.setCell ⟨w.heap.size, 0, none⟩ a).setCell ⟨w.heap.size, 1, none⟩ b).setCell ⟨w.heap.size, 2, none⟩ c) g xs :=
  ((h.rd ((Rd.refl w.heap.size _).set 0 _) hg).rd ((Rd.refl w.heap.size _).set 1 _) hg).rd ((Rd.refl w.heap.size _).set 2 _) hg
theorem res_new (w : World) (t : TypeId) : ResB w.heap.size (w.alloc (.cells #[.int .i64 0, .int .i64 0, .slice none 0 0] t)) :=
  ⟨cell_new_at _ _ _ _, cell_new_at _ _ _ _, cell_new_at _ _ _ _, by simp, by simp, by simp⟩
theorem RS.start {w w1 : World} {W H : Nat} (t1 t2 t3 t4 : TypeId) (hW : W ≤ 100) (hH : H ≤ 100)
    (hb : Below (w.heap.size + 2) ((w.alloc (.cells #[.int .i64 0, .int .i64 0, .slice none 0 0] t1)).alloc (.cells #[.int .i64 0, .int .i64 0, .slice none 0 0] t2)) w1) (N : Nat) (hN : W * H = N) :
    RS w ((w1.alloc (.cells #[.int .i64 (W : Int), .int .i64 (H : Int), .slice (some ⟨w1.heap.size + 1, 0, none⟩) N N] t3)).alloc (.cells (madeCells #[.int .i64 0] N) t4)) w1.heap.size W H (List.replicate N 0) := by
  subst hN
  have z := hb.size
  simp at z
  have r0 := (res_new w t1).block (w' := (w.alloc (.cells #[.int .i64 0, .int .i64 0, .slice none 0 0] t1)).alloc (.cells #[.int .i64 0, .int .i64 0, .slice none 0 0] t2)) (Below.heap_alloc _ _ _ (by simp))
  have r1 := res_new (w.alloc (.cells #[.int .i64 0, .int .i64 0, .slice none 0 0] t1)) t2
  rw [show (w.alloc (.cells #[.int .i64 0, .int .i64 0, .slice none 0 0] t1)).heap.size = w.heap.size + 1 by simp] at r1
  have e : ∀ k, k < w1.heap.size → ((w1.alloc (.cells #[.int .i64 (W : Int), .int .i64 (H : Int), .slice (some ⟨w1.heap.size + 1, 0, none⟩) (W * H) (W * H)] t3)).alloc (.cells (madeCells #[.int .i64 0] (W * H)) t4)).heap[k]? = w1.heap[k]? := fun k hk =>
    (Below.heap_alloc _ _ _ (by simp; omega)).trans (Below.heap_alloc _ _ _ hk)
  refine ⟨(r0.block (hb.block _ (by omega))).block (e _ (by omega)), (r1.block (hb.block _ (by omega))).block (e _ (by omega)), ?_, ?_, ?_, ⟨by simp, fun k hk => ?_, fun k => by simp⟩, by simp, z, ?_⟩
  · rw [World.cell?_alloc_past _ _ _ (by simp), World.cell?_alloc_at _ _ _ _ rfl]; rfl
  · rw [World.cell?_alloc_past _ _ _ (by simp), World.cell?_alloc_at _ _ _ _ rfl]; rfl
  · rw [World.cell?_alloc_past _ _ _ (by simp), World.cell?_alloc_at _ _ _ _ rfl]; rfl
  · rw [World.cell?_alloc_at _ _ _ _ (by simp)]
    rw [List.length_replicate] at hk
    rw [show (List.replicate (W * H) (0 : Int)).getD k 0 = 0 by simp [List.getD, hk]]
    rw [← Array.getElem?_toList, toList_madeCells_one]
    simp [hk]
  · exact (((((Below.refl _ _).alloc (Nat.le_refl _) _).alloc (by simp) _).trans (hb.mono (by omega))).alloc (by omega) _).alloc (by simp; omega) _
end Go.Proofs.YtlpdobfjgpedaaaDoor

