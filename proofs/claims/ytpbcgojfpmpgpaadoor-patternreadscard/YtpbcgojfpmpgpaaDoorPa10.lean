/-
  One tag, by its ways; the fuel of the tags' reading.
-/
import Derived.Test.YtpbcgojfpmpgpaaDoorPa9
namespace Go.Proofs.YtpbcgojfpmpgpaaDoor
open Go.RowKit
set_option linter.unusedVariables false

theorem tag1_bad {s : ByteArray} {W H j x y : Nat} {xs : List Int} (h : tagBad s j = true) : tag1 s W H j x y xs = .bad j 2 := by
  unfold tag1; rw [if_pos h]
theorem tag1_none {s : ByteArray} {W H j x y : Nat} {xs : List Int} (h : tagBad s j = false) (h1 : ¬ bt s (tagK s j) = 98) (h2 : ¬ bt s (tagK s j) = 111) (h3 : ¬ bt s (tagK s j) = 36) (h4 : ¬ bt s (tagK s j) = 33) : tag1 s W H j x y xs = .bad (tagK s j) 2 := by
  unfold tag1
  rw [if_neg (by rw [h]; simp)]
  split
  · rfl
  · simp [h1, h2]
theorem tag1_cells_bad {s : ByteArray} {W H j x y : Nat} {xs : List Int} (h : tagBad s j = false) (hk : tagK s j < s.size) (h1 : bt s (tagK s j) = 98 ∨ bt s (tagK s j) = 111) (h2 : H ≤ y ∨ W < x + tagN s j) : tag1 s W H j x y xs = .bad j 1 := by
  unfold tag1
  rw [if_neg (by rw [h]; simp), if_neg (by omega), if_pos h1, if_pos h2]
theorem tag1_cells_on {s : ByteArray} {W H j x y : Nat} {xs : List Int} (c : Int) (h : tagBad s j = false) (hk : tagK s j < s.size) (h1 : bt s (tagK s j) = 98 ∨ bt s (tagK s j) = 111) (hc : (if bt s (tagK s j) = 111 then (1 : Int) else 0) = c) (h2 : ¬ (H ≤ y ∨ W < x + tagN s j)) : tag1 s W H j x y xs = .on (tagK s j + 1) (x + tagN s j) y (setRun xs (y * W + x) (tagN s j) c) := by
  unfold tag1
  rw [if_neg (by rw [h]; simp), if_neg (by omega), if_pos h1, if_neg h2, hc]
theorem tag1_rows_bad {s : ByteArray} {W H j x y : Nat} {xs : List Int} (h : tagBad s j = false) (hk : tagK s j < s.size) (h1 : bt s (tagK s j) = 36) (h2 : H ≤ y + tagN s j) : tag1 s W H j x y xs = .bad j 1 := by
  unfold tag1
  rw [if_neg (by rw [h]; simp), if_neg (by omega), if_neg (by omega), if_pos h1, if_pos h2]
theorem tag1_rows_on {s : ByteArray} {W H j x y : Nat} {xs : List Int} (h : tagBad s j = false) (hk : tagK s j < s.size) (h1 : bt s (tagK s j) = 36) (h2 : ¬ H ≤ y + tagN s j) : tag1 s W H j x y xs = .on (tagK s j + 1) 0 (y + tagN s j) xs := by
  unfold tag1
  rw [if_neg (by rw [h]; simp), if_neg (by omega), if_neg (by omega), if_pos h1, if_neg h2]
theorem tag1_end_bad {s : ByteArray} {W H j x y : Nat} {xs : List Int} (h : tagBad s j = false) (hk : tagK s j < s.size) (h1 : bt s (tagK s j) = 33) (h2 : tagK s j ≠ j) : tag1 s W H j x y xs = .bad (tagK s j) 2 := by
  unfold tag1
  rw [if_neg (by rw [h]; simp), if_neg (by omega), if_neg (by omega), if_neg (by omega), if_pos h1, if_pos (fun e => h2 e.symm)]
theorem tag1_end {s : ByteArray} {W H j x y : Nat} {xs : List Int} (h : tagBad s j = false) (hk : tagK s j < s.size) (h1 : bt s (tagK s j) = 33) (h2 : tagK s j = j) : tag1 s W H j x y xs = if sk s (tagK s j + 1) = s.size then .done xs else .bad (sk s (tagK s j + 1)) 2 := by
  unfold tag1
  rw [if_neg (by rw [h]; simp), if_neg (by omega), if_neg (by omega), if_neg (by omega), if_pos h1, if_neg (fun e => e h2.symm)]
theorem tag1_on {s : ByteArray} {W H j x y i' x' y' : Nat} {xs xs' : List Int} (h : tag1 s W H j x y xs = .on i' x' y' xs') : j < i' ∧ i' ≤ s.size := by
  have hk := tagK_ge s j
  unfold tag1 at h
  split at h
  · cases h
  split at h
  · cases h
  split at h
  · split at h
    · cases h
    · injection h; omega
  split at h
  · split at h
    · cases h
    · injection h; omega
  split at h
  · split at h
    · cases h
    · split at h <;> cases h
  · cases h

theorem tagsF_fuel (s : ByteArray) (W H : Nat) : ∀ f f' i x y xs, i ≤ s.size → s.size + 1 - i ≤ f → s.size + 1 - i ≤ f' → tagsF s W H f i x y xs = tagsF s W H f' i x y xs := by
  intro f
  induction f with
  | zero => intro f' i x y xs h1 h2; omega
  | succ f ih =>
    intro f' i x y xs h1 h2 h3
    obtain ⟨f'', rfl⟩ : ∃ f'', f' = f'' + 1 := ⟨f' - 1, by omega⟩
    simp only [tagsF]
    cases ht : tag1 s W H (sk s i) x y xs with
    | on i' x' y' xs' =>
      have := tag1_on ht
      have := sk_ge s i
      exact ih f'' i' x' y' xs' (by omega) (by omega) (by omega)
    | done _ => rfl
    | bad _ _ => rfl
theorem tagsF_bad {s : ByteArray} {W H i x y a e : Nat} {xs : List Int} (hi : i ≤ s.size) (h : tag1 s W H (sk s i) x y xs = .bad a e) : tagsF s W H (s.size + 1 - i) i x y xs = .inr (a, e) := by
  rw [show s.size + 1 - i = (s.size - i) + 1 by omega, tagsF, h]
theorem tagsF_done {s : ByteArray} {W H i x y : Nat} {xs ys : List Int} (hi : i ≤ s.size) (h : tag1 s W H (sk s i) x y xs = .done ys) : tagsF s W H (s.size + 1 - i) i x y xs = .inl ys := by
  rw [show s.size + 1 - i = (s.size - i) + 1 by omega, tagsF, h]
theorem tagsF_on {s : ByteArray} {W H i x y i' x' y' : Nat} {xs xs' : List Int} (hi : i ≤ s.size) (h : tag1 s W H (sk s i) x y xs = .on i' x' y' xs') : tagsF s W H (s.size + 1 - i) i x y xs = tagsF s W H (s.size + 1 - i') i' x' y' xs' := by
  rw [show s.size + 1 - i = (s.size - i) + 1 by omega, tagsF, h]
  have := tag1_on h
  have := sk_ge s i
  exact tagsF_fuel s W H _ _ _ _ _ _ (by omega) (by omega) (by omega)
theorem fin_end {s : ByteArray} {W H i x y : Nat} {xs : List Int} (hi : i ≤ s.size) (h : tag1 s W H (sk s i) x y xs = if sk s (tagK s (sk s i) + 1) = s.size then .done xs else .bad (sk s (tagK s (sk s i) + 1)) 2) :
    fin2 W H (tagsF s W H (s.size + 1 - i) i x y xs) = fin3 s W H (tagK s (sk s i) + 1) xs := by
  unfold fin3
  split
  · rename_i q
    rw [if_pos q] at h
    rw [tagsF_done hi h]; rfl
  · rename_i q
    rw [if_neg q] at h
    rw [tagsF_bad hi h]; rfl
theorem tagN_lt {s : ByteArray} {j : Nat} (h : tagBad s j = false) : tagN s j < 1000000 := by
  unfold tagN
  split
  · rename_i hd
    unfold tagBad at h
    rw [hd] at h
    simp at h
    exact num_bound s j (numSix_true.1 h.1).2.2
  · omega

theorem JWrong.mk' {s : ByteArray} {w0 w' w'' : World} {v v' : Rv} {W H g : Nat} {xs : List Int} (h : JCells s w0 w' v W H g xs) (ha : RAt (w0.heap.size + 1) s v' w'') (hr : Rd (w0.heap.size + 1) w' w'') (r f : Nat) (h1 : v'.i = r) (h2 : v'.fl = (f : Int)) (h3 : runsS s = .inr (r, f)) : JWrong s w0 w'' :=
  ⟨⟨r, f, v', ha, h1, h2, h3⟩, h.below.trans (hr.below (Nat.le_refl _) (by have := h.below.size; rw [resW_size] at this; omega))⟩
theorem JCells.cells {s : ByteArray} {w0 w' w'' : World} {v v' : Rv} {W H g : Nat} {xs xs' : List Int} (h : JCells s w0 w' v W H g xs) (ha : RAt (w0.heap.size + 1) s v' w'') (hb : Below (w0.heap.size + 1) w' w'') (hC : Cel w'' g xs') (hl : xs'.length = xs.length) (h1 : v'.wd = v.wd) (h2 : v'.hi = v.hi) (h3 : v'.cs = v.cs) (h4 : v'.i ≤ s.size) : JCells s w0 w'' v' W H g xs' :=
  ⟨ha, h1.trans h.wd, h2.trans h.hi, h3.trans h.cs, hC, hl.trans h.len, h.gb, h.lw, h.lh, h4, h.below.trans hb⟩
end Go.Proofs.YtpbcgojfpmpgpaaDoor
