/-
  What the last text of this claim leans on, part 40: Bc2, In1.
-/
import Derived.Test.YtjngjnkecnnmeaaDoorJb39
import Derived.Test.YtjngjnkecnnmeaaDoorJb6
namespace Go.Proofs.YtjngjnkecnnmeaaDoor
set_option linter.unusedVariables false

/-! Runs read back. -/
theorem sk_here {s : ByteArray} {i : Nat} (h : bt s i ≠ 32) (h' : bt s i ≠ 10) : sk s i = i := sk_stop (blankAt_false.2 (by omega))
theorem times_one (t : UInt8) : timesB 1 t = [t] := rfl
theorem times_more {n : Nat} (t : UInt8) (h : 2 ≤ n) : timesB n t = Lib.decDigits n ++ [t] := by unfold timesB; rw [if_neg (by omega), if_neg (by omega)]
/-- A tag with its number: what is read. -/
theorem tag_read (s : ByteArray) (n : Nat) (t : UInt8) (h1 : 1 ≤ n) (hn : n ≤ 100) (ht : 57 < t.toNat ∨ t.toNat = 36) (pre post : List UInt8) (hs : s = txt (pre ++ (timesB n t ++ post))) :
    sk s pre.length = pre.length ∧ tagBad s pre.length = false ∧ tagN s pre.length = n ∧ tagK s pre.length + 1 = pre.length + (timesB n t).length ∧ tagK s pre.length < s.size ∧ bt s (tagK s pre.length) = t.toNat ∧ (n = 1 → tagK s pre.length = pre.length) := by
  rcases (by omega : n = 1 ∨ 2 ≤ n) with rfl | h2
  · have hs' : s = txt (pre ++ t :: post) := by rw [hs, times_one]; rfl
    obtain ⟨a1, a2⟩ := bt_mid hs'
    have hd : dAt s pre.length = false := inR_false.2 (by omega)
    refine ⟨sk_here (by omega) (by omega), by simp [tagBad, hd], by simp [tagN, hd], by simp [tagK, hd, times_one], by simp [tagK, hd]; exact a2, by simp [tagK, hd]; exact a1, fun _ => by simp [tagK, hd]⟩
  · have hs' : s = txt (pre ++ (Lib.decDigits n ++ t :: post)) := by rw [hs, times_more t h2]; simp
    have hc : t.toNat < 48 ∨ 57 < t.toNat := by omega
    have e1 := num_back s n pre post t hs' hc
    have e2 := numSix_back s n hn pre post t hs' hc
    obtain ⟨d, rest, ed, d1, d2⟩ := dec_first n (by omega)
    have hs2 : s = txt (pre ++ UInt8.ofNat (48 + d) :: (rest ++ t :: post)) := by rw [hs', ed]; simp
    obtain ⟨a1, a2⟩ := bt_mid hs2
    rw [dig_nat d d2] at a1
    have hd : dAt s pre.length = true := inR_true.2 ⟨a2, by omega, by omega⟩
    have hs3 : s = txt ((pre ++ Lib.decDigits n) ++ t :: post) := by rw [hs']; simp
    obtain ⟨b1, b2⟩ := bt_at (i := pre.length + (Lib.decDigits n).length) hs3 (by simp)
    have ek : tagK s pre.length = pre.length + (Lib.decDigits n).length := by simp [tagK, hd, e1]
    refine ⟨sk_here (by omega) (by omega), ?_, by simp [tagN, hd, e1], ?_, by rw [ek]; exact b2, by rw [ek]; exact b1, fun h => by omega⟩
    · unfold tagBad
      rw [hd, e1, e2]
      simp; omega
    · rw [ek, times_more t h2]; simp; omega
theorem run_step (s : ByteArray) (W H : Nat) (n : Nat) (c : Int) (hc : c = 0 ∨ c = 1) (h1 : 1 ≤ n) (hn : n ≤ 100) (pre post : List UInt8) (hs : s = txt (pre ++ (timesB n (tagB c) ++ post))) (x y f : Nat) (xs : List Int) (hy : y < H) (hx : x + n ≤ W) :
    tagsF s W H (f + 1) pre.length x y xs = tagsF s W H f (pre.length + (timesB n (tagB c)).length) (x + n) y (setRun xs (y * W + x) n c) := by
  have ht : (tagB c).toNat = if c = 1 then 111 else 98 := by unfold tagB; split <;> rfl
  have ht2 : (tagB c).toNat = 98 ∨ (tagB c).toNat = 111 := by rw [ht]; split <;> omega
  obtain ⟨e0, e1, e2, e3, e4, e5, -⟩ := tag_read s n (tagB c) h1 hn (Or.inl (by omega)) pre post hs
  rw [tagsF, e0, tag1, e1, e2, e5]
  simp only [Bool.false_eq_true, if_false]
  rw [if_neg (by omega), if_pos ht2, if_neg (by omega)]
  dsimp only
  rw [e3, ht]
  congr 1
  rcases hc with rfl | rfl <;> simp
theorem end_step (s : ByteArray) (W H : Nat) (n : Nat) (h1 : 1 ≤ n) (hn : n ≤ 100) (pre post : List UInt8) (hs : s = txt (pre ++ (timesB n 36 ++ post))) (x y f : Nat) (xs : List Int) (hy : y + n < H) :
    tagsF s W H (f + 1) pre.length x y xs = tagsF s W H f (pre.length + (timesB n 36).length) 0 (y + n) xs := by
  obtain ⟨e0, e1, e2, e3, e4, e5, -⟩ := tag_read s n 36 h1 hn (Or.inr rfl) pre post hs
  have e5' : bt s (tagK s pre.length) = 36 := e5
  rw [tagsF, e0, tag1, e1, e2, e5']
  simp only [Bool.false_eq_true, if_false]
  rw [if_neg (by omega), if_neg (by omega), if_pos trivial, if_neg (by omega)]
  dsimp only
  rw [e3]
theorem last_step (s : ByteArray) (W H : Nat) (pre : List UInt8) (hs : s = txt (pre ++ [33, 10])) (x y f : Nat) (xs : List Int) :
    tagsF s W H (f + 1) pre.length x y xs = .inl xs := by
  have hs' : s = txt (pre ++ 33 :: [10]) := hs
  obtain ⟨a1, a2⟩ := bt_mid hs'
  have a1' : bt s pre.length = 33 := a1
  obtain ⟨b1, b2⟩ := bt_at (i := pre.length + 1) (pre := pre ++ [33]) (post := []) (c := 10) (s := s) (by rw [hs]; simp) (by simp)
  have b1' : bt s (pre.length + 1) = 10 := b1
  have hz : s.size = pre.length + 2 := by rw [hs, txt_size]; simp
  have hd : dAt s pre.length = false := inR_false.2 (by omega)
  have ek : tagK s pre.length = pre.length := by simp [tagK, hd]
  have es : sk s (pre.length + 1) = s.size := by
    rw [sk_step (blankAt_true.2 ⟨b2, Or.inr b1'⟩), sk_stop (blankAt_false.2 (by omega))]
    omega
  rw [tagsF, sk_here (by omega) (by omega), tag1, ek, a1', es]
  simp only [tagBad, hd, Bool.false_and, Bool.false_eq_true, if_false]
  rw [if_neg (by omega)]
  simp
/-- The first q cells are xs', the others 0. -/
def fillP (xs : List Int) (q : Nat) : List Int := xs.take q ++ List.replicate (xs.length - q) 0
theorem fillP_length (xs : List Int) (q : Nat) : (fillP xs q).length = xs.length := by simp [fillP]; omega
theorem fillP_get (xs : List Int) (q i : Nat) (hi : i < xs.length) : (fillP xs q)[i]? = some (if i < q then xs.getD i 0 else 0) := by
  unfold fillP
  rw [List.getElem?_append]
  simp only [List.length_take]
  by_cases h : i < q
  · rw [if_pos (by omega), List.getElem?_take, if_pos h, if_pos h, List.getElem?_eq_getElem hi, List.getD, List.getElem?_eq_getElem hi]; rfl
  · rw [if_neg (by omega), if_neg h, List.getElem?_replicate, if_pos (by omega)]
theorem fill_ext {xs ys : List Int} {q : Nat} (hl : ys.length = xs.length) (h : ∀ i, i < xs.length → ys[i]? = some (if i < q then xs.getD i 0 else 0)) : ys = fillP xs q := by
  apply List.ext_getElem?
  intro i
  by_cases hi : i < xs.length
  · rw [h i hi, fillP_get xs q i hi]
  · rw [List.getElem?_eq_none (by omega), List.getElem?_eq_none (by rw [fillP_length]; omega)]
theorem setRun_get (xs : List Int) (p : Nat) (v : Int) : ∀ n i, i < xs.length → (setRun xs p n v)[i]? = if p ≤ i ∧ i < p + n then some v else xs[i]? := by
  intro n
  induction n with
  | zero => intro i hi; rw [setRun, if_neg (by omega)]
  | succ n ih =>
    intro i hi
    rw [setRun, List.getElem?_set, ih i hi, setRun_length]
    by_cases e : p + n = i
    · rw [if_pos e, if_pos (by omega), if_pos (by omega)]
    · rw [if_neg e]
      by_cases h : p ≤ i ∧ i < p + n
      · rw [if_pos h, if_pos (by omega)]
      · rw [if_neg h, if_neg (by omega)]
theorem fill_run (xs : List Int) (q n : Nat) (v : Int) (h : ∀ i, q ≤ i → i < q + n → xs.getD i 0 = v) : setRun (fillP xs q) q n v = fillP xs (q + n) := by
  apply fill_ext
  · rw [setRun_length, fillP_length]
  · intro i hi
    rw [setRun_get _ _ _ _ _ (by rw [fillP_length]; exact hi), fillP_get xs q i hi]
    by_cases c : q ≤ i ∧ i < q + n
    · rw [if_pos c, if_pos (by omega), h i c.1 c.2]
    · rw [if_neg c]
      by_cases d : i < q
      · rw [if_pos d, if_pos (by omega)]
      · rw [if_neg d, if_neg (by omega)]
theorem fill_zero (xs : List Int) (q n : Nat) (h : ∀ i, q ≤ i → i < q + n → xs.getD i 0 = 0) : fillP xs q = fillP xs (q + n) := by
  apply fill_ext (fillP_length _ _)
  intro i hi
  rw [fillP_get xs q i hi]
  by_cases d : i < q
  · rw [if_pos d, if_pos (by omega)]
  · rw [if_neg d]
    by_cases c : i < q + n
    · rw [if_pos c, h i (by omega) c]
    · rw [if_neg c]
theorem cnt_same (f : Nat → Int) (c : Int) : ∀ k x i, x ≤ i → i < cntF f c k x → f i = c := by
  intro k
  induction k with
  | zero => intro x i h1 h2; simp [cntF] at h2; omega
  | succ k ih =>
    intro x i h1 h2
    rw [cntF] at h2
    by_cases h : f x = c
    · rw [if_pos h] at h2
      by_cases e : i = x
      · rw [e]; exact h
      · exact ih (x + 1) i (by omega) h2
    · rw [if_neg h] at h2; omega
theorem end_rest (f : Nat → Int) : ∀ n i, endF f n ≤ i → i < n → f i = 0 := by
  intro n
  induction n with
  | zero => intro i _ h; omega
  | succ n ih =>
    intro i h1 h2
    by_cases h : f n = 0
    · rw [endF_zero h] at h1
      by_cases e : i = n
      · rw [e]; exact h
      · exact ih i h1 (by omega)
    · rw [endF_one h] at h1; omega
theorem dec_le (n : Nat) (h : 2 ≤ n) (hn : n ≤ 100) : (Lib.decDigits n).length + 1 ≤ n := by
  by_cases h1 : n < 10
  · rw [dec_small n h1]; simp; omega
  · have := dec_lt3 n hn; omega
theorem times_le (n : Nat) (t : UInt8) (hn : n ≤ 100) : (timesB n t).length ≤ n := by
  unfold timesB
  split
  · simp
  · split
    · simp; omega
    · have := dec_le n (by omega) hn
      simp; omega
theorem times_pos (n : Nat) (t : UInt8) (h : 1 ≤ n) : 1 ≤ (timesB n t).length := by
  unfold timesB
  rw [if_neg (by omega)]
  split <;> simp
/-- A row's runs. -/
theorem row_read (s : ByteArray) (W H : Nat) (xs : List Int) (hb : bits xs) (y m : Nat) (hy : y < H) (hW : W ≤ 100) (hm : m ≤ W) : ∀ (k x : Nat) (pre post : List UInt8) (F : Nat), m - x ≤ k → x ≤ m →
    s = txt (pre ++ (runsF (fun i => xs.getD (y * W + i) 0) m (m - x) x ++ post)) → (runsF (fun i => xs.getD (y * W + i) 0) m (m - x) x).length ≤ F →
    ∃ g, F ≤ g + (runsF (fun i => xs.getD (y * W + i) 0) m (m - x) x).length ∧ tagsF s W H F pre.length x y (fillP xs (y * W + x)) = tagsF s W H g (pre.length + (runsF (fun i => xs.getD (y * W + i) 0) m (m - x) x).length) m y (fillP xs (y * W + m)) := by
  intro k
  induction k with
  | zero =>
    intro x pre post F hk hx hs hF
    obtain rfl : x = m := by omega
    rw [runsF_end]
    exact ⟨F, by simp, by simp⟩
  | succ k ih =>
    intro x pre post F hk hx hs hF
    by_cases h : x < m
    · have hn := nextF_lt (f := fun i => xs.getD (y * W + i) 0) h
      rw [runsF_step h] at hs hF ⊢
      have hp := times_pos (nextF (fun i => xs.getD (y * W + i) 0) m x - x) (tagB (xs.getD (y * W + x) 0)) (by omega)
      rw [List.length_append] at hF
      obtain ⟨F', rfl⟩ : ∃ F', F = F' + 1 := ⟨F - 1, by omega⟩
      have hbt : ∀ i, xs.getD i 0 = 0 ∨ xs.getD i 0 = 1 := by
        intro i
        rw [List.getD]
        by_cases h : i < xs.length
        · rw [List.getElem?_eq_getElem h]; exact hb _ (List.getElem_mem h)
        · rw [List.getElem?_eq_none (by omega)]; exact Or.inl rfl
      rw [run_step s W H (nextF (fun i => xs.getD (y * W + i) 0) m x - x) (xs.getD (y * W + x) 0) (hbt _) (by omega) (by omega) pre _ (by rw [hs, List.append_assoc]) x y F' _ hy (by omega)]
      rw [fill_run xs (y * W + x) _ _ (by
        intro i h1 h2
        have := cnt_same (fun i => xs.getD (y * W + i) 0) (xs.getD (y * W + x) 0) (m - x) x (i - y * W) (by omega) (by show i - y * W < nextF (fun i => xs.getD (y * W + i) 0) m x; omega)
        rw [show y * W + (i - y * W) = i by omega] at this
        exact this)]
      obtain ⟨g, g1, g2⟩ := ih (nextF (fun i => xs.getD (y * W + i) 0) m x) (pre ++ timesB (nextF (fun i => xs.getD (y * W + i) 0) m x - x) (tagB (xs.getD (y * W + x) 0))) post F' (by omega) hn.2 (by rw [hs]; simp) (by omega)
      refine ⟨g, by rw [List.length_append]; omega, ?_⟩
      rw [List.length_append] at g2
      rw [List.length_append, ← Nat.add_assoc, ← g2]
      rw [show y * W + x + (nextF (fun i => xs.getD (y * W + i) 0) m x - x) = y * W + nextF (fun i => xs.getD (y * W + i) 0) m x by omega, show x + (nextF (fun i => xs.getD (y * W + i) 0) m x - x) = nextF (fun i => xs.getD (y * W + i) 0) m x by omega]
    · obtain rfl : x = m := by omega
      rw [runsF_end]
      exact ⟨F, by simp, by simp⟩
theorem runsF_le (f : Nat → Int) (m : Nat) (hm : m ≤ 100) : ∀ k x, (runsF f m k x).length ≤ m - x := by
  intro k
  induction k with
  | zero => intro x; simp [runsF]
  | succ k ih =>
    intro x
    rw [runsF]
    split
    · rename_i h
      have h1 := nextF_lt (f := f) h
      have h2 := ih (nextF f m x)
      have h3 := times_le (nextF f m x - x) (tagB (f x)) (by omega)
      rw [List.length_append]
      omega
    · simp
theorem rowsF_sum (W : Nat) (xs : List Int) (hW : W ≤ 100) : ∀ y, y ≤ 100 → (rowsF W xs y).1.length ≤ y * W + (rowsF W xs y).2 ∧ (rowsF W xs y).2 ≤ y ∧ ((rowsF W xs y).2 = y → y = 0) := by
  intro y
  induction y with
  | zero => intro _; simp [rowsF]
  | succ y ih =>
    intro hy
    obtain ⟨h1, h2, h3⟩ := ih (by omega)
    rw [rowsF]
    split
    · rw [Nat.succ_mul]; omega
    · have hm := endF_le (fun i => xs.getD (y * W + i) 0) W
      have a := runsF_le (fun i => xs.getD (y * W + i) 0) (endF (fun i => xs.getD (y * W + i) 0) W) (by omega) (endF (fun i => xs.getD (y * W + i) 0) W) 0
      have b := times_le (y - (rowsF W xs y).2) 36 (by omega)
      simp only [List.length_append]
      rw [Nat.succ_mul]
      omega
theorem rows_read (s : ByteArray) (W H : Nat) (xs : List Int) (hb : bits xs) (hW : W ≤ 100) (hH : H ≤ 100) (hd : List UInt8) (F : Nat) : ∀ (y : Nat) (post : List UInt8), y ≤ H →
    s = txt (hd ++ ((rowsF W xs y).1 ++ post)) → (rowsF W xs y).1.length ≤ F →
    ∃ g x, F ≤ g + (rowsF W xs y).1.length ∧ (((rowsF W xs y).2 = 0 → y = 0 ∨ x = 0 ∨ 1 ≤ y)) ∧ (y = 0 → x = 0) ∧ tagsF s W H F hd.length 0 0 (fillP xs 0) = tagsF s W H g (hd.length + (rowsF W xs y).1.length) x (rowsF W xs y).2 (fillP xs (y * W)) := by
  intro y
  induction y with
  | zero =>
    intro post hy hs hF
    exact ⟨F, 0, by simp [rowsF], by omega, fun _ => rfl, by simp [rowsF]⟩
  | succ y ih =>
    intro post hy hs hF
    obtain ⟨l1, l2, l3⟩ := rowsF_sum W xs hW y (by omega)
    have hm := endF_le (fun i => xs.getD (y * W + i) 0) W
    rw [rowsF] at hs hF ⊢
    by_cases h0 : endF (fun i => xs.getD (y * W + i) 0) W = 0
    · rw [if_pos h0] at hs hF ⊢
      obtain ⟨g, x, g1, -, g2, g3⟩ := ih post (by omega) hs hF
      refine ⟨g, x, g1, by omega, by omega, ?_⟩
      rw [g3, fill_zero xs (y * W) W (by
        intro i h1 h2
        have := end_rest (fun i => xs.getD (y * W + i) 0) W (i - y * W) (by omega) (by omega)
        rw [show y * W + (i - y * W) = i by omega] at this
        exact this), Nat.succ_mul]
    · rw [if_neg h0] at hs hF ⊢
      dsimp only at hs hF ⊢
      simp only [List.length_append] at hF
      obtain ⟨g, x, g1, -, g2, g3⟩ := ih (timesB (y - (rowsF W xs y).2) 36 ++ runsF (fun i => xs.getD (y * W + i) 0) (endF (fun i => xs.getD (y * W + i) 0) W) (endF (fun i => xs.getD (y * W + i) 0) W) 0 ++ post) (by omega) (by rw [hs]; simp) (by omega)
      rw [g3]
      -- down to row y
      have dn : ∃ g', g ≤ g' + (timesB (y - (rowsF W xs y).2) 36).length ∧ tagsF s W H g (hd.length + (rowsF W xs y).1.length) x (rowsF W xs y).2 (fillP xs (y * W)) = tagsF s W H g' (hd.length + (rowsF W xs y).1.length + (timesB (y - (rowsF W xs y).2) 36).length) 0 y (fillP xs (y * W)) := by
        by_cases e : (rowsF W xs y).2 = y
        · have y0 := l3 e
          refine ⟨g, by omega, ?_⟩
          rw [e, Nat.sub_self, show timesB 0 36 = [] from rfl, g2 y0]
          rfl
        · have hp := times_pos (y - (rowsF W xs y).2) 36 (by omega)
          obtain ⟨g', rfl⟩ : ∃ g', g = g' + 1 := ⟨g - 1, by omega⟩
          refine ⟨g', by omega, ?_⟩
          have := end_step s W H (y - (rowsF W xs y).2) (by omega) (by omega) (hd ++ (rowsF W xs y).1) (runsF (fun i => xs.getD (y * W + i) 0) (endF (fun i => xs.getD (y * W + i) 0) W) (endF (fun i => xs.getD (y * W + i) 0) W) 0 ++ post) (by rw [hs]; simp) x (rowsF W xs y).2 g' (fillP xs (y * W)) (by omega)
          rw [List.length_append] at this
          rw [this, show (rowsF W xs y).2 + (y - (rowsF W xs y).2) = y by omega]
      obtain ⟨g', k1, k2⟩ := dn
      rw [k2]
      obtain ⟨g'', m1, m2⟩ := row_read s W H xs hb y (endF (fun i => xs.getD (y * W + i) 0) W) (by omega) hW hm _ 0 (hd ++ (rowsF W xs y).1 ++ timesB (y - (rowsF W xs y).2) 36) post g' (Nat.le_refl _) (by omega) (by rw [hs, Nat.sub_zero]; simp) (by rw [Nat.sub_zero]; omega)
      rw [Nat.sub_zero] at m1 m2
      refine ⟨g'', endF (fun i => xs.getD (y * W + i) 0) W, by simp only [List.length_append]; omega, by omega, by omega, ?_⟩
      simp only [List.length_append, Nat.add_zero] at m2
      rw [m2]
      simp only [List.length_append]
      rw [fill_zero xs (y * W + endF (fun i => xs.getD (y * W + i) 0) W) (W - endF (fun i => xs.getD (y * W + i) 0) W) (by
        intro i h1 h2
        have := end_rest (fun i => xs.getD (y * W + i) 0) W (i - y * W) (by omega) (by omega)
        rw [show y * W + (i - y * W) = i by omega] at this
        exact this)]
      rw [show y * W + endF (fun i => xs.getD (y * W + i) 0) W + (W - endF (fun i => xs.getD (y * W + i) 0) W) = (y + 1) * W by rw [Nat.succ_mul]; omega]
      rw [show hd.length + (rowsF W xs y).1.length + (timesB (y - (rowsF W xs y).2) 36).length + (runsF (fun i => xs.getD (y * W + i) 0) (endF (fun i => xs.getD (y * W + i) 0) W) (endF (fun i => xs.getD (y * W + i) 0) W) 0).length = hd.length + ((rowsF W xs y).1.length + (timesB (y - (rowsF W xs y).2) 36).length + (runsF (fun i => xs.getD (y * W + i) 0) (endF (fun i => xs.getD (y * W + i) 0) W) (endF (fun i => xs.getD (y * W + i) 0) W) 0).length) by omega]
theorem runsB_is (W H : Nat) (xs : List Int) : runsB ⟨W, H, xs⟩ = headB W H ++ ((rowsF W xs H).1 ++ [33, 10]) := by simp [runsB, headB]
theorem runs_back (W H : Nat) (xs : List Int) (hW : W ≤ 100) (hH : H ≤ 100) (hx : xs.length = W * H) (hb : bits xs) : runsS (txt (runsB ⟨W, H, xs⟩)) = .inl (W, H, xs) := by
  obtain ⟨l1, l2, l3⟩ := rowsF_sum W xs hW H hH
  have hz : H * W ≤ 10000 := Nat.mul_le_mul hH hW
  have a1 := dec_lt3 W hW
  have a2 := dec_lt3 H hH
  have hh : (headB W H).length ≤ 20 := by simp [headB]; omega
  have hs : txt (runsB ⟨W, H, xs⟩) = txt (headB W H ++ ((rowsF W xs H).1 ++ [33, 10])) := by rw [runsB_is]
  have hsz : (txt (runsB ⟨W, H, xs⟩)).size = (headB W H).length + ((rowsF W xs H).1.length + 2) := by rw [hs, txt_size]; simp
  unfold runsS
  rw [if_neg (by omega), head_back _ W H hW hH _ hs]
  dsimp only
  have e0 : List.replicate (W * H) (0 : Int) = fillP xs 0 := by simp [fillP, hx]
  obtain ⟨g, x, g1, -, -, g2⟩ := rows_read (txt (runsB ⟨W, H, xs⟩)) W H xs hb hW hH (headB W H) ((txt (runsB ⟨W, H, xs⟩)).size + 1 - (headB W H).length) H [33, 10] (Nat.le_refl _) hs (by omega)
  rw [e0, g2]
  obtain ⟨g', rfl⟩ : ∃ g', g = g' + 1 := ⟨g - 1, by omega⟩
  have := last_step (txt (runsB ⟨W, H, xs⟩)) W H (headB W H ++ (rowsF W xs H).1) (by rw [hs]; simp) x (rowsF W xs H).2 g' (fillP xs (H * W))
  rw [List.length_append] at this
  rw [this]
  dsimp only
  rw [show fillP xs (H * W) = xs by rw [Nat.mul_comm, ← hx]; simp [fillP]]
end Go.Proofs.YtjngjnkecnnmeaaDoor

namespace Go.Proofs.YtjngjnkecnnmeaaDoor
open Go.RowKit
set_option linter.unusedVariables false

theorem list_ne_len {xs ys : List Int} (h : xs.length ≠ ys.length) : decide (xs = ys) = false := by
  simp; intro e; exact h (by rw [e])
theorem list_ne_at {xs ys : List Int} {k : Nat} (hx : k < xs.length) (hy : k < ys.length) (h : xs[k] ≠ ys[k]) : decide (xs = ys) = false := by
  simp; intro e; subst e; exact h rfl

set_option maxHeartbeats 1600000 in
theorem Ints_any (xs ys : List Int) (a b : Option Addr) (n c m d : Nat) (w : World) (hA : ArgP w xs a n c) (hB : ArgP w ys b m d) :
    Calls Tryd.prog 24 #[.slice a n c, .slice b m d] w fun e w' => e = .returned (.bool (decide (xs = ys))) ∧ ∃ q, w' = w.drewN q := by
  have HA := hide' hA
  have HB := hide' hB
  have hlx := hA.len
  have hly := hB.len
  have hma := hA.max
  have hmb := hB.max
  have LX := hide' hlx
  have LY := hide' hly
  unfold maxLen at hma hmb
  by_cases hnm : n = m
  · subst hnm
    clear hA hB hlx hly
    have EQ := hide' (fun (h : ∀ j (h1 : j < xs.length) (h2 : j < ys.length), xs[j] = ys[j]) => show decide (xs = ys) = true by
      simp; exact List.ext_getElem (by rw [← LX.out, ← LY.out]) fun j h1 h2 => h j h1 h2)
    go_enter Tryd.func24, Tryd.ntmps24
    go_wp2
    go_loopw [5] (fun iv wr => ∃ k q : Nat, iv = .int .i64 (k : Int) ∧ k ≤ n ∧ wr = w.drewN q ∧ Hid (∀ j (h1 : j < xs.length) (h2 : j < ys.length), j < k → xs[j] = ys[j])) (fun iv _ => n - (intOf iv).toNat)
    case atStart => exact ⟨0, 0, rfl, by omega, rfl, fun j h1 h2 h => by omega⟩
    case round =>
      obtain ⟨k, q, rfl, hk, rfl, HK⟩ := hrel
      by_cases hkn : (k : Int) < (n : Int)
      · have l1 : k < xs.length := by have := LX.out; omega
        have l2 : k < ys.length := by have := LY.out; omega
        obtain ⟨ga, oa, rfl, -, c1⟩ := HA.out.cells k l1
        obtain ⟨gb, ob, rfl, -, c2⟩ := HB.out.cells k l2
        obtain ⟨x, hx⟩ : ∃ x, xs[k] = x := ⟨_, rfl⟩
        obtain ⟨y, hy⟩ : ∃ y, ys[k] = y := ⟨_, rfl⟩
        rw [hx] at c1
        rw [hy] at c2
        have HX := hide' hx
        have HY := hide' hy
        clear hx hy
        by_cases e : x = y
        · subst e
          have m1 : (x != x) = false := by simp
          go_wp2
          go_quiet (fail)
          go_wp2
          refine ⟨⟨k + 1, q + nq, by go_num, by omega, rfl, fun j h1 h2 h => ?_⟩, by simp [intOf]; omega⟩
          by_cases ej : j = k
          · subst ej; rw [HX.out, HY.out]
          · exact HK.out j h1 h2 (by omega)
        · have m1 : (x != y) = true := by simp [e]
          have F := hide' (list_ne_at l1 l2 (by rw [HX.out, HY.out]; exact e))
          clear e
          go_wp2
          go_quiet (fail)
          go_wp2
          go_ret
          exact ⟨by rw [F.out]; rfl, q + nq, by simp [World.drewN, Nat.add_assoc]⟩
      · have F := hide' (EQ.out fun j h1 h2 => HK.out j h1 h2 (by have := LX.out; omega))
        go_wp2
        go_ret
        exact ⟨by rw [F.out]; rfl, q, rfl⟩
  · have m1 : ((n : Int) != (m : Int)) = true := by simp; omega
    have F := hide' (list_ne_len (xs := xs) (ys := ys) (by rw [← hlx, ← hly]; exact hnm))
    clear hA hB hlx hly hnm
    go_enter Tryd.func24, Tryd.ntmps24
    go_wp2
    go_ret
    exact ⟨by rw [F.out]; rfl, 0, rfl⟩

set_option maxHeartbeats 1600000 in
theorem Alike_any (W H W' H' : Int) (xs ys : List Int) (a b : Option Addr) (n c m d : Nat) (w : World) (hA : ArgP w xs a n c) (hB : ArgP w ys b m d) :
    Calls Tryd.prog 33 #[.agg #[.int .i64 W, .int .i64 H, .slice a n c], .agg #[.int .i64 W', .int .i64 H', .slice b m d]] w fun e w' => e = .returned (.bool (decide (xs = ys) && (W == W') && (H == H'))) ∧ Below w.heap.size w w' := by
  have B := hide' (((Below.refl w.heap.size w).alloc (Nat.le_refl _) (.cells #[.int .i64 W, .int .i64 H, .slice a n c] 51)).alloc (by simp) (.cells #[.int .i64 W', .int .i64 H', .slice b m d] 51))
  have AA := hide' (hA.below B.out)
  have AB := hide' (hB.below B.out)
  obtain ⟨r, hr⟩ : ∃ r, decide (xs = ys) = r := ⟨_, rfl⟩
  have HR := hide' hr
  clear hA hB hr
  cases r
  · go_enter Tryd.func33, Tryd.ntmps33
    go_wp2_with fail
    refine (Ints_any xs ys a b n c m d _ AA.out AB.out).mono ?_
    rw [HR.out]
    rintro e w1 ⟨rfl, q, rfl⟩
    go_wp2
    go_ret
    exact ⟨by rw [HR.out]; simp, below_drewN B.out q⟩
  · cases e1 : (W == W')
    · go_enter Tryd.func33, Tryd.ntmps33
      go_wp2_with fail
      refine (Ints_any xs ys a b n c m d _ AA.out AB.out).mono ?_
      rw [HR.out]
      rintro e w1 ⟨rfl, q, rfl⟩
      go_wp2
      go_ret
      exact ⟨by rw [HR.out]; simp, below_drewN B.out q⟩
    · go_enter Tryd.func33, Tryd.ntmps33
      go_wp2_with fail
      refine (Ints_any xs ys a b n c m d _ AA.out AB.out).mono ?_
      rw [HR.out]
      rintro e w1 ⟨rfl, q, rfl⟩
      go_wp2
      go_ret
      exact ⟨by rw [HR.out]; simp, below_drewN B.out q⟩
end Go.Proofs.YtjngjnkecnnmeaaDoor

