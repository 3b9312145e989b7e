/-
  What the last text of this claim leans on, part 23: Rx2, Li0, In1.
-/
import Derived.Test.YtljdidimoagnhaaDoorJk22
import Derived.Test.YtljdidimoagnhaaDoorJk21
import Derived.Test.YtljdidimoagnhaaDoorJk1
import Derived.Test.YtljdidimoagnhaaDoorJk6
namespace Go.Proofs.YtljdidimoagnhaaDoor
set_option linter.unusedVariables false

/-! Digits that rise. -/
def risOk : Nat → List UInt8 → Bool
  | _, [] => true
  | low, d :: l => decide (low ≤ d.toNat) && decide (d.toNat ≤ 56) && risOk (d.toNat + 1) l
def risV (acc : Nat) (l : List UInt8) : Nat := l.foldl (fun a d => a + 2 ^ (d.toNat - 48)) acc
theorem risF_back (s : ByteArray) : ∀ (l pre post : List UInt8) (low acc : Nat), 48 ≤ low → risOk low l = true → s = txt (pre ++ (l ++ post)) → (∀ lo : Int, 48 ≤ lo → inR s (pre.length + l.length) lo 56 = false) →
    risF s (s.size - pre.length) pre.length low acc = (risV acc l, pre.length + l.length) := by
  intro l
  induction l with
  | nil =>
    intro pre post low acc hl _ _ hstop
    have h := hstop low (by omega)
    rw [List.length_nil, Nat.add_zero] at h
    rw [risF_stop h, List.length_nil, Nat.add_zero, risV, List.foldl_nil]
  | cons d l ih =>
    intro pre post low acc hl hok hs hstop
    rw [risOk, Bool.and_eq_true, Bool.and_eq_true, decide_eq_true_eq, decide_eq_true_eq] at hok
    obtain ⟨⟨o1, o2⟩, o3⟩ := hok
    obtain ⟨A, hA⟩ : ∃ A, acc + 2 ^ (d.toNat - 48) = A := ⟨_, rfl⟩
    have hs' : s = txt (pre ++ d :: (l ++ post)) := by rw [hs]; simp
    obtain ⟨a1, a2⟩ := bt_mid hs'
    rw [risF_step (inR_true.2 ⟨a2, by rw [a1]; exact Int.ofNat_le.2 o1, by rw [a1]; exact Int.ofNat_le.2 o2⟩), a1, hA]
    have := ih (pre ++ [d]) post (d.toNat + 1) A (by omega) o3 (by rw [hs']; simp) (fun lo hlo => by
      have h := hstop lo hlo
      rw [show pre.length + (d :: l).length = (pre ++ [d]).length + l.length by simp; omega] at h
      exact h)
    rw [show (pre ++ [d]).length = pre.length + 1 by simp] at this
    rw [this, risV, risV, List.foldl_cons, hA]
    simp only [List.length_cons]
    rw [show pre.length + 1 + l.length = pre.length + (l.length + 1) by omega]
theorem dl_ok : ∀ n, n < 512 → risOk 48 (dl n 9) = true ∧ risV 0 (dl n 9) = n := by decide +kernel
theorem ris_back (s : ByteArray) (n : Nat) (hn : n < 512) (pre post : List UInt8) (hs : s = txt (pre ++ (dl n 9 ++ post))) (hstop : ∀ lo : Int, 48 ≤ lo → inR s (pre.length + (dl n 9).length) lo 56 = false) :
    ris s pre.length = (n, pre.length + (dl n 9).length) := by
  obtain ⟨h1, h2⟩ := dl_ok n hn
  unfold ris
  rw [risF_back s _ pre post 48 0 (by omega) h1 hs hstop, h2]
theorem inR_at {s : ByteArray} {pre post : List UInt8} {c : UInt8} {i : Nat} (h : s = txt (pre ++ c :: post)) (hi : i = pre.length) : inR s i c.toNat c.toNat = true := by
  subst hi
  obtain ⟨a1, a2⟩ := bt_mid h
  exact inR_true.2 ⟨a2, by omega, by omega⟩
theorem inR_end {s : ByteArray} {i : Nat} (h : s.size ≤ i) (lo hi : Int) : inR s i lo hi = false := inR_false.2 (by omega)
theorem life_back (b t : Nat) (hb : b < 512) (ht : t < 512) : parseS (txt ([66] ++ (dl b 9 ++ ([47, 83] ++ dl t 9)))) = .inl ⟨1, b, t, 0, 0, [], ⟨#[]⟩⟩ := by
  obtain ⟨s, hs⟩ : ∃ s, txt ([66] ++ (dl b 9 ++ ([47, 83] ++ dl t 9))) = s := ⟨_, rfl⟩
  rw [hs]
  have hz : s.size = 1 + (dl b 9).length + 2 + (dl t 9).length := by rw [← hs, txt_size]; simp; omega
  obtain ⟨a1, a2⟩ := bt_mid (s := s) (pre := []) (c := 66) (post := dl b 9 ++ ([47, 83] ++ dl t 9)) (by rw [← hs]; rfl)
  have q1 := inR_at (s := s) (pre := [66] ++ dl b 9) (c := 47) (post := [83] ++ dl t 9) (i := 1 + (dl b 9).length) (by rw [← hs]; simp) (by simp; omega)
  have q2 := inR_at (s := s) (pre := [66] ++ dl b 9 ++ [47]) (c := 83) (post := dl t 9) (i := 1 + (dl b 9).length + 1) (by rw [← hs]; simp) (by simp; omega)
  obtain ⟨p1, p2⟩ := bt_mid (s := s) (pre := [66] ++ dl b 9) (c := 47) (post := [83] ++ dl t 9) (by rw [← hs]; simp)
  have r1 : ris s 1 = (b, 1 + (dl b 9).length) := ris_back s b hb [66] ([47, 83] ++ dl t 9) hs.symm (fun lo hlo => by
    refine inR_false.2 ?_
    rw [show ([66] : List UInt8).length + (dl b 9).length = (([66] : List UInt8) ++ dl b 9).length by simp; omega, p1]
    simp
    omega)
  have r2 : ris s (1 + (dl b 9).length + 2) = (t, 1 + (dl b 9).length + 2 + (dl t 9).length) := by
    have := ris_back s t ht ([66] ++ dl b 9 ++ [47, 83]) [] (by rw [← hs]; simp) (fun lo _ => inR_end (by rw [hz]; simp; omega) lo 56)
    have e9 : List.length (α := UInt8) ([66] ++ dl b 9 ++ [47, 83]) = 1 + (dl b 9).length + 2 := by simp; omega
    rw [e9] at this
    exact this
  have e : kindS s = .inl (⟨1, b, t, 0, 0, [], ⟨#[]⟩⟩, s.size) := by
    unfold kindS
    rw [if_neg (by omega), if_pos (by rw [show (0 : Nat) = ([] : List UInt8).length from rfl, a1]; rfl)]
    unfold lifeS
    rw [r1]
    dsimp only
    rw [r2, show inR s (1 + (dl b 9).length) 47 47 = true from q1, show inR s (1 + (dl b 9).length + 1) 83 83 = true from q2, hz]
    rfl
  unfold parseS
  rw [e]
  dsimp only
  rw [if_pos rfl]

/-! Signs. -/
theorem turnF_back (s : ByteArray) : ∀ f i, i ≤ s.size → s.size - i ≤ f → (∀ j, i ≤ j → j < s.size → bt s j = 76 ∨ bt s j = 82) → turnF s f i = s.size := by
  intro f
  induction f with
  | zero => intro i h1 h2 _; show i = s.size; omega
  | succ f ih =>
    intro i h1 h2 h
    rw [turnF]
    by_cases hi : i < s.size
    · rw [if_pos ⟨hi, h i (Nat.le_refl _) hi⟩]
      exact ih (i + 1) (by omega) (by omega) fun j h3 h4 => h j (by omega) h4
    · rw [if_neg (by omega)]
      omega
theorem turns_back (t : ByteArray) (h : turnsP t) : parseS (⟨#[84, 32]⟩ ++ t) = .inl ⟨3, 0, 0, 0, 0, [], t⟩ := by
  obtain ⟨h1, h2, h3⟩ := h
  obtain ⟨l, rfl⟩ : ∃ l, t = txt l := ⟨t.data.toList, by cases t; rfl⟩
  obtain ⟨s, hs⟩ : ∃ s, (⟨#[84, 32]⟩ : ByteArray) ++ txt l = s := ⟨_, rfl⟩
  have hs' : s = txt ([84, 32] ++ l) := by rw [← hs]; exact ByteArray.mk_append_mk _ _
  rw [txt_size] at h1 h2
  have hz : s.size = 2 + l.length := by rw [hs', txt_size]; simp; omega
  obtain ⟨a1, a2⟩ := bt_mid (s := s) (pre := []) (c := 84) (post := 32 :: l) (by rw [hs']; rfl)
  have q1 := inR_at (s := s) (pre := [84]) (c := 32) (post := l) (i := 1) (by rw [hs']; rfl) rfl
  have hb : ∀ j, 2 ≤ j → j < s.size → bt s j = 76 ∨ bt s j = 82 := by
    intro j h4 h5
    have h6 := h3 (j - 2) (by rw [txt_size]; omega)
    have e : bt s j = bt (txt l) (j - 2) := by
      have k1 : j < (txt ([84, 32] ++ l)).size := by rw [← hs']; exact h5
      have k2 : j - 2 < (txt l).size := by rw [txt_size]; omega
      rw [hs']
      unfold bt
      rw [dif_pos k1, dif_pos k2]
      have : (txt ([84, 32] ++ l))[j] = (txt l)[j - 2] := by
        show ByteArray.get _ _ _ = ByteArray.get _ _ _
        obtain ⟨i, rfl⟩ : ∃ i, j = i + 2 := ⟨j - 2, by omega⟩
        simp [txt, ByteArray.get]
      rw [this]
    rw [e]
    exact h6
  have f1 : turnF s 26 2 = s.size := turnF_back s 26 2 (by omega) (by omega) hb
  have e : kindS s = .inl (⟨3, 0, 0, 0, 0, [], txt l⟩, s.size) := by
    unfold kindS
    have a3 : bt s 0 = 84 := a1
    rw [if_neg (by omega), if_neg (by omega), if_neg (by omega), if_neg (by omega), if_pos a3]
    unfold antS
    rw [f1, show inR s 1 32 32 = true from q1, if_neg (by simp), if_neg (by omega)]
    have x : s.extract 2 s.size = txt l := by
      rw [hz, hs']
      apply ByteArray.ext
      simp [txt]
    rw [x]
  rw [hs]
  unfold parseS
  rw [e]
  dsimp only
  rw [if_pos rfl]
end Go.Proofs.YtljdidimoagnhaaDoor

namespace Go.Proofs.YtljdidimoagnhaaDoor
set_option linter.unusedVariables false

/-- The number of the window of m digits from place i on. -/
def wn (S : Int) (f : Nat → Int) (i : Nat) : Nat → Int
  | 0 => 0
  | m + 1 => wn S f i m * S + f (i + m)
theorem wn_congr {S : Int} {f g : Nat → Int} {i k : Nat} : ∀ {m : Nat}, (∀ d, d < m → f (i + d) = g (k + d)) → wn S f i m = wn S g k m
  | 0, _ => rfl
  | m + 1, h => by
    rw [wn, wn, wn_congr (m := m) fun d hd => h d (by omega), h m (by omega)]
theorem wn_tail (S : Int) (f : Nat → Int) (i : Nat) : ∀ m, wn S f i (m + 1) = f i * S ^ m + wn S f (i + 1) m
  | 0 => by simp [wn]
  | m + 1 => by
    rw [wn, wn_tail S f i m, wn, Int.add_mul, Int.mul_assoc, ← Int.pow_succ, show i + 1 + m = i + (m + 1) by omega, Int.add_assoc]
theorem wn_nonneg {S : Int} {f : Nat → Int} {i : Nat} (hS : 0 ≤ S) : ∀ {m}, (∀ d, d < m → 0 ≤ f (i + d)) → 0 ≤ wn S f i m
  | 0, _ => Int.le_refl _
  | m + 1, h => by
    have h1 := wn_nonneg hS (m := m) fun d hd => h d (by omega)
    have h2 := h m (by omega)
    have h3 := Int.mul_nonneg h1 hS
    rw [wn]; omega
theorem wn_lt {S : Int} {f : Nat → Int} {i : Nat} (hS : 0 ≤ S) : ∀ {m}, (∀ d, d < m → 0 ≤ f (i + d) ∧ f (i + d) < S) → wn S f i m < S ^ m
  | 0, _ => by rw [wn, Int.pow_zero]; omega
  | m + 1, h => by
    have h1 := wn_lt hS (m := m) fun d hd => h d (by omega)
    have h2 := h m (by omega)
    have h3 : (wn S f i m + 1) * S ≤ S ^ m * S := Int.mul_le_mul_of_nonneg_right (by omega) hS
    rw [Int.add_mul, Int.one_mul] at h3
    rw [wn, Int.pow_succ]; omega

/-- A word's cells are states. -/
def cellsOk (S : Int) (xs : List Int) : Prop := ∀ x ∈ xs, 0 ≤ x ∧ x < S
theorem cellsOk_at {S : Int} {xs : List Int} (h : cellsOk S xs) {k : Nat} (hk : k < xs.length) : 0 ≤ xs.getD k 0 ∧ xs.getD k 0 < S := by
  rw [List.getD_eq_getElem?_getD, List.getElem?_eq_getElem hk]
  exact h _ (List.getElem_mem hk)

/-- What becomes of the cells that have R cells at each side. -/
def applyL (S : Int) (R : Nat) (T xs : List Int) : List Int :=
  (List.range (xs.length - 2 * R)).map fun i => T.getD (wn S (fun t => xs.getD t 0) i (2 * R + 1)).toNat 0
theorem applyL_length (S : Int) (R : Nat) (T xs : List Int) : (applyL S R T xs).length = xs.length - 2 * R := by simp [applyL]
theorem applyL_at (S : Int) (R : Nat) (T xs : List Int) {i : Nat} (h : i < xs.length - 2 * R) : (applyL S R T xs).getD i 0 = T.getD (wn S (fun t => xs.getD t 0) i (2 * R + 1)).toNat 0 := by
  simp [applyL, List.getD, h]
/-- The ring's cell at place t, however far. -/
def rat (xs : List Int) (t : Int) : Int := xs.getD (t % (xs.length : Int)).toNat 0
/-- The ring laid out with R cells more at each side. -/
def wideL (R : Nat) (xs : List Int) : List Int := (List.range (xs.length + 2 * R)).map fun t : Nat => rat xs ((t : Int) - R)
theorem wideL_length (R : Nat) (xs : List Int) : (wideL R xs).length = xs.length + 2 * R := by simp [wideL]
theorem wideL_at (R : Nat) (xs : List Int) {t : Nat} (h : t < xs.length + 2 * R) : (wideL R xs).getD t 0 = rat xs ((t : Int) - R) := by
  simp [wideL, List.getD, h]
def stepL (S : Int) (R : Nat) (T xs : List Int) : List Int :=
  (List.range xs.length).map fun i : Nat => T.getD (wn S (fun d => rat xs ((i : Int) + d - R)) 0 (2 * R + 1)).toNat 0
theorem stepL_length (S : Int) (R : Nat) (T xs : List Int) : (stepL S R T xs).length = xs.length := by simp [stepL]
theorem stepL_wide (S : Int) (R : Nat) (T xs : List Int) : stepL S R T xs = applyL S R T (wideL R xs) := by
  unfold stepL applyL
  rw [wideL_length, show xs.length + 2 * R - 2 * R = xs.length by omega]
  refine List.map_congr_left fun i hi => ?_
  rw [List.mem_range] at hi
  rw [wn_congr (g := fun t => (wideL R xs).getD t 0) (k := i) fun d hd => ?_]
  rw [Nat.zero_add, wideL_at R xs (by omega)]
  rw [show ((i + d : Nat) : Int) = (i : Int) + d by omega]
theorem rat_ok {S : Int} {xs : List Int} (h : cellsOk S xs) (hx : 0 < xs.length) (t : Int) : 0 ≤ rat xs t ∧ rat xs t < S := by
  unfold rat
  have h1 := Int.emod_nonneg t (show (xs.length : Int) ≠ 0 by omega)
  have h2 := Int.emod_lt_of_pos t (show (0 : Int) < xs.length by omega)
  exact cellsOk_at h (by omega)
theorem wideL_ok {S : Int} {R : Nat} {xs : List Int} (h : cellsOk S xs) (hx : 0 < xs.length) : cellsOk S (wideL R xs) := by
  intro x hm
  simp only [wideL, List.mem_map] at hm
  obtain ⟨t, -, rfl⟩ := hm
  exact rat_ok h hx _
theorem tab_ok {S : Int} {T : List Int} (hT : cellsOk S T) {k : Nat} (hk : k < T.length) : 0 ≤ T.getD k 0 ∧ T.getD k 0 < S := cellsOk_at hT hk
/-- A window's number lies in the table. -/
theorem win_in {S : Int} {R : Nat} {T : List Int} {f : Nat → Int} {i : Nat} (hS : 0 ≤ S) (hl : (T.length : Int) = S ^ (2 * R + 1)) (h : ∀ d, d < 2 * R + 1 → 0 ≤ f (i + d) ∧ f (i + d) < S) : (wn S f i (2 * R + 1)).toNat < T.length := by
  have h1 := wn_nonneg hS (f := f) (i := i) (m := 2 * R + 1) fun d hd => (h d hd).1
  have h2 := wn_lt hS (f := f) (i := i) (m := 2 * R + 1) h
  omega
theorem applyL_ok {S : Int} {R : Nat} {T xs : List Int} (hS : 0 ≤ S) (hl : (T.length : Int) = S ^ (2 * R + 1)) (hT : cellsOk S T) (h : cellsOk S xs) : cellsOk S (applyL S R T xs) := by
  intro x hm
  simp only [applyL, List.mem_map, List.mem_range] at hm
  obtain ⟨i, hi, rfl⟩ := hm
  exact tab_ok hT (win_in hS hl fun d hd => cellsOk_at h (by omega))
theorem stepL_ok {S : Int} {R : Nat} {T xs : List Int} (hS : 0 ≤ S) (hl : (T.length : Int) = S ^ (2 * R + 1)) (hT : cellsOk S T) (h : cellsOk S xs) : cellsOk S (stepL S R T xs) := by
  by_cases h0 : 0 < xs.length
  · rw [stepL_wide]
    exact applyL_ok hS hl hT (wideL_ok h h0)
  · intro x hm
    simp only [stepL, List.mem_map, List.mem_range] at hm
    obtain ⟨i, hi, -⟩ := hm
    omega
def runL (S : Int) (R : Nat) (T : List Int) : Nat → List Int → List Int
  | 0, xs => xs
  | n + 1, xs => stepL S R T (runL S R T n xs)
theorem runL_length (S : Int) (R : Nat) (T : List Int) (xs : List Int) : ∀ n, (runL S R T n xs).length = xs.length
  | 0 => rfl
  | n + 1 => by rw [runL, stepL_length, runL_length S R T xs n]
theorem runL_ok {S : Int} {R : Nat} {T xs : List Int} (hS : 0 ≤ S) (hl : (T.length : Int) = S ^ (2 * R + 1)) (hT : cellsOk S T) (h : cellsOk S xs) : ∀ n, cellsOk S (runL S R T n xs)
  | 0 => h
  | n + 1 => stepL_ok hS hl hT (runL_ok hS hl hT h n)

/-- layOut's three parts. -/
theorem rat_mid (xs : List Int) {j : Nat} (h : j < xs.length) : rat xs (j : Int) = xs.getD j 0 := by
  unfold rat
  rw [Int.emod_eq_of_lt (by omega) (by omega)]
  simp
theorem rat_left (xs : List Int) (hx : 0 < xs.length) (i : Nat) : rat xs (-1 - (i : Int)) = xs.getD (xs.length - 1 - i % xs.length) 0 := by
  unfold rat
  have h1 : i % xs.length < xs.length := Nat.mod_lt _ hx
  have h2 : (-1 - (i : Int)) % (xs.length : Int) = (xs.length : Int) - 1 - ((i % xs.length : Nat) : Int) := by
    have h3 := Nat.div_add_mod i xs.length
    have h4 : (-1 - (i : Int)) = ((xs.length : Int) - 1 - ((i % xs.length : Nat) : Int)) + (xs.length : Int) * (-1 - ((i / xs.length : Nat) : Int)) := by
      rw [Int.mul_sub]
      have : (i : Int) = (xs.length : Int) * ((i / xs.length : Nat) : Int) + ((i % xs.length : Nat) : Int) := by
        rw [← Int.natCast_mul, ← Int.natCast_add, h3]
      omega
    rw [h4, Int.add_mul_emod_self_left, Int.emod_eq_of_lt (by omega) (by omega)]
  rw [h2]
  congr 1
  omega
theorem rat_right (xs : List Int) (hx : 0 < xs.length) (i : Nat) : rat xs ((xs.length : Int) + i) = xs.getD (i % xs.length) 0 := by
  unfold rat
  rw [Int.add_comm, Int.add_emod_right]
  congr 1
theorem rat_add (xs : List Int) (t k : Int) : rat xs (t + (xs.length : Int) * k) = rat xs t := by
  unfold rat
  rw [Int.add_mul_emod_self_left]
end Go.Proofs.YtljdidimoagnhaaDoor

namespace Go.Proofs.YtljdidimoagnhaaDoor
open Go.RowKit
set_option linter.unusedVariables false

theorem list_ne_len {xs ys : List Int} (h : xs.length ≠ ys.length) : decide (xs = ys) = false := by
  simp; intro e; exact h (by rw [e])
theorem list_ne_at {xs ys : List Int} {k : Nat} (hx : k < xs.length) (hy : k < ys.length) (h : xs[k] ≠ ys[k]) : decide (xs = ys) = false := by
  simp; intro e; subst e; exact h rfl

set_option maxHeartbeats 1600000 in
theorem Ints_any (xs ys : List Int) (a b : Option Addr) (n c m d : Nat) (w : World) (hA : ArgP w xs a n c) (hB : ArgP w ys b m d) :
    Calls Tryd.prog 28 #[.slice a n c, .slice b m d] w fun e w' => e = .returned (.bool (decide (xs = ys))) ∧ ∃ q, w' = w.drewN q := by
  have HA := hide' hA
  have HB := hide' hB
  have hlx := hA.len
  have hly := hB.len
  have hma := hA.max
  have hmb := hB.max
  have LX := hide' hlx
  have LY := hide' hly
  unfold maxLen at hma hmb
  by_cases hnm : n = m
  · subst hnm
    clear hA hB hlx hly
    have EQ := hide' (fun (h : ∀ j (h1 : j < xs.length) (h2 : j < ys.length), xs[j] = ys[j]) => show decide (xs = ys) = true by
      simp; exact List.ext_getElem (by rw [← LX.out, ← LY.out]) fun j h1 h2 => h j h1 h2)
    go_enter Tryd.func28, Tryd.ntmps28
    go_wp2
    go_loopw [5] (fun iv wr => ∃ k q : Nat, iv = .int .i64 (k : Int) ∧ k ≤ n ∧ wr = w.drewN q ∧ Hid (∀ j (h1 : j < xs.length) (h2 : j < ys.length), j < k → xs[j] = ys[j])) (fun iv _ => n - (intOf iv).toNat)
    case atStart => exact ⟨0, 0, rfl, by omega, rfl, fun j h1 h2 h => by omega⟩
    case round =>
      obtain ⟨k, q, rfl, hk, rfl, HK⟩ := hrel
      by_cases hkn : (k : Int) < (n : Int)
      · have l1 : k < xs.length := by have := LX.out; omega
        have l2 : k < ys.length := by have := LY.out; omega
        obtain ⟨ga, oa, rfl, -, c1⟩ := HA.out.cells k l1
        obtain ⟨gb, ob, rfl, -, c2⟩ := HB.out.cells k l2
        obtain ⟨x, hx⟩ : ∃ x, xs[k] = x := ⟨_, rfl⟩
        obtain ⟨y, hy⟩ : ∃ y, ys[k] = y := ⟨_, rfl⟩
        rw [hx] at c1
        rw [hy] at c2
        have HX := hide' hx
        have HY := hide' hy
        clear hx hy
        by_cases e : x = y
        · subst e
          have m1 : (x != x) = false := by simp
          go_wp2
          go_quiet (fail)
          go_wp2
          refine ⟨⟨k + 1, q + nq, by go_num, by omega, rfl, fun j h1 h2 h => ?_⟩, by simp [intOf]; omega⟩
          by_cases ej : j = k
          · subst ej; rw [HX.out, HY.out]
          · exact HK.out j h1 h2 (by omega)
        · have m1 : (x != y) = true := by simp [e]
          have F := hide' (list_ne_at l1 l2 (by rw [HX.out, HY.out]; exact e))
          clear e
          go_wp2
          go_quiet (fail)
          go_wp2
          go_ret
          exact ⟨by rw [F.out]; rfl, q + nq, by simp [World.drewN, Nat.add_assoc]⟩
      · have F := hide' (EQ.out fun j h1 h2 => HK.out j h1 h2 (by have := LX.out; omega))
        go_wp2
        go_ret
        exact ⟨by rw [F.out]; rfl, q, rfl⟩
  · have m1 : ((n : Int) != (m : Int)) = true := by simp; omega
    have F := hide' (list_ne_len (xs := xs) (ys := ys) (by rw [← hlx, ← hly]; exact hnm))
    clear hA hB hlx hly hnm
    go_enter Tryd.func28, Tryd.ntmps28
    go_wp2
    go_ret
    exact ⟨by rw [F.out]; rfl, 0, rfl⟩

set_option maxHeartbeats 1600000 in
theorem Alike_any (W H W' H' : Int) (xs ys : List Int) (a b : Option Addr) (n c m d : Nat) (w : World) (hA : ArgP w xs a n c) (hB : ArgP w ys b m d) :
    Calls Tryd.prog 37 #[.agg #[.int .i64 W, .int .i64 H, .slice a n c], .agg #[.int .i64 W', .int .i64 H', .slice b m d]] w fun e w' => e = .returned (.bool (decide (xs = ys) && (W == W') && (H == H'))) ∧ Below w.heap.size w w' := by
  have B := hide' (((Below.refl w.heap.size w).alloc (Nat.le_refl _) (.cells #[.int .i64 W, .int .i64 H, .slice a n c] 51)).alloc (by simp) (.cells #[.int .i64 W', .int .i64 H', .slice b m d] 51))
  have AA := hide' (hA.below B.out)
  have AB := hide' (hB.below B.out)
  obtain ⟨r, hr⟩ : ∃ r, decide (xs = ys) = r := ⟨_, rfl⟩
  have HR := hide' hr
  clear hA hB hr
  cases r
  · go_enter Tryd.func37, Tryd.ntmps37
    go_wp2_with fail
    refine (Ints_any xs ys a b n c m d _ AA.out AB.out).mono ?_
    rw [HR.out]
    rintro e w1 ⟨rfl, q, rfl⟩
    go_wp2
    go_ret
    exact ⟨by rw [HR.out]; simp, below_drewN B.out q⟩
  · cases e1 : (W == W')
    · go_enter Tryd.func37, Tryd.ntmps37
      go_wp2_with fail
      refine (Ints_any xs ys a b n c m d _ AA.out AB.out).mono ?_
      rw [HR.out]
      rintro e w1 ⟨rfl, q, rfl⟩
      go_wp2
      go_ret
      exact ⟨by rw [HR.out]; simp, below_drewN B.out q⟩
    · go_enter Tryd.func37, Tryd.ntmps37
      go_wp2_with fail
      refine (Ints_any xs ys a b n c m d _ AA.out AB.out).mono ?_
      rw [HR.out]
      rintro e w1 ⟨rfl, q, rfl⟩
      go_wp2
      go_ret
      exact ⟨by rw [HR.out]; simp, below_drewN B.out q⟩
end Go.Proofs.YtljdidimoagnhaaDoor

