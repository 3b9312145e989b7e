/-
  What the last text of this claim leans on, part 34: Sp5, Sp6, Hj8, Sp1, Sp2, Sp4, Sp7, Sp8, Sp9, Spa, Spb, Sq1, Sq3, Sq4.
-/
import Derived.Test.YtemhcpldflcfbaaGreatDoorYf33
import Derived.Test.YtemhcpldflcfbaaGreatDoorYf17
import Derived.Test.YtemhcpldflcfbaaGreatDoorChecked
import Derived.Test.YtemhcpldflcfbaaGreatDoorYf9
import Derived.Laws.BitsAllLaws
namespace Go.Proofs.YtemhcpldflcfbaaGreatDoor
set_option linter.unusedVariables false
def cntDs (f : Nat → Bool) : Nat → Nat
 | 0 => 0
 | k + 1 => cntDs f k + if f k = true then 1 else 0
theorem cnt_le (f : Nat → Bool) : ∀ k, cntDs f k ≤ k
 | 0 => Nat.le_refl _
 | k + 1 => by
  have := cnt_le f k
  rw [cntDs]
  split <;> omega
theorem cnt_mono {f g : Nat → Bool} : ∀ {k : Nat}, (∀ j, j < k → f j = true → g j = true) → cntDs f k ≤ cntDs g k
 | 0, _ => Nat.le_refl _
 | k + 1, h => by
  have a := cnt_mono (k := k) (fun j hj => h j (by omega))
  have b := h k (by omega)
  rw [cntDs, cntDs]
  by_cases q : f k = true
  ·rw [if_pos q, if_pos (b q)]; omega
  ·rw [if_neg q]; omega
theorem cnt_lt {f g : Nat → Bool} : ∀ {k : Nat}, (∀ j, j < k → f j = true → g j = true) → (∃ j, j < k ∧ g j = true ∧ f j = false) → cntDs f k < cntDs g k
 | 0, _, h => by obtain ⟨j, hj, _⟩ := h; omega
 | k + 1, h, hx => by
  obtain ⟨j, hj, h1, h2⟩ := hx
  have a := cnt_mono (k := k) (fun j hj => h j (by omega))
  have b := h k (by omega)
  rw [cntDs, cntDs]
  by_cases e : j = k
  ·subst e
   rw [if_pos h1, if_neg (by simp [h2])]; omega
  ·have c := cnt_lt (k := k) (fun j hj => h j (by omega)) ⟨j, by omega, h1, h2⟩
   by_cases q : f k = true
   ·rw [if_pos q, if_pos (b q)]; omega
   ·rw [if_neg q]; omega
theorem nb_self (W : Nat) (cor : Bool) (i : Nat) : nbD W cor i i = true := by simp [nbD]
theorem wet_in {W N : Nat} {cor : Bool} {st inS : Nat → Bool} : ∀ {t i : Nat}, wetS W N cor st inS t i = true → inS i = true
 | 0, i, h => by rw [wetS, Bool.and_eq_true] at h; exact h.2
 | t + 1, i, h => by rw [wetS, Bool.and_eq_true] at h; exact h.1
theorem wet_up {W N : Nat} {cor : Bool} {st inS : Nat → Bool} {t i : Nat} (hi : i < N) (h : wetS W N cor st inS t i = true) : wetS W N cor st inS (t + 1) i = true := by
 rw [wetS, Bool.and_eq_true, any_iff]
 exact ⟨wet_in h, i, hi, by rw [nb_self, h]; rfl⟩
theorem wet_le {W N : Nat} {cor : Bool} {st inS : Nat → Bool} {i : Nat} (hi : i < N) : ∀ {t u : Nat}, t ≤ u → wetS W N cor st inS t i = true → wetS W N cor st inS u i = true
 | t, 0, h, hw => by rw [show t = 0 by omega] at hw; exact hw
 | t, u + 1, h, hw => by
  by_cases e : t = u + 1
  ·rw [← e]; exact hw
  ·exact wet_up hi (wet_le hi (by omega) hw)
theorem wet_step {W N : Nat} {cor : Bool} {st inS : Nat → Bool} {t : Nat} (h : ∀ i, i < N → wetS W N cor st inS (t + 1) i = wetS W N cor st inS t i) : ∀ i, i < N → wetS W N cor st inS (t + 1 + 1) i = wetS W N cor st inS (t + 1) i := by
 intro i hi
 rw [wetS, wetS]
 congr 1
 refine any_ext fun j hj => ?_
 rw [h j hj]
theorem wet_end (W N : Nat) (cor : Bool) (st inS : Nat → Bool) : ∀ i, i < N → wetS W N cor st inS (N + 1) i = wetS W N cor st inS N i := by
 have key : ∀ t, (∀ i, i < N → wetS W N cor st inS (t + 1) i = wetS W N cor st inS t i) ∨ t + 1 ≤ cntDs (wetS W N cor st inS (t + 1)) N := by
  intro t
  induction t with
  | zero =>
   by_cases q : ∀ i, i < N → wetS W N cor st inS (0 + 1) i = wetS W N cor st inS 0 i
   ·exact Or.inl q
   ·refine Or.inr ?_
    have ⟨i, hi⟩ := Classical.not_forall.1 q
    have ⟨hi, hne⟩ := Classical.not_imp.1 hi
    have := cnt_lt (f := wetS W N cor st inS 0) (g := wetS W N cor st inS (0 + 1)) (k := N) (fun j hj h => wet_up hj h) ⟨i, hi, by
     cases h0 : wetS W N cor st inS 0 i with
     | true => exact absurd (by rw [h0, wet_up hi h0]) hne
     | false => cases h1 : wetS W N cor st inS (0 + 1) i with
      | true => exact ⟨rfl, rfl⟩
      | false => exact absurd (by rw [h0, h1]) hne⟩
    omega
  | succ t ih =>
   rcases ih with ih | ih
   ·exact Or.inl (wet_step ih)
   ·by_cases q : ∀ i, i < N → wetS W N cor st inS (t + 1 + 1) i = wetS W N cor st inS (t + 1) i
    ·exact Or.inl q
    ·refine Or.inr ?_
     have ⟨i, hi⟩ := Classical.not_forall.1 q
     have ⟨hi, hne⟩ := Classical.not_imp.1 hi
     have := cnt_lt (f := wetS W N cor st inS (t + 1)) (g := wetS W N cor st inS (t + 1 + 1)) (k := N) (fun j hj h => wet_up hj h) ⟨i, hi, by
      cases h0 : wetS W N cor st inS (t + 1) i with
      | true => exact absurd (by rw [h0, wet_up hi h0]) hne
      | false => cases h1 : wetS W N cor st inS (t + 1 + 1) i with
       | true => exact ⟨rfl, rfl⟩
       | false => exact absurd (by rw [h0, h1]) hne⟩
     omega
 rcases key N with h | h
 ·exact h
 ·have := cnt_le (wetS W N cor st inS (N + 1)) N
  omega
theorem wet_stay (W N : Nat) (cor : Bool) (st inS : Nat → Bool) : ∀ (d i : Nat), i < N → wetS W N cor st inS (N + d) i = wetS W N cor st inS N i := by
 have h : ∀ d i, i < N → wetS W N cor st inS (N + d + 1) i = wetS W N cor st inS (N + d) i := by
  intro d
  induction d with
  | zero => exact wet_end W N cor st inS
  | succ d ih => exact wet_step ih
 intro d
 induction d with
 | zero => intro i _; rfl
 | succ d ih => intro i hi; rw [← Nat.add_assoc, h d i hi, ih i hi]
theorem wet_all {W N : Nat} {cor : Bool} {st inS : Nat → Bool} {t i : Nat} (hi : i < N) (h : wetS W N cor st inS t i = true) : wetS W N cor st inS N i = true := by
 by_cases q : t ≤ N
 ·exact wet_le hi q h
 ·rw [← wet_stay W N cor st inS (t - N) i hi, show N + (t - N) = t by omega]
  exact h
structure SrcL (W N : Nat) (cor : Bool) (st inS : Nat → Bool) (l : List Nat) (d : Nat) : Prop where
 lt : ∀ i, i ∈ l → i < N
 wet : ∀ i, i ∈ l → ∃ t, wetS W N cor st inS t i = true
 first : ∀ i, i < N → st i = true → inS i = true → i ∈ l
 done : ∀ k, k < d → ∀ i j, l[k]? = some j → i < N → inS i = true → nbD W cor i j = true → i ∈ l
theorem SrcL.add {W N : Nat} {cor : Bool} {st inS : Nat → Bool} {l : List Nat} {d i j : Nat} (h : SrcL W N cor st inS l d) (hd : d ≤ l.length) (hi : i < N) (hs : inS i = true) (hj : j ∈ l) (hn : nbD W cor i j = true) : SrcL W N cor st inS (l ++ [i]) d := by
 refine ⟨fun k hk => ?_, fun k hk => ?_, fun k h1 h2 h3 => List.mem_append_left _ (h.first k h1 h2 h3), fun k hk a b hb h1 h2 h3 => List.mem_append_left _ (h.done k hk a b ?_ h1 h2 h3)⟩
 ·rcases List.mem_append.1 hk with hk | hk
  ·exact h.lt k hk
  ·rw [List.mem_singleton.1 hk]; exact hi
 ·rcases List.mem_append.1 hk with hk | hk
  ·exact h.wet k hk
  ·rw [List.mem_singleton.1 hk]
   obtain ⟨t, ht⟩ := h.wet j hj
   refine ⟨t + 1, ?_⟩
   rw [wetS, Bool.and_eq_true, any_iff]
   exact ⟨hs, j, h.lt j hj, by rw [hn, ht]; rfl⟩
 ·rw [List.getElem?_append_left (by omega)] at hb; exact hb
theorem SrcL.next {W N : Nat} {cor : Bool} {st inS : Nat → Bool} {l : List Nat} {d j : Nat} (h : SrcL W N cor st inS l d) (hj : l[d]? = some j) (hn : ∀ i, i < N → inS i = true → nbD W cor i j = true → i ∈ l) : SrcL W N cor st inS l (d + 1) := by
 refine ⟨h.lt, h.wet, h.first, fun k hk a b hb h1 h2 h3 => ?_⟩
 by_cases e : k = d
 ·subst e
  rw [hj] at hb
  exact hn a h1 h2 (by rw [Option.some.inj hb]; exact h3)
 ·exact h.done k (by omega) a b hb h1 h2 h3
theorem SrcL.over {W N : Nat} {cor : Bool} {st inS : Nat → Bool} {l : List Nat} {d : Nat} (h : SrcL W N cor st inS l d) (hd : l.length ≤ d) : ∀ i, i < N → (wetS W N cor st inS N i = true ↔ i ∈ l) := by
 have all : ∀ t i, i < N → wetS W N cor st inS t i = true → i ∈ l := by
  intro t
  induction t with
  | zero =>
   intro i hi hw
   rw [wetS, Bool.and_eq_true] at hw
   exact h.first i hi hw.1 hw.2
  | succ t ih =>
   intro i hi hw
   have hs := wet_in hw
   rw [wetS, Bool.and_eq_true, any_iff] at hw
   obtain ⟨_, j, hj, hb⟩ := hw
   rw [Bool.and_eq_true] at hb
   obtain ⟨k, hk⟩ := List.mem_iff_getElem?.1 (ih j hj hb.2)
   have hlt : k < l.length := (List.getElem?_eq_some_iff.1 hk).1
   exact h.done k (by omega) i j hk hi hs hb.1
 intro i hi
 exact ⟨all N i hi, fun hm => by obtain ⟨t, ht⟩ := h.wet i hm; exact wet_all hi ht⟩
theorem SrcL.is {W N : Nat} {cor : Bool} {st inS : Nat → Bool} {l : List Nat} {d i : Nat} (h : SrcL W N cor st inS l d) (hm : i ∈ l) : wetS W N cor st inS N i = true := by
 obtain ⟨t, ht⟩ := h.wet i hm
 exact wet_all (h.lt i hm) ht
def popD (s k : Nat) : Nat := cntDs (fun i => decide (s / 2 ^ i % 2 = 1)) k
def tcE (i : Nat) : Nat := 4 * (i / 2) + i % 2
def tnE (c i : Nat) : Nat := popD (c &&& 1879 <<< tcE i) 16
def tvE (born stay c i : Nat) : Nat := ((if c >>> (tcE i + 5) &&& 1 = 1 then stay else born) >>> tnE c i) &&& 1
def tbE (born stay c : Nat) : Nat → Nat
 | 0 => 0
 | i + 1 => tbE born stay c i ||| (tvE born stay c i <<< (8 * (i / 2) + i % 2))
theorem tv_le (born stay c i : Nat) : tvE born stay c i ≤ 1 := by unfold tvE; exact Nat.and_le_right
theorem tv_bit (born stay c i k : Nat) {j : Nat} : (tvE born stay c i <<< k).testBit j = (decide (j = k) && decide (tvE born stay c i = 1)) := by
 have h := tv_le born stay c i
 rw [Nat.testBit_shiftLeft]
 generalize tvE born stay c i = v at *
 have : v = 0 ∨ v = 1 := by omega
 rcases this with rfl | rfl
 ·rw [Nat.zero_testBit]; simp
 ·by_cases q : j = k
  ·subst q; simp
  ·by_cases r : j ≥ k
   ·rw [decide_eq_true r, decide_eq_false q, Bool.true_and, Bool.false_and, show Nat.testBit 1 (j - k) = decide (0 = j - k) from Nat.testBit_two_pow (n := 0) (m := j - k), decide_eq_false (by omega)]
   ·rw [decide_eq_false r, decide_eq_false q]; rfl
theorem tb_bit (born stay c j : Nat) : (tbE born stay c 4).testBit j = (((decide (j = 0) && decide (tvE born stay c 0 = 1)) || (decide (j = 1) && decide (tvE born stay c 1 = 1))) || (decide (j = 8) && decide (tvE born stay c 2 = 1)) || (decide (j = 9) && decide (tvE born stay c 3 = 1))) := by
 show ((((0 ||| tvE born stay c 0 <<< 0) ||| tvE born stay c 1 <<< 1) ||| tvE born stay c 2 <<< 8) ||| tvE born stay c 3 <<< 9).testBit j = _
 rw [Nat.testBit_or, Nat.testBit_or, Nat.testBit_or, Nat.testBit_or, tv_bit, tv_bit, tv_bit, tv_bit, Nat.zero_testBit, Bool.false_or]
theorem pop16 (s : Nat) : popD s 16 = (s.testBit 0).toNat + (s.testBit 1).toNat + (s.testBit 2).toNat + (s.testBit 3).toNat + (s.testBit 4).toNat + (s.testBit 5).toNat + (s.testBit 6).toNat + (s.testBit 7).toNat + (s.testBit 8).toNat + (s.testBit 9).toNat + (s.testBit 10).toNat + (s.testBit 11).toNat + (s.testBit 12).toNat + (s.testBit 13).toNat + (s.testBit 14).toNat + (s.testBit 15).toNat := by
 have h : ∀ i, (if decide (s / 2 ^ i % 2 = 1) = true then 1 else 0) = (s.testBit i).toNat := fun i => by
  rw [Nat.testBit_eq_decide_div_mod_eq]
  cases decide (s / 2 ^ i % 2 = 1) <;> rfl
 unfold popD
 simp only [cntDs, h]
 omega
theorem tn_is (c i : Nat) (hi : i < 4) : ((tnE c i : Nat) : Int) = nbF (fQ c) (((i % 2 : Nat) : Int) + 1) (((i / 2 : Nat) : Int) + 1) := by
 unfold tnE
 rw [pop16]
 have : i = 0 ∨ i = 1 ∨ i = 2 ∨ i = 3 := by omega
 rcases this with rfl | rfl | rfl | rfl
 ·simp only [show 1879 <<< tcE 0 = 1879 from rfl, Nat.testBit_and, show Nat.testBit 1879 0 = true from rfl, show Nat.testBit 1879 1 = true from rfl, show Nat.testBit 1879 2 = true from rfl, show Nat.testBit 1879 3 = false from rfl, show Nat.testBit 1879 4 = true from rfl, show Nat.testBit 1879 5 = false from rfl, show Nat.testBit 1879 6 = true from rfl, show Nat.testBit 1879 7 = false from rfl, show Nat.testBit 1879 8 = true from rfl, show Nat.testBit 1879 9 = true from rfl, show Nat.testBit 1879 10 = true from rfl, show Nat.testBit 1879 11 = false from rfl, show Nat.testBit 1879 12 = false from rfl, show Nat.testBit 1879 13 = false from rfl, show Nat.testBit 1879 14 = false from rfl, show Nat.testBit 1879 15 = false from rfl, Bool.and_true, Bool.and_false, Bool.toNat_false]
  simp [nbF, fQ]
  try omega
 ·simp only [show 1879 <<< tcE 1 = 3758 from rfl, Nat.testBit_and, show Nat.testBit 3758 0 = false from rfl, show Nat.testBit 3758 1 = true from rfl, show Nat.testBit 3758 2 = true from rfl, show Nat.testBit 3758 3 = true from rfl, show Nat.testBit 3758 4 = false from rfl, show Nat.testBit 3758 5 = true from rfl, show Nat.testBit 3758 6 = false from rfl, show Nat.testBit 3758 7 = true from rfl, show Nat.testBit 3758 8 = false from rfl, show Nat.testBit 3758 9 = true from rfl, show Nat.testBit 3758 10 = true from rfl, show Nat.testBit 3758 11 = true from rfl, show Nat.testBit 3758 12 = false from rfl, show Nat.testBit 3758 13 = false from rfl, show Nat.testBit 3758 14 = false from rfl, show Nat.testBit 3758 15 = false from rfl, Bool.and_true, Bool.and_false, Bool.toNat_false]
  simp [nbF, fQ]
  try omega
 ·simp only [show 1879 <<< tcE 2 = 30064 from rfl, Nat.testBit_and, show Nat.testBit 30064 0 = false from rfl, show Nat.testBit 30064 1 = false from rfl, show Nat.testBit 30064 2 = false from rfl, show Nat.testBit 30064 3 = false from rfl, show Nat.testBit 30064 4 = true from rfl, show Nat.testBit 30064 5 = true from rfl, show Nat.testBit 30064 6 = true from rfl, show Nat.testBit 30064 7 = false from rfl, show Nat.testBit 30064 8 = true from rfl, show Nat.testBit 30064 9 = false from rfl, show Nat.testBit 30064 10 = true from rfl, show Nat.testBit 30064 11 = false from rfl, show Nat.testBit 30064 12 = true from rfl, show Nat.testBit 30064 13 = true from rfl, show Nat.testBit 30064 14 = true from rfl, show Nat.testBit 30064 15 = false from rfl, Bool.and_true, Bool.and_false, Bool.toNat_false]
  simp [nbF, fQ]
  try omega
 ·simp only [show 1879 <<< tcE 3 = 60128 from rfl, Nat.testBit_and, show Nat.testBit 60128 0 = false from rfl, show Nat.testBit 60128 1 = false from rfl, show Nat.testBit 60128 2 = false from rfl, show Nat.testBit 60128 3 = false from rfl, show Nat.testBit 60128 4 = false from rfl, show Nat.testBit 60128 5 = true from rfl, show Nat.testBit 60128 6 = true from rfl, show Nat.testBit 60128 7 = true from rfl, show Nat.testBit 60128 8 = false from rfl, show Nat.testBit 60128 9 = true from rfl, show Nat.testBit 60128 10 = false from rfl, show Nat.testBit 60128 11 = true from rfl, show Nat.testBit 60128 12 = false from rfl, show Nat.testBit 60128 13 = true from rfl, show Nat.testBit 60128 14 = true from rfl, show Nat.testBit 60128 15 = true from rfl, Bool.and_true, Bool.and_false, Bool.toNat_false]
  simp [nbF, fQ]
  try omega
theorem tc_is (c i : Nat) (hi : i < 4) : (c >>> (tcE i + 5) &&& 1 = 1) ↔ fQ c (((i % 2 : Nat) : Int) + 1) (((i / 2 : Nat) : Int) + 1) = 1 := by
 have e : c >>> (tcE i + 5) &&& 1 = (c.testBit (tcE i + 5)).toNat := by
  rw [Nat.and_one_is_mod, Nat.shiftRight_eq_div_pow, Nat.testBit_eq_decide_div_mod_eq]
  have h : c / 2 ^ (tcE i + 5) % 2 < 2 := Nat.mod_lt _ (by decide)
  generalize c / 2 ^ (tcE i + 5) % 2 = q at *
  have : q = 0 ∨ q = 1 := by omega
  rcases this with rfl | rfl <;> rfl
 rw [e]
 unfold fQ
 rw [if_pos (by omega), show (4 * (((i / 2 : Nat) : Int) + 1) + (((i % 2 : Nat) : Int) + 1)).toNat = tcE i + 5 by unfold tcE; omega]
 cases c.testBit (tcE i + 5) <;> simp
theorem tv_is (born stay c i : Nat) (hi : i < 4) : ((tvE born stay c i : Nat) : Int) = nxF born stay (fQ c) (((i % 2 : Nat) : Int) + 1) (((i / 2 : Nat) : Int) + 1) := by
 unfold tvE nxF becN
 have e := tn_is c i hi
 rw [← e, Int.toNat_natCast, Nat.and_one_is_mod, Nat.shiftRight_eq_div_pow]
 by_cases q : c >>> (tcE i + 5) &&& 1 = 1
 ·rw [if_pos q, if_pos ((tc_is c i hi).1 q)]; rfl
 ·rw [if_neg q, if_neg (fun h => q ((tc_is c i hi).2 h))]; rfl
theorem table_is (born stay : Nat) : TbE born stay (fun c => tbE born stay c 4) := by
 refine ⟨fun c x y _ hx hy => ?_, fun c j _ h => ?_⟩
 ·have b : ∀ i, i < 4 → tvE born stay c i = 0 ∨ tvE born stay c i = 1 := fun i _ => by have := tv_le born stay c i; omega
  have key : ∀ i, i < 4 → (((tbE born stay c 4).testBit (8 * (i / 2) + i % 2)).toNat : Int) = ((tvE born stay c i : Nat) : Int) := fun i hi => by
   rw [tb_bit]
   have : i = 0 ∨ i = 1 ∨ i = 2 ∨ i = 3 := by omega
   rcases this with rfl | rfl | rfl | rfl
   ·rcases b 0 (by decide) with h | h <;> simp [h]
   ·rcases b 1 (by decide) with h | h <;> simp [h]
   ·rcases b 2 (by decide) with h | h <;> simp [h]
   ·rcases b 3 (by decide) with h | h <;> simp [h]
  have k := key (2 * y + x) (by omega)
  rw [show (2 * y + x) / 2 = y by omega, show (2 * y + x) % 2 = x by omega, tv_is born stay c (2 * y + x) (by omega), show (2 * y + x) / 2 = y by omega, show (2 * y + x) % 2 = x by omega] at k
  exact k
 ·show (tbE born stay c 4).testBit j = false
  rw [tb_bit, decide_eq_false (show ¬ j = 0 by omega), decide_eq_false (show ¬ j = 1 by omega), decide_eq_false (show ¬ j = 8 by omega), decide_eq_false (show ¬ j = 9 by omega)]
  rfl
theorem tb_lt (born stay c : Nat) : ∀ i, i ≤ 4 → tbE born stay c i < 1024
 | 0, _ => by show (0 : Nat) < 1024; decide
 | i + 1, h => by
  have v := tv_le born stay c i
  show tbE born stay c i ||| (tvE born stay c i <<< (8 * (i / 2) + i % 2)) < 2 ^ 10
  refine Nat.or_lt_two_pow (tb_lt born stay c i (by omega)) ?_
  rw [Nat.shiftLeft_eq]
  have p : 2 ^ (8 * (i / 2) + i % 2) ≤ 2 ^ 9 := Nat.pow_le_pow_right (by decide) (by omega)
  exact Nat.lt_of_le_of_lt (Nat.mul_le_mul v p) (by decide)
theorem tb_nil {born stay : Nat} (hb : born % 2 = 0) : tbE born stay 0 4 = 0 := by
 have h : ∀ i, i < 4 → tvE born stay 0 i = 0 := fun i hi => by
  have e := tv_is born stay 0 i hi
  rw [nxF_none hb (fun u v _ _ _ _ => by unfold fQ; split <;> simp)] at e
  omega
 show ((((0 ||| tvE born stay 0 0 <<< 0) ||| tvE born stay 0 1 <<< 1) ||| tvE born stay 0 2 <<< 8) ||| tvE born stay 0 3 <<< 9) = 0
 rw [h 0 (by decide), h 1 (by decide), h 2 (by decide), h 3 (by decide)]
 rfl
open Go.RowKit
set_option linter.unusedSimpArgs false









def ocA (x : Nat) : Nat := (x / 2 &&& 6148914691236517205) + (x &&& 6148914691236517205)
def ocB (x : Nat) : Nat := (x / 4 &&& 3689348814741910323) + (x &&& 3689348814741910323)
def ocC (x : Nat) : Nat := (x / 16 + x) &&& 1085102592571150095
def ocN (x : Nat) : Nat :=
 let c := ocC (ocB (ocA x))
 let d := c + c / 256
 let e := d + d / 65536
 let f := e + e / 4294967296
 f &&& 127
def chO : Bool := (List.range 128).all fun a => (List.range 256).all fun b => Nat.beq (ocN (2 * (a * 256 + b))) (ocN (a * 256 + b)) && Nat.beq (ocN (2 * (a * 256 + b) + 1)) (ocN (a * 256 + b) + 1)
set_option maxRecDepth 100000 in
theorem chO_all : chO = true := by decide +kernel
theorem oc_next {x : Nat} (hx : x < 32768) : ocN (2 * x) = ocN x ∧ ocN (2 * x + 1) = ocN x + 1 := by
 have h := chO_all
 unfold chO at h
 have h1 := List.all_eq_true.1 h (x / 256) (List.mem_range.2 (by omega))
 have h2 := List.all_eq_true.1 h1 (x % 256) (List.mem_range.2 (by omega))
 rw [show x / 256 * 256 + x % 256 = x by omega, Bool.and_eq_true] at h2
 exact ⟨Nat.eq_of_beq_eq_true h2.1, Nat.eq_of_beq_eq_true h2.2⟩
theorem pop_half (s : Nat) : ∀ k, popD s (k + 1) = s % 2 + popD (s / 2) k
 | 0 => by
  show 0 + _ = _
  have : s % 2 < 2 := Nat.mod_lt _ (by decide)
  have e : decide (s / 2 ^ 0 % 2 = 1) = decide (s % 2 = 1) := by rw [Nat.pow_zero, Nat.div_one]
  show 0 + (if decide (s / 2 ^ 0 % 2 = 1) = true then 1 else 0) = s % 2 + 0
  rw [e]
  by_cases q : s % 2 = 1
  ·rw [decide_eq_true q, q]; rfl
  ·rw [decide_eq_false q, show s % 2 = 0 by omega]; rfl
 | k + 1 => by
  have h1 : popD s (k + 1 + 1) = popD s (k + 1) + if decide (s / 2 ^ (k + 1) % 2 = 1) = true then 1 else 0 := rfl
  have h2 : popD (s / 2) (k + 1) = popD (s / 2) k + if decide (s / 2 / 2 ^ k % 2 = 1) = true then 1 else 0 := rfl
  rw [h1, h2, pop_half s k, Nat.div_div_eq_div_mul, show 2 * 2 ^ k = 2 ^ (k + 1) by rw [Nat.pow_succ, Nat.mul_comm]]
  omega
theorem oc_pop : ∀ (n x : Nat), n ≤ 16 → x < 2 ^ n → ocN x = popD x n
 | 0, x, _, h => by rw [show x = 0 by omega]; rfl
 | n + 1, x, hn, h => by
  have hp : 2 ^ (n + 1) ≤ 2 ^ 16 := Nat.pow_le_pow_right (by decide) hn
  have h2 : x / 2 < 2 ^ n := by rw [Nat.pow_succ] at h; omega
  have ih := oc_pop n (x / 2) (by omega) h2
  obtain ⟨a, b⟩ := oc_next (x := x / 2) (by omega)
  rw [pop_half, ← ih]
  by_cases q : x % 2 = 0
  ·rw [show 2 * (x / 2) = x by omega] at a; rw [a, q]; omega
  ·rw [show 2 * (x / 2) + 1 = x by omega] at b; rw [b, show x % 2 = 1 by omega]; omega
theorem and_u64K {a : Nat} (K : Nat) (ha : a < 18446744073709551616) (hK : K < 18446744073709551616) : bits .and .u64 (a : Int) ((K : Nat) : Int) = ((a &&& K : Nat) : Int) := u64_and_nat a K ha hK
theorem wrap_u64K {a : Nat} (ha : a < 18446744073709551616) : IntKind.u64.wrap (a : Int) = (a : Int) := by rw [IntKind.wrap_u64]; omega
theorem and_i64K {a : Nat} (K : Nat) (ha : a < 9223372036854775808) (hK : K < 9223372036854775808) : bits .and .i64 (a : Int) ((K : Nat) : Int) = ((a &&& K : Nat) : Int) := by
 have hx : a &&& K < 2 ^ 63 := Nat.and_lt_two_pow _ (by omega)
 have e : ∀ x : Nat, x < 9223372036854775808 → (BitVec.ofInt 64 (x : Int)).toNat = x := fun x h => by
  rw [BitVec.ofInt_natCast, BitVec.toNat_ofNat]; exact Nat.mod_eq_of_lt (by omega)
 show IntKind.i64.wrap ((BitVec.ofInt 64 (a : Int) &&& BitVec.ofInt 64 (K : Int)).toNat : Int) = _
 rw [BitVec.toNat_and, e a ha, e K hK]
 simp [IntKind.wrap, IntKind.signed, IntKind.bits]
 omega
set_option maxRecDepth 100000 in
set_option maxHeartbeats 6400000 in
theorem oc64_any (n : Nat) (w : World) (hn : n < 65536) : Calls Tryz.prog 112 #[.int .u64 (n : Int)] w fun e w' => e = .returned (.int .i64 (ocN n : Int)) ∧ w' = w := by
 have E := hide' (show ocN n = ((let c := ocC (ocB (ocA n)); let d := c + c / 256; let e := d + d / 65536; let f := e + e / 4294967296; f &&& 127) : Nat) from rfl)
 have l1 : n / 2 &&& 6148914691236517205 ≤ n / 2 := Nat.and_le_left
 have l2 : n &&& 6148914691236517205 ≤ n := Nat.and_le_left
 have e1 : bits .and .u64 ((n : Int) / 2) 6148914691236517205 = ((n / 2 &&& 6148914691236517205 : Nat) : Int) := and_u64K (a := n / 2) _ (by omega) (by decide)
 have e2 : bits .and .u64 (n : Int) 6148914691236517205 = ((n &&& 6148914691236517205 : Nat) : Int) := and_u64K _ (by omega) (by decide)
 obtain ⟨a, ha⟩ : ∃ a, ocA n = a := ⟨_, rfl⟩
 have ha' := ha
 unfold ocA at ha'
 obtain ⟨p1, hp1⟩ : ∃ p, n / 2 &&& 6148914691236517205 = p := ⟨_, rfl⟩
 obtain ⟨p2, hp2⟩ : ∃ p, n &&& 6148914691236517205 = p := ⟨_, rfl⟩
 rw [hp1] at e1 l1 ha'
 rw [hp2] at e2 l2 ha'
 have la : a < 131072 := by omega
 have e3 : IntKind.u64.wrap ((p1 : Int) + (p2 : Int)) = (a : Int) := by rw [← ha']; exact wrap_u64K (a := p1 + p2) (by omega)
 rw [ha] at E
 clear ha ha' hp1 hp2 l1 l2
 have m1 : a / 4 &&& 3689348814741910323 ≤ a / 4 := Nat.and_le_left
 have m2 : a &&& 3689348814741910323 ≤ a := Nat.and_le_left
 have f1 : bits .and .u64 ((a : Int) / 4) 3689348814741910323 = ((a / 4 &&& 3689348814741910323 : Nat) : Int) := and_u64K (a := a / 4) _ (by omega) (by decide)
 have f2 : bits .and .u64 (a : Int) 3689348814741910323 = ((a &&& 3689348814741910323 : Nat) : Int) := and_u64K _ (by omega) (by decide)
 obtain ⟨b, hb⟩ : ∃ b, ocB a = b := ⟨_, rfl⟩
 have hb' := hb
 unfold ocB at hb'
 obtain ⟨q1, hq1⟩ : ∃ p, a / 4 &&& 3689348814741910323 = p := ⟨_, rfl⟩
 obtain ⟨q2, hq2⟩ : ∃ p, a &&& 3689348814741910323 = p := ⟨_, rfl⟩
 rw [hq1] at f1 m1 hb'
 rw [hq2] at f2 m2 hb'
 have lb : b < 262144 := by omega
 have f3 : IntKind.u64.wrap ((q1 : Int) + (q2 : Int)) = (b : Int) := by rw [← hb']; exact wrap_u64K (a := q1 + q2) (by omega)
 rw [hb] at E
 clear hb hb' hq1 hq2 m1 m2
 obtain ⟨r, hr⟩ : ∃ r, b / 16 + b = r := ⟨_, rfl⟩
 have lr : r < 524288 := by omega
 have g1 : IntKind.u64.wrap ((b : Int) / 16 + (b : Int)) = (r : Int) := by rw [← hr]; exact wrap_u64K (a := b / 16 + b) (by omega)
 have m3 : r &&& 1085102592571150095 ≤ r := Nat.and_le_left
 have g2 : bits .and .u64 (r : Int) 1085102592571150095 = ((r &&& 1085102592571150095 : Nat) : Int) := and_u64K _ (by omega) (by decide)
 obtain ⟨c, hc⟩ : ∃ c, ocC b = c := ⟨_, rfl⟩
 have hc' := hc
 unfold ocC at hc'
 rw [hr] at hc'
 rw [hc'] at g2 m3
 have lc : c < 524288 := by omega
 rw [hc] at E
 clear hc hc' hr m3
 obtain ⟨d, hd⟩ : ∃ d, c + c / 256 = d := ⟨_, rfl⟩
 obtain ⟨u, hu⟩ : ∃ u, d + d / 65536 = u := ⟨_, rfl⟩
 obtain ⟨f, hf⟩ : ∃ f, u + u / 4294967296 = f := ⟨_, rfl⟩
 have h1 : IntKind.u64.wrap ((c : Int) + (c : Int) / 256) = (d : Int) := by rw [← hd]; exact wrap_u64K (a := c + c / 256) (by omega)
 have h2 : IntKind.u64.wrap ((d : Int) + (d : Int) / 65536) = (u : Int) := by rw [← hu]; exact wrap_u64K (a := d + d / 65536) (by omega)
 have h3 : IntKind.u64.wrap ((u : Int) + (u : Int) / 4294967296) = (f : Int) := by rw [← hf]; exact wrap_u64K (a := u + u / 4294967296) (by omega)
 have lf : f < 1000000 := by omega
 have E2 : ocN n = f &&& 127 := by rw [E.out]; show (c + c / 256 + (c + c / 256) / 65536 + (c + c / 256 + (c + c / 256) / 65536) / 4294967296) &&& 127 = _; rw [hd, hu, hf]
 have h4 : bits .and .i64 (f : Int) 127 = ((f &&& 127 : Nat) : Int) := and_i64K _ (by omega) (by decide)
 rw [E2]
 obtain ⟨g, hg⟩ : ∃ g, f &&& 127 = g := ⟨_, rfl⟩
 rw [hg] at h4 ⊢
 clear hg E2 hd hu hf E
 go_enter Tryz.func112, Tryz.ntmps112
 go_wp2
 go_ret
 exact ⟨rfl, rfl⟩
set_option maxRecDepth 100000 in
theorem oc_any (n : Nat) (w : World) (hn : n < 65536) : Calls Tryz.prog 95 #[.int .u64 (n : Int)] w fun e w' => e = .returned (.int .i64 (ocN n : Int)) ∧ w' = w := by
 have C := hide' (oc64_any n w hn)
 go_enter Tryz.func95, Tryz.ntmps95
 go_wp2_with fail
 refine C.out.mono ?_
 rintro e w2 ⟨rfl, rfl⟩
 go_wp2
 go_ret
 exact ⟨rfl, rfl⟩
end Go.Proofs.YtemhcpldflcfbaaGreatDoor
