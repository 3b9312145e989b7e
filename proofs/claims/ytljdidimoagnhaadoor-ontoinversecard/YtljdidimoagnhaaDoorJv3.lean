/-
  What the last text of this claim leans on, part 3: Ref1, Rk, Fill.
-/
import Derived.Test.YtljdidimoagnhaaDoorJv2
import Derived.Deep.OwnRows
namespace Go.Proofs.YtljdidimoagnhaaDoor
open Go.RowKit
set_option linter.unusedVariables false

theorem hide' {p : Prop} (h : p) : Hid p := h

set_option maxHeartbeats 1600000 in
theorem rising_any (s : ByteArray) (i0 : Nat) (I : Int) (w : World) (hI : I = i0) (hs : s.size ≤ maxLen) (hi0 : i0 ≤ s.size) :
    Calls Tryd.prog 76 #[.string s, .int .i64 I] w fun e w' => e = .returned (.tuple #[.int .i64 ((ris s i0).1 : Int), .int .i64 ((ris s i0).2 : Int), .bool (inR s (ris s i0).2 48 56)]) ∧ w' = w := by
  subst hI
  unfold maxLen at hs
  go_enter Tryd.func76, Tryd.ntmps76
  go_wp2
  go_loop [1, 7, 8] (fun iv nv lv => ∃ acc low i : Nat, iv = .int .i64 (i : Int) ∧ nv = .int .i64 (acc : Int) ∧ lv = .int .i64 ((low : Int) - 49) ∧ i ≤ s.size ∧ 48 ≤ low ∧ low ≤ 57 ∧ acc < 2 ^ (low - 48) ∧ risF s (s.size - i) i low acc = ris s i0) (fun iv _ _ => s.size - (intOf iv).toNat)
  case atStart => exact ⟨0, 48, i0, rfl, rfl, rfl, hi0, by omega, by omega, by decide, rfl⟩
  case round =>
    obtain ⟨acc, low, i, rfl, rfl, rfl, hi, hl1, hl2, hacc, hris⟩ := hrel
    have HR := hide' hris
    have hp : 2 ^ (low - 48) ≤ 2 ^ 9 := Nat.pow_le_pow_right (by omega) (by omega)
    have hacc2 : acc < 512 := by omega
    have HC := hide' hacc
    clear hris hacc hp
    cases hin : inR s i 48 56 with
    | false =>
      have hin2 : inR s i low 56 = false := by
        rw [inR_false] at hin ⊢; omega
      have X := hide' (show ris s i0 = (acc, i) by rw [← HR.out, risF_stop hin2])
      have HI := hide' hin
      have hno := inR_false.1 hin
      clear hin2
      by_cases c1 : i < s.size
      · have e2 := bt_lt s i c1
        by_cases c2 : 48 ≤ bt s i
        · have k1 : (48 : Int) ≤ (s[i].toNat : Int) := by omega
          have k2 : ¬ (s[i].toNat : Int) ≤ 56 := by omega
          clear hno e2 hin
          go_wp2
          go_ret3
          rw [X.out, HI.out]
          exact ⟨rfl, rfl⟩
        · have k1 : ¬ (48 : Int) ≤ (s[i].toNat : Int) := by omega
          clear hno e2 hin
          go_wp2
          go_ret3
          rw [X.out, HI.out]
          exact ⟨rfl, rfl⟩
      · have k1 : ¬ (i : Int) < (s.size : Int) := by omega
        clear hno hin
        go_wp2
        go_ret3
        rw [X.out, HI.out]
        exact ⟨rfl, rfl⟩
    | true =>
      have c1 := (inR_true.1 hin).1
      have hb := (inR_true.1 hin).2
      have e2 := bt_lt s i c1
      have k1 : (48 : Int) ≤ (s[i].toNat : Int) := by omega
      have k2 : (s[i].toNat : Int) ≤ 56 := by omega
      have HI := hide' hin
      have E2 := hide' e2
      clear hin
      by_cases c2 : bt s i < low
      · have hin2 : inR s i low 56 = false := by rw [inR_false]; omega
        have X := hide' (show ris s i0 = (acc, i) by rw [← HR.out, risF_stop hin2])
        have k3 : (s[i].toNat : Int) - 48 ≤ (low : Int) - 49 := by omega
        clear hin2 hb e2
        go_wp2
        go_ret3
        rw [X.out, HI.out]
        exact ⟨rfl, rfl⟩
      · have hin2 : inR s i low 56 = true := by rw [inR_true]; omega
        have X := hide' (risF_step (acc := acc) hin2)
        have k3 : ¬ (s[i].toNat : Int) - 48 ≤ (low : Int) - 49 := by omega
        clear hin2 hb e2
        go_wp2
        go_loop [10, 11] (fun mv kv => ∃ k m : Nat, mv = .int .i64 (m : Int) ∧ kv = .int .i64 (k : Int) ∧ m = 2 ^ k ∧ (k : Int) ≤ (s[i].toNat : Int) - 48) (fun _ kv => 10 - (intOf kv).toNat)
        case atStart => exact ⟨0, 1, rfl, rfl, rfl, by omega⟩
        case round =>
          obtain ⟨k, m, rfl, rfl, hm, hk⟩ := hrel
          have hpk : 2 ^ k ≤ 2 ^ 8 := Nat.pow_le_pow_right (by omega) (by omega)
          have hm2 : m ≤ 256 := by omega
          have HM := hide' hm
          clear hm hpk
          by_cases c3 : (k : Int) < (s[i].toNat : Int) - 48
          · go_wp2
            refine ⟨⟨k + 1, m * 2, by go_num, by go_num, ?_, by omega⟩, ?_⟩
            · rw [HM.out, Nat.pow_succ]
            · simp [intOf]; omega
          · go_wp2
            have e2 := E2.out
            have hkk : k = bt s i - 48 := by omega
            have hmm := HM.out
            rw [hkk] at hmm
            have hc := HC.out
            have hpl : 2 ^ (low - 48) ≤ 2 ^ (bt s i - 48) := Nat.pow_le_pow_right (by omega) (by omega)
            refine ⟨⟨acc + m, bt s i + 1, i + 1, by go_num, by go_num, ?_, by omega, by omega, by omega, ?_, ?_⟩, by simp [intOf]; omega⟩
            · rw [show (s[i].toNat : Int) - 48 = ((bt s i + 1 : Nat) : Int) - 49 by omega]
            · rw [show bt s i + 1 - 48 = (bt s i - 48) + 1 by omega, Nat.pow_succ]; omega
            · rw [hmm]; exact X.out.symm.trans HR.out

/-- What Number makes of the digits. -/
structure NumRef (s : ByteArray) (i0 : Nat) (N : Int) : Prop where
  ok : ∀ least most : Nat, most < 1000000 → numOk s i0 least most = true → N = ((num s i0).1 : Int) ∧ (least : Int) ≤ N ∧ N ≤ (most : Int)
  no : ∀ least most : Nat, most < 1000000 → numOk s i0 least most = false → N < (least : Int) ∨ (most : Int) < N
  lo : -1 ≤ N
  hi : N ≤ 10000000
  bad : (num s i0).2 = i0 ∨ (1 < (num s i0).2 - i0 ∧ bt s i0 = 48) → N = -1
  good : ¬ ((num s i0).2 = i0 ∨ (1 < (num s i0).2 - i0 ∧ bt s i0 = 48)) → 0 ≤ N

theorem numRef_bad {s : ByteArray} {i0 i : Nat} (hf : (num s i0).2 = i) (hb : i = i0 ∨ (1 < i - i0 ∧ bt s i0 = 48)) : NumRef s i0 (-1) := by
  refine ⟨fun least most hm hok => ?_, fun least most hm hok => by omega, by omega, by omega, fun _ => rfl, fun h => absurd (by rw [hf]; exact hb) h⟩
  simp [numOk, hf] at hok
  omega
theorem numRef_good {s : ByteArray} {i0 i k : Nat} (hf : (num s i0).2 = i) (hb : ¬ (i = i0 ∨ (1 < i - i0 ∧ bt s i0 = 48))) (h1 : (num s i0).1 < 1000000 → k = (num s i0).1) (h2 : 1000000 ≤ (num s i0).1 → 1000000 ≤ k) (h3 : k ≤ 10000000) : NumRef s i0 (k : Int) := by
  refine ⟨fun least most hm hok => ?_, fun least most hm hok => ?_, by omega, by omega, fun h => absurd (by rw [hf] at h; exact h) hb, fun _ => by omega⟩
  · simp [numOk, hf] at hok
    have := h1 (by omega)
    omega
  · by_cases q : (num s i0).1 < 1000000
    · have := h1 q
      by_cases c : (num s i0).1 < least
      · omega
      by_cases d : most < (num s i0).1
      · omega
      simp [numOk, hf] at hok
      omega
    · have := h2 (by omega)
      omega

set_option maxHeartbeats 1600000 in
theorem Number_any (s : ByteArray) (i0 : Nat) (I : Int) (w : World) (hI : I = i0) (hs : s.size ≤ maxLen) (hi0 : i0 ≤ s.size) :
    Calls Tryd.prog 77 #[.string s, .int .i64 I] w fun e w' => ∃ N : Int, e = .returned (.tuple #[.int .i64 N, .int .i64 ((num s i0).2 : Int)]) ∧ NumRef s i0 N ∧ w' = w := by
  subst hI
  unfold maxLen at hs
  go_enter Tryd.func77, Tryd.ntmps77
  go_wp2
  go_loop [1, 7] (fun iv nv => ∃ k v i : Nat, iv = .int .i64 (i : Int) ∧ nv = .int .i64 (k : Int) ∧ i0 ≤ i ∧ i ≤ s.size ∧ (v < 1000000 → k = v) ∧ (1000000 ≤ v → 1000000 ≤ k) ∧ k ≤ 10000000 ∧ numF s (s.size - i) i v = num s i0) (fun iv _ => s.size - (intOf iv).toNat)
  case atStart => exact ⟨0, 0, i0, rfl, rfl, by omega, hi0, by omega, by omega, by omega, rfl⟩
  case round =>
    obtain ⟨k, v, i, rfl, rfl, hlo, hi, h1, h2, h3, hnum⟩ := hrel
    have HR := hide' hnum
    have H1 := hide' h1
    have H2 := hide' h2
    clear hnum h1 h2
    cases hin : inR s i 48 57 with
    | false =>
      have X := hide' (show num s i0 = (v, i) by rw [← HR.out, numF_stop hin])
      have hno := inR_false.1 hin
      have hfin : (num s i0).2 = i := by rw [X.out]
      have hval : (num s i0).1 = v := by rw [X.out]
      have HF := hide' hfin
      have G := hide' (fun hb => numRef_good (k := k) hfin hb (by rw [hval]; exact H1.out) (by rw [hval]; exact H2.out) h3)
      have B := hide' (fun hb => numRef_bad hfin hb)
      clear hfin hval
      -- how the loop is left, and what stands at the beginning
      have hw : (i < s.size ∧ 48 ≤ bt s i ∧ ¬ bt s i ≤ 57) ∨ (i < s.size ∧ ¬ 48 ≤ bt s i) ∨ ¬ i < s.size := by omega
      clear hno hin
      rcases hw with ⟨c1, c2, c3⟩ | ⟨c1, c2⟩ | c1
      · have e2 := bt_lt s i c1
        have k1 : (48 : Int) ≤ (s[i].toNat : Int) := by omega
        have k2 : ¬ (s[i].toNat : Int) ≤ 57 := by omega
        clear e2 c2 c3
        by_cases d1 : i = i0
        · have n1 : ((i : Int) == (i0 : Int)) = true := by simp; omega
          have D := hide' d1
          clear d1
          go_wp2
          go_ret2
          rw [HF.out]
          exact ⟨_, rfl, B.out (Or.inl D.out), rfl⟩
        · have n1 : ((i : Int) == (i0 : Int)) = false := by simp; omega
          have hlt0 : i0 < s.size := by omega
          have e0 := bt_lt s i0 hlt0
          by_cases d2 : bt s i0 = 48
          · have n2 : ((s[i0].toNat : Int) == 48) = true := by simp; omega
            have D2 := hide' d2
            clear e0 d2
            by_cases d3 : i0 + 1 < i
            · have n3 : (i0 : Int) + 1 < (i : Int) := by omega
              go_wp2
              go_ret2
              rw [HF.out]
              exact ⟨_, rfl, B.out (Or.inr ⟨by omega, D2.out⟩), rfl⟩
            · have n3 : ¬ (i0 : Int) + 1 < (i : Int) := by omega
              go_wp2
              go_ret2
              rw [HF.out]
              exact ⟨_, rfl, G.out (by omega), rfl⟩
          · have n2 : ((s[i0].toNat : Int) == 48) = false := by simp; omega
            have D2 := hide' d2
            clear e0 d2
            go_wp2
            go_ret2
            rw [HF.out]
            have := D2.out
            exact ⟨_, rfl, G.out (by omega), rfl⟩
      · have e2 := bt_lt s i c1
        have k1 : ¬ (48 : Int) ≤ (s[i].toNat : Int) := by omega
        clear e2 c2
        by_cases d1 : i = i0
        · have n1 : ((i : Int) == (i0 : Int)) = true := by simp; omega
          have D := hide' d1
          clear d1
          go_wp2
          go_ret2
          rw [HF.out]
          exact ⟨_, rfl, B.out (Or.inl D.out), rfl⟩
        · have n1 : ((i : Int) == (i0 : Int)) = false := by simp; omega
          have hlt0 : i0 < s.size := by omega
          have e0 := bt_lt s i0 hlt0
          by_cases d2 : bt s i0 = 48
          · have n2 : ((s[i0].toNat : Int) == 48) = true := by simp; omega
            have D2 := hide' d2
            clear e0 d2
            by_cases d3 : i0 + 1 < i
            · have n3 : (i0 : Int) + 1 < (i : Int) := by omega
              go_wp2
              go_ret2
              rw [HF.out]
              exact ⟨_, rfl, B.out (Or.inr ⟨by omega, D2.out⟩), rfl⟩
            · have n3 : ¬ (i0 : Int) + 1 < (i : Int) := by omega
              go_wp2
              go_ret2
              rw [HF.out]
              exact ⟨_, rfl, G.out (by omega), rfl⟩
          · have n2 : ((s[i0].toNat : Int) == 48) = false := by simp; omega
            have D2 := hide' d2
            clear e0 d2
            go_wp2
            go_ret2
            rw [HF.out]
            have := D2.out
            exact ⟨_, rfl, G.out (by omega), rfl⟩
      · have k1 : ¬ (i : Int) < (s.size : Int) := by omega
        by_cases d1 : i = i0
        · have n1 : ((i : Int) == (i0 : Int)) = true := by simp; omega
          have D := hide' d1
          clear d1
          go_wp2
          go_ret2
          rw [HF.out]
          exact ⟨_, rfl, B.out (Or.inl D.out), rfl⟩
        · have n1 : ((i : Int) == (i0 : Int)) = false := by simp; omega
          have hlt0 : i0 < s.size := by omega
          have e0 := bt_lt s i0 hlt0
          by_cases d2 : bt s i0 = 48
          · have n2 : ((s[i0].toNat : Int) == 48) = true := by simp; omega
            have D2 := hide' d2
            clear e0 d2
            by_cases d3 : i0 + 1 < i
            · have n3 : (i0 : Int) + 1 < (i : Int) := by omega
              go_wp2
              go_ret2
              rw [HF.out]
              exact ⟨_, rfl, B.out (Or.inr ⟨by omega, D2.out⟩), rfl⟩
            · have n3 : ¬ (i0 : Int) + 1 < (i : Int) := by omega
              go_wp2
              go_ret2
              rw [HF.out]
              exact ⟨_, rfl, G.out (by omega), rfl⟩
          · have n2 : ((s[i0].toNat : Int) == 48) = false := by simp; omega
            have D2 := hide' d2
            clear e0 d2
            go_wp2
            go_ret2
            rw [HF.out]
            have := D2.out
            exact ⟨_, rfl, G.out (by omega), rfl⟩
    | true =>
      have c1 := (inR_true.1 hin).1
      have hb := (inR_true.1 hin).2
      have e2 := bt_lt s i c1
      have k1 : (48 : Int) ≤ (s[i].toNat : Int) := by omega
      have k2 : (s[i].toNat : Int) ≤ 57 := by omega
      have X := hide' (numF_step (v := v) hin)
      have E2 := hide' e2
      clear hin hb e2
      by_cases c2 : (k : Int) < 1000000
      · go_wp2
        have h1 := H1.out
        have h2 := H2.out
        have e2 := E2.out
        refine ⟨⟨k * 10 + (bt s i - 48), v * 10 + (bt s i - 48), i + 1, by go_num, ?_, by omega, by omega, by omega, by omega, by omega, X.out.symm.trans HR.out⟩, by simp [intOf]; omega⟩
        rw [show (k : Int) * 10 + (s[i].toNat : Int) - 48 = ((k * 10 + (bt s i - 48) : Nat) : Int) by omega]
      · go_wp2
        have h1 := H1.out
        have h2 := H2.out
        exact ⟨⟨k, v * 10 + (bt s i - 48), i + 1, by go_num, rfl, by omega, by omega, by omega, by omega, h3, X.out.symm.trans HR.out⟩, by simp [intOf]; omega⟩
end Go.Proofs.YtljdidimoagnhaaDoor

namespace Go.Proofs.YtljdidimoagnhaaDoor
open Go.RowKit

/-- A table in memory: a slice that reads as the numbers. -/
def Tab (w : World) (v : Value) (xs : List Int) : Prop :=
  (xs = [] ∧ v = .slice none 0 0) ∨ ∃ g cap, v = .slice (some ⟨g, 0, none⟩) xs.length cap ∧ g < w.heap.size ∧ ∀ k (h : k < xs.length), w.cell? ⟨g, k, none⟩ = some (.int .i64 xs[k])

/-- A slice whose block was made since. -/
def Fresh (w : World) (v : Value) : Prop := ∀ g k c, v = .slice (some ⟨g, 0, none⟩) k c → w.heap.size ≤ g
theorem Fresh.nil (w : World) : Fresh w (.slice none 0 0) := fun _ _ _ h => by injection h with h1; cases h1
theorem Fresh.mk {w : World} {g k c : Nat} (h : w.heap.size ≤ g) : Fresh w (.slice (some ⟨g, 0, none⟩) k c) := fun g' _ _ q => by
  injection q with q1; injection q1 with q2; injection q2 with q3; omega

/-- A rule as a value, its table at v. -/
def Out.val (o : Out) (v : Value) : Value := .agg #[.int .i64 o.kind, .int .i64 o.born, .int .i64 o.stay, .int .i64 o.states, .int .i64 o.radius, v, .string o.turns]

theorem ris_le (s : ByteArray) (i : Nat) (h : i ≤ s.size) : (ris s i).2 ≤ s.size := by
  have H : ∀ f i low acc, i + f = s.size → (risF s f i low acc).2 ≤ s.size := by
    intro f
    induction f with
    | zero => intro i low acc e; simp [risF]; omega
    | succ f ih =>
      intro i low acc e
      unfold risF
      split
      · exact ih _ _ _ (by omega)
      · simp; omega
  exact H _ _ _ _ (by omega)

/-- The cells of a new rule. -/
def zeroCells : Array Value := #[.int .i64 0, .int .i64 0, .int .i64 0, .int .i64 0, .int .i64 0, .slice none 0 0, .string ⟨#[]⟩]

/-- A block that the call made ahead still lies there. -/
theorem Rd.made {b : Nat} {w w' : World} {C : Array Value} {t : TypeId} (h : Rd b (w.alloc (.cells C t)) w') (hb : b < w.heap.size) :
    (∀ j, w'.cell? ⟨w.heap.size, j, none⟩ = C[j]?) ∧ (∀ j, w'.frozen? ⟨w.heap.size, j, none⟩ = false) := by
  refine ⟨fun j => ?_, fun j => ?_⟩
  · rw [h.cell w.heap.size j (by simp) (by omega)]; simp
  · rw [h.frozen w.heap.size j (by simp) (by omega)]; simp

theorem Rd.un {b : Nat} {w w' : World} {O : Obj} (h : Rd b (w.alloc O) w') : Rd b w w' := (Rd.alloc (Rd.refl b w) O).trans h
theorem set7_at {b : Nat} {s : ByteArray} {i : Nat} {w : World} (h : At b s i w) {g : Nat} {v0 v1 v2 v3 v4 v5 v6 : Value} (hg : b ≠ g) :
    At b s i (((((((w.setCell ⟨g, 0, none⟩ v0).setCell ⟨g, 1, none⟩ v1).setCell ⟨g, 2, none⟩ v2).setCell ⟨g, 3, none⟩ v3).setCell ⟨g, 4, none⟩ v4).setCell ⟨g, 5, none⟩ v5).setCell ⟨g, 6, none⟩ v6) :=
  ((((((h.setOther hg v0).setOther hg v1).setOther hg v2).setOther hg v3).setOther hg v4).setOther hg v5).setOther hg v6
theorem set7_rd {b : Nat} {w w' : World} (h : Rd b w w') {g : Nat} {v0 v1 v2 v3 v4 v5 v6 : Value} (hg : w.heap.size ≤ g) :
    Rd b w (((((((w'.setCell ⟨g, 0, none⟩ v0).setCell ⟨g, 1, none⟩ v1).setCell ⟨g, 2, none⟩ v2).setCell ⟨g, 3, none⟩ v3).setCell ⟨g, 4, none⟩ v4).setCell ⟨g, 5, none⟩ v5).setCell ⟨g, 6, none⟩ v6) :=
  ((((((h.setNew hg v0).setNew hg v1).setNew hg v2).setNew hg v3).setNew hg v4).setNew hg v5).setNew hg v6

set_option maxHeartbeats 800000 in
theorem life_any (b : Nat) (s : ByteArray) (w : World) (h : At b s 1 w) (hs : s.size ≤ maxLen) (h1 : 1 ≤ s.size) (o : Out) (p : Nat) (hok : lifeS s = .inl (o, p)) :
    Calls Tryd.prog 186 #[.pointer (some ⟨b, 0, none⟩)] w fun e w' => e = .returned (o.val (.slice none 0 0)) ∧ At b s p w' ∧ Rd b w w' ∧ p ≤ s.size ∧ o.table = [] := by
  unfold lifeS at hok
  cases hA : inR s (ris s 1).2 47 47 with
  | false => simp [hA] at hok
  | true =>
  cases hB : inR s ((ris s 1).2 + 1) 83 83 with
  | false => simp [hA, hB] at hok
  | true =>
  simp [hA, hB] at hok
  obtain ⟨rfl, rfl⟩ := hok
  have H0 : Hid (At b s 1 w) := h
  have hlt := h.lt
  clear h
  have hb2 := (inR_true.1 hB).1
  go_enter Tryd.func186, Tryd.ntmps186
  go_wp2_with fail
  refine (bits_any b s 1 _ (H0.out.alloc _) hs h1).mono ?_
  rintro e w1 ⟨rfl, a1, r1, l1⟩
  have A1 : Hid (At b s (ris s 1).2 w1) := a1
  clear a1
  go_wp2_with fail
  refine (expect_yes b s (ris s 1).2 47 _ A1.out hs hA).mono ?_
  rintro e w2 ⟨rfl, a2, r2⟩
  have A2 : Hid (At b s ((ris s 1).2 + 1) w2) := a2
  clear a2
  go_wp2_with fail
  refine (expect_yes b s ((ris s 1).2 + 1) 83 _ A2.out hs hB).mono ?_
  rintro e w3 ⟨rfl, a3, r3⟩
  have A3 : Hid (At b s ((ris s 1).2 + 1 + 1) w3) := a3
  clear a3
  go_wp2_with fail
  refine (bits_any b s ((ris s 1).2 + 2) _ A3.out hs (by omega)).mono ?_
  rintro e w4 ⟨rfl, a4, r4, l4⟩
  have A4 : Hid (At b s (ris s ((ris s 1).2 + 2)).2 w4) := a4
  have R4 := ((r1.trans r2).trans r3).trans r4
  obtain ⟨hc, hf⟩ := R4.made hlt
  have HR : Hid (Rd b (w.alloc (.cells zeroCells 24)) w4) := R4
  have c0 := hc 0
  have c1 := hc 1
  have c2 := hc 2
  have c3 := hc 3
  have c4 := hc 4
  have c5 := hc 5
  have c6 := hc 6
  simp at c0 c1 c2 c3 c4 c5 c6
  clear hc a4 r1 r2 r3 r4 R4
  go_wp2
  refine bodyPost_ret (v := Out.val ⟨1, (ris s 1).1, (ris s ((ris s 1).2 + 2)).1, 0, 0, [], ⟨#[]⟩⟩ (.slice none 0 0)) (by simp [results, Tryd.results186, go_sem, Out.val, c0, c1, c2, c3, c4, c5, c6]) rfl ?_
  exact ⟨rfl, set7_at A4.out (by omega), set7_rd (HR.out.un) (by omega), l4, trivial⟩
end Go.Proofs.YtljdidimoagnhaaDoor

namespace Go.Proofs.YtljdidimoagnhaaDoor
open Go.RowKit

theorem hide {p : Prop} (h : p) : Hid p := h
theorem unhide {p : Prop} (h : Hid p) : p := h

/-- At block g a list of n numbers, the first k of which are f's. -/
structure Fill (g n k : Nat) (f : Nat → Int) (w : World) : Prop where
  lt : g < w.heap.size
  cells : ∀ j, j < n → ∃ v, w.cell? ⟨g, j, none⟩ = some v ∧ (j < k → v = .int .i64 (f j))
  fz : ∀ j, w.frozen? ⟨g, j, none⟩ = false

theorem Fill.start (w : World) (n : Nat) (f : Nat → Int) (z : Value) (t : TypeId) : Fill w.heap.size n 0 f (w.alloc (.cells (madeCells #[z] n) t)) := by
  refine ⟨by simp, fun j hj => ⟨(madeCells #[z] n)[j]'(by rw [size_madeCells]; exact hj), ?_, by omega⟩, fun j => by simp⟩
  rw [World.cell?_alloc_at _ _ _ _ rfl]
  exact Array.getElem?_eq_getElem (by rw [size_madeCells]; exact hj)
theorem Fill.step {g n k : Nat} {f : Nat → Int} {w : World} (h : Fill g n k f w) (hk : k < n) : Fill g n (k + 1) f (w.setCell ⟨g, k, none⟩ (.int .i64 (f k))) := by
  refine ⟨by rw [World.size_setCell]; exact h.lt, fun j hj => ?_, fun j => by rw [World.frozen?_setCell]; exact h.fz j⟩
  by_cases e : j = k
  · subst e
    obtain ⟨v, hv, -⟩ := h.cells j hj
    exact ⟨_, World.cell?_setCell_same (w := w) (a := ⟨g, j, none⟩) (v := _) (h := hv), fun _ => rfl⟩
  · obtain ⟨v, hv, hv'⟩ := h.cells j hj
    refine ⟨v, ?_, fun _ => hv' (by omega)⟩
    exact (World.cell?_setCell_other (w := w) (a := ⟨g, k, none⟩) (b := ⟨g, j, none⟩) (v := _) (h := fun q => e (congrArg Addr.off q).symm)).trans hv
theorem Fill.rd {b g n k : Nat} {f : Nat → Int} {w w' : World} (h : Fill g n k f w) (r : Rd b w w') (hb : g ≠ b) : Fill g n k f w' := by
  refine ⟨Nat.lt_of_lt_of_le h.lt r.size, fun j hj => ?_, fun j => ?_⟩
  · obtain ⟨v, hv, hv'⟩ := h.cells j hj
    exact ⟨v, by rw [r.cell g j h.lt hb]; exact hv, hv'⟩
  · rw [r.frozen g j h.lt hb]; exact h.fz j
theorem Fill.other {g n k : Nat} {f : Nat → Int} {w : World} (h : Fill g n k f w) {p : Addr} (hp : g ≠ p.block) (u : Value) : Fill g n k f (w.setCell p u) := by
  have e : (w.setCell p u).heap[g]? = w.heap[g]? := Below.heap_setCell _ _ _ _ hp
  refine ⟨by rw [World.size_setCell]; exact h.lt, fun j hj => ?_, fun j => ?_⟩
  · obtain ⟨v, hv, hv'⟩ := h.cells j hj
    exact ⟨v, (World.cell?_of_block (w := w) (a := ⟨g, j, none⟩) e).trans hv, hv'⟩
  · exact (World.frozen?_of_block (w := w) (a := ⟨g, j, none⟩) e).trans (h.fz j)
theorem Fill.tab {g n cap : Nat} {f : Nat → Int} {w : World} (h : Fill g n n f w) : Tab w (.slice (some ⟨g, 0, none⟩) n cap) ((List.range n).map f) := by
  refine Or.inr ⟨g, cap, by simp, h.lt, fun k hk => ?_⟩
  simp at hk
  obtain ⟨v, hv, hv'⟩ := h.cells k hk
  rw [hv, hv' hk]; simp
theorem Tab.other {w : World} {v : Value} {xs : List Int} (h : Tab w v xs) {p : Addr} (u : Value) (hp : ∀ g c, v = .slice (some ⟨g, 0, none⟩) xs.length c → g ≠ p.block) : Tab (w.setCell p u) v xs := by
  rcases h with h | ⟨g, cap, hv, hg, hc⟩
  · exact Or.inl h
  · have e : (w.setCell p u).heap[g]? = w.heap[g]? := Below.heap_setCell _ _ _ _ (hp g cap hv)
    exact Or.inr ⟨g, cap, hv, by rw [World.size_setCell]; exact hg, fun k hk => (World.cell?_of_block (w := w) (a := ⟨g, k, none⟩) e).trans (hc k hk)⟩

/-- How many windows: the product stops above 4096. -/
def entF (n : Nat) : Nat → Nat → Nat
  | 0, e => e
  | f + 1, e => if e ≤ 4096 then entF n f (e * (n * n)) else e
def entOf (n m : Nat) : Nat := entF n m n

theorem entOf_small (n m : Nat) (hn : 2 ≤ n) (hn' : n ≤ 4) (hm : m ≤ 2) : entOf n m = entries n m := by
  have h1 : n = 2 ∨ n = 3 ∨ n = 4 := by omega
  have h2 : m = 0 ∨ m = 1 ∨ m = 2 := by omega
  rcases h1 with rfl | rfl | rfl <;> rcases h2 with rfl | rfl | rfl <;> decide

theorem entF_stop {n e : Nat} (h : ¬ e ≤ 4096) : ∀ f, entF n f e = e
  | 0 => rfl
  | f + 1 => by simp [entF, h]

set_option maxHeartbeats 800000 in
theorem entries_any (n m : Nat) (N M : Int) (w : World) (hN : N = n) (hM : M = m) (hn : 2 ≤ n) (hn' : n ≤ 4) (hm : m ≤ 4611686018427387904) :
    Calls Tryd.prog 194 #[.int .i64 N, .int .i64 M] w fun e w' => e = .returned (.int .i64 ((entOf n m : Nat) : Int)) ∧ w' = w := by
  subst hN hM
  have h1 : n = 2 ∨ n = 3 ∨ n = 4 := by omega
  rcases h1 with rfl | rfl | rfl
  all_goals
    go_enter Tryd.func194, Tryd.ntmps194
    go_wp2
    go_loop [5, 6] (fun ev iv => ∃ k e : Nat, iv = .int .i64 (k : Int) ∧ ev = .int .i64 (e : Int) ∧ k ≤ m ∧ e ≤ 65536 ∧ entF _ (m - k) e = entOf _ m) (fun _ iv => m - (intOf iv).toNat)
    case atStart => exact ⟨0, _, rfl, rfl, by omega, by omega, rfl⟩
    case round =>
      obtain ⟨k, e, rfl, rfl, hk, he, hent⟩ := hrel
      have HE := hide hent
      clear hent
      by_cases hkm : (k : Int) < (m : Int)
      · by_cases hee : (e : Int) ≤ 4096
        · go_wp2
          have e1 := unhide HE
          rw [show m - k = (m - (k + 1)) + 1 by omega, entF, if_pos (by omega)] at e1
          refine ⟨⟨k + 1, _, by go_num, ?_, by omega, ?_, e1⟩, by simp [intOf]; omega⟩
          · go_num
          · omega
        · go_wp2
          go_ret
          have e1 := unhide HE
          rw [entF_stop (by omega)] at e1
          rw [← e1]
          exact ⟨rfl, rfl⟩
      · go_wp2
        go_ret
        have e1 := unhide HE
        rw [show m - k = 0 by omega, entF] at e1
        rw [← e1]
        exact ⟨rfl, rfl⟩
end Go.Proofs.YtljdidimoagnhaaDoor

