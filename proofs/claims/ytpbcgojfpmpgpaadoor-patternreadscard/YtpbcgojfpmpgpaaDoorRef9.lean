/-
  The document's answer to any text of a rule (edenref1.Parse), whole: it is what chapter 1's plain functions say.
-/
import Derived.Test.YtpbcgojfpmpgpaaDoorRef8
namespace Go.Proofs.YtpbcgojfpmpgpaaDoor
open Go.RowKit
set_option linter.unusedVariables false

theorem num_size (s : ByteArray) (i : Nat) (h : i ≤ s.size) : (num s i).2 ≤ s.size := by
  have H : ∀ f i v, i + f = s.size → (numF s f i v).2 ≤ s.size := by
    intro f
    induction f with
    | zero => intro i v e; simp [numF]; omega
    | succ f ih =>
      intro i v e
      unfold numF
      split
      · exact ih _ _ (by omega)
      · simp; omega
  exact H _ _ _ (by omega)

theorem inR_one {s : ByteArray} {i : Nat} {c : Nat} : inR s i c c = true ↔ i < s.size ∧ bt s i = c := by
  rw [inR_true]; omega
theorem inR_one_no {s : ByteArray} {i : Nat} {c : Nat} (h : ¬ (i < s.size ∧ bt s i = c)) : inR s i c c = false := by
  rw [inR_false]; omega

theorem ref_B (s : ByteArray) (w : World) (hs : s.size ≤ maxLen) (h0 : 0 < s.size) (hk : bt s 0 = 66) :
    Calls Tryd.prog 9 #[.string s] w fun e w' => RefParsed (fin s (lifeS s)) w e w' := by
  obtain ⟨K, hK⟩ : ∃ K, (ris s 1).2 = K := ⟨_, rfl⟩
  have hl : ∀ (c : K < s.size ∧ bt s K = 47), inR s K 47 47 = true := fun c => (inR_one (c := 47)).2 c
  have hn : ∀ (c : ¬ (K < s.size ∧ bt s K = 47)), inR s K 47 47 = false := fun c => inR_one_no (c := 47) c
  by_cases c : K < s.size ∧ bt s K = 47
  · have hA := hl c
    have hbad : inR s K 48 56 = false := by rw [inR_false]; omega
    by_cases d : K + 1 < s.size ∧ bt s (K + 1) = 83
    · have hB : inR s (K + 1) 83 83 = true := (inR_one (c := 83)).2 d
      obtain ⟨J, hJ⟩ : ∃ J, (ris s (K + 2)).2 = J := ⟨_, rfl⟩
      have hJs : J ≤ s.size := by rw [← hJ]; exact ris_le s (K + 2) (by omega)
      have hx : lifeS s = .inl (⟨1, (ris s 1).1, (ris s (K + 2)).1, 0, 0, [], ⟨#[]⟩⟩, J) := by
        unfold lifeS; simp [hK, hA, hB, hJ]
      rw [hx]
      by_cases q : J < s.size
      · rw [show fin s (.inl (⟨1, (ris s 1).1, (ris s (K + 2)).1, 0, 0, [], ⟨#[]⟩⟩, J)) = .inr J from if_neg (by omega)]
        cases hb2 : inR s J 48 56 with
        | true => exact ref_B6 s w hs h0 hk K hK hbad c.1 c.2 d.1 d.2 J hJ hb2
        | false => exact ref_B7 s w hs h0 hk K hK hbad c.1 c.2 d.1 d.2 J hJ hb2 q
      · rw [show fin s (.inl (⟨1, (ris s 1).1, (ris s (K + 2)).1, 0, 0, [], ⟨#[]⟩⟩, J)) = .inl ⟨1, (ris s 1).1, (ris s (K + 2)).1, 0, 0, [], ⟨#[]⟩⟩ from if_pos (by omega)]
        exact ref_B8 s w hs h0 hk K hK hbad c.1 c.2 d.1 d.2 J hJ (by rw [inR_false]; omega) q
    · have hB : inR s (K + 1) 83 83 = false := inR_one_no (c := 83) d
      rw [show lifeS s = .inr (K + 1) by unfold lifeS; simp [hK, hA, hB]]
      show Calls _ _ _ _ fun e w' => RefParsed (.inr (K + 1)) w e w'
      by_cases q : K + 1 < s.size
      · exact ref_B5 s w hs h0 hk K hK hbad c.1 c.2 q (by omega)
      · exact ref_B4 s w hs h0 hk K hK hbad c.1 c.2 q
  · have hA := hn c
    rw [show lifeS s = .inr K by unfold lifeS; simp [hK, hA]]
    show Calls _ _ _ _ fun e w' => RefParsed (.inr K) w e w'
    cases hbad : inR s K 48 56 with
    | true => exact ref_B1 s w hs h0 hk K hK hbad
    | false =>
      by_cases q : K < s.size
      · exact ref_B3 s w hs h0 hk K hK hbad q (by omega)
      · exact ref_B2 s w hs h0 hk K hK hbad q

theorem ref_W (s : ByteArray) (w : World) (hs : s.size ≤ maxLen) (h0 : 0 < s.size) (hk : bt s 0 = 87) :
    Calls Tryd.prog 9 #[.string s] w fun e w' => RefParsed (fin s (numberedS s)) w e w' := by
  cases hn : numOk s 1 0 255 with
  | false =>
    rw [show numberedS s = .inr 1 by unfold numberedS; simp [hn]]
    exact ref_W1 s w hs h0 hk hn
  | true =>
    have hx : numberedS s = .inl (⟨2, 0, 0, 2, 1, (List.range 8).map (bitOf (num s 1).1), ⟨#[]⟩⟩, (num s 1).2) := by unfold numberedS; simp [hn]
    rw [hx]
    have hz := num_size s 1 (by omega)
    by_cases q : (num s 1).2 < s.size
    · rw [show fin s (.inl (⟨2, 0, 0, 2, 1, (List.range 8).map (bitOf (num s 1).1), ⟨#[]⟩⟩, (num s 1).2)) = .inr (num s 1).2 from if_neg (by omega)]
      exact ref_W2 s w hs h0 hk hn q
    · rw [show fin s (.inl (⟨2, 0, 0, 2, 1, (List.range 8).map (bitOf (num s 1).1), ⟨#[]⟩⟩, (num s 1).2)) = .inl ⟨2, 0, 0, 2, 1, (List.range 8).map (bitOf (num s 1).1), ⟨#[]⟩⟩ from if_pos (by omega)]
      exact ref_W3 s w hs h0 hk hn q

theorem ref_L (s : ByteArray) (w : World) (hs : s.size ≤ maxLen) (h0 : 0 < s.size) (hk : bt s 0 = 76) :
    Calls Tryd.prog 9 #[.string s] w fun e w' => RefParsed (fin s (tabledS s)) w e w' := by
  rcases tabled_ways s with ⟨a, q⟩ | ⟨a, c, q⟩ | ⟨a, c, d, q⟩ | ⟨a, c, d, e, q⟩ | ⟨a, c, d, e, f, q⟩ | ⟨a, c, d, e, f, q⟩
  · rw [q]
    show Calls _ _ _ _ fun e w' => RefParsed (.inr 1) w e w'
    have := inR_false.1 a
    by_cases p : 1 < s.size
    · exact ref_L1b s w hs h0 hk p (by omega)
    · exact ref_L1a s w hs h0 hk p
  · rw [q]
    have a' := (inR_one (c := 32)).1 a
    exact ref_L2 s w hs h0 hk a'.1 a'.2 c
  · rw [q]
    have a' := (inR_one (c := 32)).1 a
    have := inR_false.1 d
    show Calls _ _ _ _ fun e w' => RefParsed (.inr (num s 2).2) w e w'
    by_cases p : (num s 2).2 < s.size
    · exact ref_L3b s w hs h0 hk a'.1 a'.2 _ rfl c p (by omega)
    · exact ref_L3a s w hs h0 hk a'.1 a'.2 _ rfl c p
  · rw [q]
    have a' := (inR_one (c := 32)).1 a
    have d' := (inR_one (c := 32)).1 d
    exact ref_L4 s w hs h0 hk a'.1 a'.2 _ rfl c d'.1 d'.2 e
  · rw [q]
    have a' := (inR_one (c := 32)).1 a
    have d' := (inR_one (c := 32)).1 d
    have := inR_false.1 f
    show Calls _ _ _ _ fun e w' => RefParsed (.inr (num s ((num s 2).2 + 1)).2) w e w'
    by_cases p : (num s ((num s 2).2 + 1)).2 < s.size
    · exact ref_L5b s w hs h0 hk a'.1 a'.2 _ rfl c d'.1 d'.2 _ rfl e p (by omega)
    · exact ref_L5a s w hs h0 hk a'.1 a'.2 _ rfl c d'.1 d'.2 _ rfl e p
  · rw [q]
    have a' := (inR_one (c := 32)).1 a
    have d' := (inR_one (c := 32)).1 d
    have f' := (inR_one (c := 32)).1 f
    exact ref_L6 s w hs h0 hk a'.1 a'.2 _ rfl c d'.1 d'.2 _ rfl e f'.1 f'.2

theorem ref_T (s : ByteArray) (w : World) (hs : s.size ≤ maxLen) (h0 : 0 < s.size) (hk : bt s 0 = 84) :
    Calls Tryd.prog 9 #[.string s] w fun e w' => RefParsed (fin s (antS s)) w e w' := by
  cases hA : inR s 1 32 32 with
  | true =>
    have a' := (inR_one (c := 32)).1 hA
    rw [show antS s = antEnd s by unfold antS antEnd; simp [hA]]
    exact ref_T2 s w hs h0 hk a'.1 a'.2
  | false =>
    rw [show antS s = .inr 1 by unfold antS; simp [hA]]
    show Calls _ _ _ _ fun e w' => RefParsed (.inr 1) w e w'
    have := inR_false.1 hA
    by_cases p : 1 < s.size
    · exact ref_T1b s w hs h0 hk p (by omega)
    · exact ref_T1a s w hs h0 hk p

theorem ref_any (s : ByteArray) (w : World) (hs : s.size ≤ maxLen) :
    Calls Tryd.prog 9 #[.string s] w fun e w' => RefParsed (parseS s) w e w' := by
  rw [parseS_fin]
  unfold kindS
  by_cases h0 : s.size = 0
  · rw [if_pos h0]; exact ref_empty s w h0
  rw [if_neg h0]
  by_cases h1 : bt s 0 = 66
  · rw [if_pos h1]; exact ref_B s w hs (by omega) h1
  rw [if_neg h1]
  by_cases h2 : bt s 0 = 87
  · rw [if_pos h2]; exact ref_W s w hs (by omega) h2
  rw [if_neg h2]
  by_cases h3 : bt s 0 = 76
  · rw [if_pos h3]; exact ref_L s w hs (by omega) h3
  rw [if_neg h3]
  by_cases h4 : bt s 0 = 84
  · rw [if_pos h4]; exact ref_T s w hs (by omega) h4
  rw [if_neg h4]
  exact ref_other s w hs (by omega) h1 h2 h3 h4
end Go.Proofs.YtpbcgojfpmpgpaaDoor
