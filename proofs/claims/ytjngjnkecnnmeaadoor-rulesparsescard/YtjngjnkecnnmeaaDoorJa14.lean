/-
  What the last text of this claim leans on, part 14: Ref8, Ref9.
-/
import Derived.Test.YtjngjnkecnnmeaaDoorJa13
import Derived.Test.YtjngjnkecnnmeaaDoorJa4
namespace Go.Proofs.YtjngjnkecnnmeaaDoor
open Go.RowKit
set_option linter.unusedVariables false

/-- What stands behind the blank of a T. -/
def antEnd (s : ByteArray) : (Out × Nat) ⊕ Nat := if turnF s 26 2 = 2 then .inr 2 else .inl (⟨3, 0, 0, 0, 0, [], s.extract 2 (turnF s 26 2)⟩, turnF s 26 2)

set_option maxRecDepth 100000 in
set_option maxHeartbeats 4000000 in
theorem ref_other (s : ByteArray) (w : World) (hs : s.size ≤ maxLen) (h0 : 0 < s.size) (n1 : ¬ bt s 0 = 66) (n2 : ¬ bt s 0 = 87) (n3 : ¬ bt s 0 = 76) (n4 : ¬ bt s 0 = 84) :
    Calls Tryd.prog 13 #[.string s] w fun e w' => RefParsed (.inr 0) w e w' := by
  have hne := not_empty h0
  have hs' := hs
  unfold maxLen at hs'
  have e0 := bt_lt s 0 h0
  have k0 : ((s[0].toNat : Int) == 66) = false := by simp; omega
  have k1 : ((s[0].toNat : Int) == 87) = false := by simp; omega
  have k2 : ((s[0].toNat : Int) == 76) = false := by simp; omega
  have k3 : ((s[0].toNat : Int) == 84) = false := by simp; omega
  clear e0
  go_enter Tryd.func13, Tryd.ntmps13
  go_wp2
  refine bodyPost_ret (v := .tuple #[.agg zeroCells, .int .i64 ((0 : Nat) : Int), .bool false]) (by simp [results, Tryd.results13, go_sem, zeroCells]) rfl ?_
  refine RefParsed.bad ?_
  repeat (first | refine Below.setCell ?_ (by simp <;> omega) _ | refine Below.alloc ?_ (by simp <;> omega) _ | exact Below.refl _ _)

set_option maxRecDepth 100000 in
set_option maxHeartbeats 4000000 in
theorem ref_T1a (s : ByteArray) (w : World) (hs : s.size ≤ maxLen) (h0 : 0 < s.size) (hk : bt s 0 = 84) (hge : ¬ 1 < s.size) :
    Calls Tryd.prog 13 #[.string s] w fun e w' => RefParsed (.inr 1) w e w' := by
  have hne := not_empty h0
  have hs' := hs
  unfold maxLen at hs'
  have e0 := bt_lt s 0 h0
  have k0 : ((s[0].toNat : Int) == 66) = false := by simp; omega
  have k1 : ((s[0].toNat : Int) == 87) = false := by simp; omega
  have k2 : ((s[0].toNat : Int) == 76) = false := by simp; omega
  have k3 : ((s[0].toNat : Int) == 84) = true := by simp; omega
  clear e0
  have a1 : (s.size : Int) ≤ 1 := by omega
  go_enter Tryd.func13, Tryd.ntmps13
  go_wp2
  refine bodyPost_ret (v := .tuple #[.agg zeroCells, .int .i64 ((1 : Nat) : Int), .bool false]) (by simp [results, Tryd.results13, go_sem, zeroCells]) rfl ?_
  refine RefParsed.bad ?_
  repeat (first | refine Below.setCell ?_ (by simp <;> omega) _ | refine Below.alloc ?_ (by simp <;> omega) _ | exact Below.refl _ _)

set_option maxRecDepth 100000 in
set_option maxHeartbeats 4000000 in
theorem ref_T1b (s : ByteArray) (w : World) (hs : s.size ≤ maxLen) (h0 : 0 < s.size) (hk : bt s 0 = 84) (hlt1 : 1 < s.size) (hc1 : ¬ bt s 1 = 32) :
    Calls Tryd.prog 13 #[.string s] w fun e w' => RefParsed (.inr 1) w e w' := by
  have hne := not_empty h0
  have hs' := hs
  unfold maxLen at hs'
  have e0 := bt_lt s 0 h0
  have k0 : ((s[0].toNat : Int) == 66) = false := by simp; omega
  have k1 : ((s[0].toNat : Int) == 87) = false := by simp; omega
  have k2 : ((s[0].toNat : Int) == 76) = false := by simp; omega
  have k3 : ((s[0].toNat : Int) == 84) = true := by simp; omega
  clear e0
  have a1 : ¬ (s.size : Int) ≤ 1 := by omega
  have e1 := bt_lt s 1 hlt1
  have a2 : ((s[1].toNat : Int) != 32) = true := by rw [bne_iff_ne]; omega
  clear e1
  go_enter Tryd.func13, Tryd.ntmps13
  go_wp2
  refine bodyPost_ret (v := .tuple #[.agg zeroCells, .int .i64 ((1 : Nat) : Int), .bool false]) (by simp [results, Tryd.results13, go_sem, zeroCells]) rfl ?_
  refine RefParsed.bad ?_
  repeat (first | refine Below.setCell ?_ (by simp <;> omega) _ | refine Below.alloc ?_ (by simp <;> omega) _ | exact Below.refl _ _)

set_option maxRecDepth 100000 in
set_option maxHeartbeats 4000000 in
theorem ref_T2 (s : ByteArray) (w : World) (hs : s.size ≤ maxLen) (h0 : 0 < s.size) (hk : bt s 0 = 84) (hlt1 : 1 < s.size) (hc1 : bt s 1 = 32) :
    Calls Tryd.prog 13 #[.string s] w fun e w' => RefParsed (fin s (antEnd s)) w e w' := by
  have hne := not_empty h0
  have hs' := hs
  unfold maxLen at hs'
  have e0 := bt_lt s 0 h0
  have k0 : ((s[0].toNat : Int) == 66) = false := by simp; omega
  have k1 : ((s[0].toNat : Int) == 87) = false := by simp; omega
  have k2 : ((s[0].toNat : Int) == 76) = false := by simp; omega
  have k3 : ((s[0].toNat : Int) == 84) = true := by simp; omega
  clear e0
  have a1 : ¬ (s.size : Int) ≤ 1 := by omega
  have e1 := bt_lt s 1 hlt1
  have a2 : ((s[1].toNat : Int) != 32) = false := by rw [bne_eq_false_iff_eq]; omega
  clear e1
  obtain ⟨J, hJ⟩ : ∃ J, J = turnF s 26 2 := ⟨_, rfl⟩
  have HJ := hide' hJ
  clear hJ
  go_enter Tryd.func13, Tryd.ntmps13
  go_wp2
  go_loop [7] (fun iv => ∃ i : Nat, iv = .int .i64 (i : Int) ∧ 2 ≤ i ∧ i ≤ 28 ∧ i ≤ s.size ∧ turnF s (28 - i) i = J) (fun iv => s.size - (intOf iv).toNat)
  case atStart => exact ⟨2, rfl, by omega, by omega, by omega, HJ.out.symm⟩
  case round =>
    obtain ⟨i, rfl, hi2, hi28, his, jk⟩ := hrel
    have JK := hide' jk
    clear jk
    by_cases hc : i < 28 ∧ i < s.size ∧ (bt s i = 76 ∨ bt s i = 82)
    · obtain ⟨c1, c2, c3⟩ := hc
      have e2 := bt_lt s i c2
      have b1 : (i : Int) < (s.size : Int) := by omega
      have b2 : (i : Int) - 2 < 26 := by omega
      have X := hide' (turnF_step c1 c2 c3)
      by_cases d : bt s i = 76
      · have b3 : ((s[i].toNat : Int) == 76) = true := by simp; omega
        clear c3 e2 d
        go_wp2
        exact ⟨⟨i + 1, by go_num, by omega, by omega, by omega, X.out.symm.trans JK.out⟩, by simp [intOf]; omega⟩
      · have b3 : ((s[i].toNat : Int) == 76) = false := by simp; omega
        have b4 : ((s[i].toNat : Int) == 82) = true := by simp; omega
        clear c3 e2 d
        go_wp2
        exact ⟨⟨i + 1, by go_num, by omega, by omega, by omega, X.out.symm.trans JK.out⟩, by simp [intOf]; omega⟩
    · have x1 := JK.out
      rw [turnF_stop hc] at x1
      have x2 := x1.trans HJ.out
      clear x1
      by_cases c2 : i < s.size
      · have b1 : (i : Int) < (s.size : Int) := by omega
        by_cases c1 : i < 28
        · have b2 : (i : Int) - 2 < 26 := by omega
          have e2 := bt_lt s i c2
          have b3 : ((s[i].toNat : Int) == 76) = false := by simp; omega
          have b4 : ((s[i].toNat : Int) == 82) = false := by simp; omega
          clear e2 hc
          by_cases hz : i = 2
          · have n1 : ((i : Int) == 2) = true := by simp; omega
            have X := hide' (show fin s (antEnd s) = .inr 2 by unfold antEnd; rw [if_pos (by omega)]; rfl)
            have Z := hide' hz
            clear hz x2
            go_wp2
            refine bodyPost_ret (v := .tuple #[.agg zeroCells, .int .i64 (i : Int), .bool false]) (by simp [results, Tryd.results13, go_sem, zeroCells]) rfl ?_
            rw [X.out, Z.out]
            refine RefParsed.bad ?_
            repeat (first | refine Below.setCell ?_ (by simp <;> omega) _ | refine Below.alloc ?_ (by simp <;> omega) _ | exact Below.refl _ _)
          · have n1 : ((i : Int) == 2) = false := by simp; omega
            have X := hide' (show fin s (antEnd s) = (if i = s.size then .inl ⟨3, 0, 0, 0, 0, [], s.extract 2 i⟩ else .inr i) by unfold antEnd; rw [if_neg (by omega), ← x2]; rfl)
            clear x2
            have q : i < s.size := c2
            go_wp2
            refine bodyPost_ret (v := .tuple #[.agg zeroCells, .int .i64 (i : Int), .bool false]) (by simp [results, Tryd.results13, go_sem, zeroCells]) rfl ?_
            rw [X.out, if_neg (by omega)]
            refine RefParsed.bad ?_
            repeat (first | refine Below.setCell ?_ (by simp <;> omega) _ | refine Below.alloc ?_ (by simp <;> omega) _ | exact Below.refl _ _)
        · have b2 : ¬ (i : Int) - 2 < 26 := by omega
          clear hc
          by_cases hz : i = 2
          · have n1 : ((i : Int) == 2) = true := by simp; omega
            have X := hide' (show fin s (antEnd s) = .inr 2 by unfold antEnd; rw [if_pos (by omega)]; rfl)
            have Z := hide' hz
            clear hz x2
            go_wp2
            refine bodyPost_ret (v := .tuple #[.agg zeroCells, .int .i64 (i : Int), .bool false]) (by simp [results, Tryd.results13, go_sem, zeroCells]) rfl ?_
            rw [X.out, Z.out]
            refine RefParsed.bad ?_
            repeat (first | refine Below.setCell ?_ (by simp <;> omega) _ | refine Below.alloc ?_ (by simp <;> omega) _ | exact Below.refl _ _)
          · have n1 : ((i : Int) == 2) = false := by simp; omega
            have X := hide' (show fin s (antEnd s) = (if i = s.size then .inl ⟨3, 0, 0, 0, 0, [], s.extract 2 i⟩ else .inr i) by unfold antEnd; rw [if_neg (by omega), ← x2]; rfl)
            clear x2
            have q : i < s.size := c2
            go_wp2
            refine bodyPost_ret (v := .tuple #[.agg zeroCells, .int .i64 (i : Int), .bool false]) (by simp [results, Tryd.results13, go_sem, zeroCells]) rfl ?_
            rw [X.out, if_neg (by omega)]
            refine RefParsed.bad ?_
            repeat (first | refine Below.setCell ?_ (by simp <;> omega) _ | refine Below.alloc ?_ (by simp <;> omega) _ | exact Below.refl _ _)
      · have b1 : ¬ (i : Int) < (s.size : Int) := by omega
        clear hc
        by_cases hz : i = 2
        · have n1 : ((i : Int) == 2) = true := by simp; omega
          have X := hide' (show fin s (antEnd s) = .inr 2 by unfold antEnd; rw [if_pos (by omega)]; rfl)
          have Z := hide' hz
          clear hz x2
          go_wp2
          refine bodyPost_ret (v := .tuple #[.agg zeroCells, .int .i64 (i : Int), .bool false]) (by simp [results, Tryd.results13, go_sem, zeroCells]) rfl ?_
          rw [X.out, Z.out]
          refine RefParsed.bad ?_
          repeat (first | refine Below.setCell ?_ (by simp <;> omega) _ | refine Below.alloc ?_ (by simp <;> omega) _ | exact Below.refl _ _)
        · have n1 : ((i : Int) == 2) = false := by simp; omega
          have X := hide' (show fin s (antEnd s) = (if i = s.size then .inl ⟨3, 0, 0, 0, 0, [], s.extract 2 i⟩ else .inr i) by unfold antEnd; rw [if_neg (by omega), ← x2]; rfl)
          clear x2
          have q : ¬ i < s.size := c2
          go_wp2
          refine bodyPost_ret (v := .tuple #[Out.val ⟨3, 0, 0, 0, 0, [], s.extract 2 i⟩ (.slice none 0 0), .int .i64 0, .bool true]) (by simp [results, Tryd.results13, go_sem, Out.val]) rfl ?_
          rw [X.out, if_pos (by omega)]
          refine ⟨_, rfl, Or.inl ⟨rfl, rfl⟩, ?_⟩
          repeat (first | refine Below.setCell ?_ (by simp <;> omega) _ | refine Below.alloc ?_ (by simp <;> omega) _ | exact Below.refl _ _)
end Go.Proofs.YtjngjnkecnnmeaaDoor

namespace Go.Proofs.YtjngjnkecnnmeaaDoor
open Go.RowKit
set_option linter.unusedVariables false

theorem inR_one {s : ByteArray} {i : Nat} {c : Nat} : inR s i c c = true ↔ i < s.size ∧ bt s i = c := by
  rw [inR_true]; omega
theorem inR_one_no {s : ByteArray} {i : Nat} {c : Nat} (h : ¬ (i < s.size ∧ bt s i = c)) : inR s i c c = false := by
  rw [inR_false]; omega

theorem ref_B (s : ByteArray) (w : World) (hs : s.size ≤ maxLen) (h0 : 0 < s.size) (hk : bt s 0 = 66) :
    Calls Tryd.prog 13 #[.string s] w fun e w' => RefParsed (fin s (lifeS s)) w e w' := by
  obtain ⟨K, hK⟩ : ∃ K, (ris s 1).2 = K := ⟨_, rfl⟩
  have hl : ∀ (c : K < s.size ∧ bt s K = 47), inR s K 47 47 = true := fun c => (inR_one (c := 47)).2 c
  have hn : ∀ (c : ¬ (K < s.size ∧ bt s K = 47)), inR s K 47 47 = false := fun c => inR_one_no (c := 47) c
  by_cases c : K < s.size ∧ bt s K = 47
  · have hA := hl c
    have hbad : inR s K 48 56 = false := by rw [inR_false]; omega
    by_cases d : K + 1 < s.size ∧ bt s (K + 1) = 83
    · have hB : inR s (K + 1) 83 83 = true := (inR_one (c := 83)).2 d
      obtain ⟨J, hJ⟩ : ∃ J, (ris s (K + 2)).2 = J := ⟨_, rfl⟩
      have hJs : J ≤ s.size := by rw [← hJ]; exact ris_le s (K + 2) (by omega)
      have hx : lifeS s = .inl (⟨1, (ris s 1).1, (ris s (K + 2)).1, 0, 0, [], ⟨#[]⟩⟩, J) := by
        unfold lifeS; simp [hK, hA, hB, hJ]
      rw [hx]
      by_cases q : J < s.size
      · rw [show fin s (.inl (⟨1, (ris s 1).1, (ris s (K + 2)).1, 0, 0, [], ⟨#[]⟩⟩, J)) = .inr J from if_neg (by omega)]
        cases hb2 : inR s J 48 56 with
        | true => exact ref_B6 s w hs h0 hk K hK hbad c.1 c.2 d.1 d.2 J hJ hb2
        | false => exact ref_B7 s w hs h0 hk K hK hbad c.1 c.2 d.1 d.2 J hJ hb2 q
      · rw [show fin s (.inl (⟨1, (ris s 1).1, (ris s (K + 2)).1, 0, 0, [], ⟨#[]⟩⟩, J)) = .inl ⟨1, (ris s 1).1, (ris s (K + 2)).1, 0, 0, [], ⟨#[]⟩⟩ from if_pos (by omega)]
        exact ref_B8 s w hs h0 hk K hK hbad c.1 c.2 d.1 d.2 J hJ (by rw [inR_false]; omega) q
    · have hB : inR s (K + 1) 83 83 = false := inR_one_no (c := 83) d
      rw [show lifeS s = .inr (K + 1) by unfold lifeS; simp [hK, hA, hB]]
      show Calls _ _ _ _ fun e w' => RefParsed (.inr (K + 1)) w e w'
      by_cases q : K + 1 < s.size
      · exact ref_B5 s w hs h0 hk K hK hbad c.1 c.2 q (by omega)
      · exact ref_B4 s w hs h0 hk K hK hbad c.1 c.2 q
  · have hA := hn c
    rw [show lifeS s = .inr K by unfold lifeS; simp [hK, hA]]
    show Calls _ _ _ _ fun e w' => RefParsed (.inr K) w e w'
    cases hbad : inR s K 48 56 with
    | true => exact ref_B1 s w hs h0 hk K hK hbad
    | false =>
      by_cases q : K < s.size
      · exact ref_B3 s w hs h0 hk K hK hbad q (by omega)
      · exact ref_B2 s w hs h0 hk K hK hbad q

theorem ref_W (s : ByteArray) (w : World) (hs : s.size ≤ maxLen) (h0 : 0 < s.size) (hk : bt s 0 = 87) :
    Calls Tryd.prog 13 #[.string s] w fun e w' => RefParsed (fin s (numberedS s)) w e w' := by
  cases hn : numOk s 1 0 255 with
  | false =>
    rw [show numberedS s = .inr 1 by unfold numberedS; simp [hn]]
    exact ref_W1 s w hs h0 hk hn
  | true =>
    have hx : numberedS s = .inl (⟨2, 0, 0, 2, 1, (List.range 8).map (bitOf (num s 1).1), ⟨#[]⟩⟩, (num s 1).2) := by unfold numberedS; simp [hn]
    rw [hx]
    have hz := num_size s 1 (by omega)
    by_cases q : (num s 1).2 < s.size
    · rw [show fin s (.inl (⟨2, 0, 0, 2, 1, (List.range 8).map (bitOf (num s 1).1), ⟨#[]⟩⟩, (num s 1).2)) = .inr (num s 1).2 from if_neg (by omega)]
      exact ref_W2 s w hs h0 hk hn q
    · rw [show fin s (.inl (⟨2, 0, 0, 2, 1, (List.range 8).map (bitOf (num s 1).1), ⟨#[]⟩⟩, (num s 1).2)) = .inl ⟨2, 0, 0, 2, 1, (List.range 8).map (bitOf (num s 1).1), ⟨#[]⟩⟩ from if_pos (by omega)]
      exact ref_W3 s w hs h0 hk hn q

theorem ref_L (s : ByteArray) (w : World) (hs : s.size ≤ maxLen) (h0 : 0 < s.size) (hk : bt s 0 = 76) :
    Calls Tryd.prog 13 #[.string s] w fun e w' => RefParsed (fin s (tabledS s)) w e w' := by
  rcases tabled_ways s with ⟨a, q⟩ | ⟨a, c, q⟩ | ⟨a, c, d, q⟩ | ⟨a, c, d, e, q⟩ | ⟨a, c, d, e, f, q⟩ | ⟨a, c, d, e, f, q⟩
  · rw [q]
    show Calls _ _ _ _ fun e w' => RefParsed (.inr 1) w e w'
    have := inR_false.1 a
    by_cases p : 1 < s.size
    · exact ref_L1b s w hs h0 hk p (by omega)
    · exact ref_L1a s w hs h0 hk p
  · rw [q]
    have a' := (inR_one (c := 32)).1 a
    exact ref_L2 s w hs h0 hk a'.1 a'.2 c
  · rw [q]
    have a' := (inR_one (c := 32)).1 a
    have := inR_false.1 d
    show Calls _ _ _ _ fun e w' => RefParsed (.inr (num s 2).2) w e w'
    by_cases p : (num s 2).2 < s.size
    · exact ref_L3b s w hs h0 hk a'.1 a'.2 _ rfl c p (by omega)
    · exact ref_L3a s w hs h0 hk a'.1 a'.2 _ rfl c p
  · rw [q]
    have a' := (inR_one (c := 32)).1 a
    have d' := (inR_one (c := 32)).1 d
    exact ref_L4 s w hs h0 hk a'.1 a'.2 _ rfl c d'.1 d'.2 e
  · rw [q]
    have a' := (inR_one (c := 32)).1 a
    have d' := (inR_one (c := 32)).1 d
    have := inR_false.1 f
    show Calls _ _ _ _ fun e w' => RefParsed (.inr (num s ((num s 2).2 + 1)).2) w e w'
    by_cases p : (num s ((num s 2).2 + 1)).2 < s.size
    · exact ref_L5b s w hs h0 hk a'.1 a'.2 _ rfl c d'.1 d'.2 _ rfl e p (by omega)
    · exact ref_L5a s w hs h0 hk a'.1 a'.2 _ rfl c d'.1 d'.2 _ rfl e p
  · rw [q]
    have a' := (inR_one (c := 32)).1 a
    have d' := (inR_one (c := 32)).1 d
    have f' := (inR_one (c := 32)).1 f
    exact ref_L6 s w hs h0 hk a'.1 a'.2 _ rfl c d'.1 d'.2 _ rfl e f'.1 f'.2

theorem ref_T (s : ByteArray) (w : World) (hs : s.size ≤ maxLen) (h0 : 0 < s.size) (hk : bt s 0 = 84) :
    Calls Tryd.prog 13 #[.string s] w fun e w' => RefParsed (fin s (antS s)) w e w' := by
  cases hA : inR s 1 32 32 with
  | true =>
    have a' := (inR_one (c := 32)).1 hA
    rw [show antS s = antEnd s by unfold antS antEnd; simp [hA]]
    exact ref_T2 s w hs h0 hk a'.1 a'.2
  | false =>
    rw [show antS s = .inr 1 by unfold antS; simp [hA]]
    show Calls _ _ _ _ fun e w' => RefParsed (.inr 1) w e w'
    have := inR_false.1 hA
    by_cases p : 1 < s.size
    · exact ref_T1b s w hs h0 hk p (by omega)
    · exact ref_T1a s w hs h0 hk p

theorem ref_any (s : ByteArray) (w : World) (hs : s.size ≤ maxLen) :
    Calls Tryd.prog 13 #[.string s] w fun e w' => RefParsed (parseS s) w e w' := by
  rw [parseS_fin]
  unfold kindS
  by_cases h0 : s.size = 0
  · rw [if_pos h0]; exact ref_empty s w h0
  rw [if_neg h0]
  by_cases h1 : bt s 0 = 66
  · rw [if_pos h1]; exact ref_B s w hs (by omega) h1
  rw [if_neg h1]
  by_cases h2 : bt s 0 = 87
  · rw [if_pos h2]; exact ref_W s w hs (by omega) h2
  rw [if_neg h2]
  by_cases h3 : bt s 0 = 76
  · rw [if_pos h3]; exact ref_L s w hs (by omega) h3
  rw [if_neg h3]
  by_cases h4 : bt s 0 = 84
  · rw [if_pos h4]; exact ref_T s w hs (by omega) h4
  rw [if_neg h4]
  exact ref_other s w hs (by omega) h1 h2 h3 h4
end Go.Proofs.YtjngjnkecnnmeaaDoor

