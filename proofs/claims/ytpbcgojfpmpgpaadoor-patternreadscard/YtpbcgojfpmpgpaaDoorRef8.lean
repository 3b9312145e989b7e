/-
  The document's answer to any text of a rule (edenref1.Parse): T, other letters; all of it.
-/
import Derived.Test.YtpbcgojfpmpgpaaDoorRef7
namespace Go.Proofs.YtpbcgojfpmpgpaaDoor
open Go.RowKit
set_option linter.unusedVariables false

/-- What stands behind the blank of a T. -/
def antEnd (s : ByteArray) : (Out × Nat) ⊕ Nat := if turnF s 26 2 = 2 then .inr 2 else .inl (⟨3, 0, 0, 0, 0, [], s.extract 2 (turnF s 26 2)⟩, turnF s 26 2)

set_option maxRecDepth 100000 in
set_option maxHeartbeats 4000000 in
theorem ref_other (s : ByteArray) (w : World) (hs : s.size ≤ maxLen) (h0 : 0 < s.size) (n1 : ¬ bt s 0 = 66) (n2 : ¬ bt s 0 = 87) (n3 : ¬ bt s 0 = 76) (n4 : ¬ bt s 0 = 84) :
    Calls Tryd.prog 9 #[.string s] w fun e w' => RefParsed (.inr 0) w e w' := by
  have hne := not_empty h0
  have hs' := hs
  unfold maxLen at hs'
  have e0 := bt_lt s 0 h0
  have k0 : ((s[0].toNat : Int) == 66) = false := by simp; omega
  have k1 : ((s[0].toNat : Int) == 87) = false := by simp; omega
  have k2 : ((s[0].toNat : Int) == 76) = false := by simp; omega
  have k3 : ((s[0].toNat : Int) == 84) = false := by simp; omega
  clear e0
  go_enter Tryd.func9, Tryd.ntmps9
  go_wp2
  refine bodyPost_ret (v := .tuple #[.agg zeroCells, .int .i64 ((0 : Nat) : Int), .bool false]) (by simp [results, Tryd.results9, go_sem, zeroCells]) rfl ?_
  refine RefParsed.bad ?_
  repeat (first | refine Below.setCell ?_ (by simp <;> omega) _ | refine Below.alloc ?_ (by simp <;> omega) _ | exact Below.refl _ _)

set_option maxRecDepth 100000 in
set_option maxHeartbeats 4000000 in
theorem ref_T1a (s : ByteArray) (w : World) (hs : s.size ≤ maxLen) (h0 : 0 < s.size) (hk : bt s 0 = 84) (hge : ¬ 1 < s.size) :
    Calls Tryd.prog 9 #[.string s] w fun e w' => RefParsed (.inr 1) w e w' := by
  have hne := not_empty h0
  have hs' := hs
  unfold maxLen at hs'
  have e0 := bt_lt s 0 h0
  have k0 : ((s[0].toNat : Int) == 66) = false := by simp; omega
  have k1 : ((s[0].toNat : Int) == 87) = false := by simp; omega
  have k2 : ((s[0].toNat : Int) == 76) = false := by simp; omega
  have k3 : ((s[0].toNat : Int) == 84) = true := by simp; omega
  clear e0
  have a1 : (s.size : Int) ≤ 1 := by omega
  go_enter Tryd.func9, Tryd.ntmps9
  go_wp2
  refine bodyPost_ret (v := .tuple #[.agg zeroCells, .int .i64 ((1 : Nat) : Int), .bool false]) (by simp [results, Tryd.results9, go_sem, zeroCells]) rfl ?_
  refine RefParsed.bad ?_
  repeat (first | refine Below.setCell ?_ (by simp <;> omega) _ | refine Below.alloc ?_ (by simp <;> omega) _ | exact Below.refl _ _)

set_option maxRecDepth 100000 in
set_option maxHeartbeats 4000000 in
theorem ref_T1b (s : ByteArray) (w : World) (hs : s.size ≤ maxLen) (h0 : 0 < s.size) (hk : bt s 0 = 84) (hlt1 : 1 < s.size) (hc1 : ¬ bt s 1 = 32) :
    Calls Tryd.prog 9 #[.string s] w fun e w' => RefParsed (.inr 1) w e w' := by
  have hne := not_empty h0
  have hs' := hs
  unfold maxLen at hs'
  have e0 := bt_lt s 0 h0
  have k0 : ((s[0].toNat : Int) == 66) = false := by simp; omega
  have k1 : ((s[0].toNat : Int) == 87) = false := by simp; omega
  have k2 : ((s[0].toNat : Int) == 76) = false := by simp; omega
  have k3 : ((s[0].toNat : Int) == 84) = true := by simp; omega
  clear e0
  have a1 : ¬ (s.size : Int) ≤ 1 := by omega
  have e1 := bt_lt s 1 hlt1
  have a2 : ((s[1].toNat : Int) != 32) = true := by rw [bne_iff_ne]; omega
  clear e1
  go_enter Tryd.func9, Tryd.ntmps9
  go_wp2
  refine bodyPost_ret (v := .tuple #[.agg zeroCells, .int .i64 ((1 : Nat) : Int), .bool false]) (by simp [results, Tryd.results9, go_sem, zeroCells]) rfl ?_
  refine RefParsed.bad ?_
  repeat (first | refine Below.setCell ?_ (by simp <;> omega) _ | refine Below.alloc ?_ (by simp <;> omega) _ | exact Below.refl _ _)

set_option maxRecDepth 100000 in
set_option maxHeartbeats 4000000 in
theorem ref_T2 (s : ByteArray) (w : World) (hs : s.size ≤ maxLen) (h0 : 0 < s.size) (hk : bt s 0 = 84) (hlt1 : 1 < s.size) (hc1 : bt s 1 = 32) :
    Calls Tryd.prog 9 #[.string s] w fun e w' => RefParsed (fin s (antEnd s)) w e w' := by
  have hne := not_empty h0
  have hs' := hs
  unfold maxLen at hs'
  have e0 := bt_lt s 0 h0
  have k0 : ((s[0].toNat : Int) == 66) = false := by simp; omega
  have k1 : ((s[0].toNat : Int) == 87) = false := by simp; omega
  have k2 : ((s[0].toNat : Int) == 76) = false := by simp; omega
  have k3 : ((s[0].toNat : Int) == 84) = true := by simp; omega
  clear e0
  have a1 : ¬ (s.size : Int) ≤ 1 := by omega
  have e1 := bt_lt s 1 hlt1
  have a2 : ((s[1].toNat : Int) != 32) = false := by rw [bne_eq_false_iff_eq]; omega
  clear e1
  obtain ⟨J, hJ⟩ : ∃ J, J = turnF s 26 2 := ⟨_, rfl⟩
  have HJ := hide' hJ
  clear hJ
  go_enter Tryd.func9, Tryd.ntmps9
  go_wp2
  go_loop [7] (fun iv => ∃ i : Nat, iv = .int .i64 (i : Int) ∧ 2 ≤ i ∧ i ≤ 28 ∧ i ≤ s.size ∧ turnF s (28 - i) i = J) (fun iv => s.size - (intOf iv).toNat)
  case atStart => exact ⟨2, rfl, by omega, by omega, by omega, HJ.out.symm⟩
  case round =>
    obtain ⟨i, rfl, hi2, hi28, his, jk⟩ := hrel
    have JK := hide' jk
    clear jk
    by_cases hc : i < 28 ∧ i < s.size ∧ (bt s i = 76 ∨ bt s i = 82)
    · obtain ⟨c1, c2, c3⟩ := hc
      have e2 := bt_lt s i c2
      have b1 : (i : Int) < (s.size : Int) := by omega
      have b2 : (i : Int) - 2 < 26 := by omega
      have X := hide' (turnF_step c1 c2 c3)
      by_cases d : bt s i = 76
      · have b3 : ((s[i].toNat : Int) == 76) = true := by simp; omega
        clear c3 e2 d
        go_wp2
        exact ⟨⟨i + 1, by go_num, by omega, by omega, by omega, X.out.symm.trans JK.out⟩, by simp [intOf]; omega⟩
      · have b3 : ((s[i].toNat : Int) == 76) = false := by simp; omega
        have b4 : ((s[i].toNat : Int) == 82) = true := by simp; omega
        clear c3 e2 d
        go_wp2
        exact ⟨⟨i + 1, by go_num, by omega, by omega, by omega, X.out.symm.trans JK.out⟩, by simp [intOf]; omega⟩
    · have x1 := JK.out
      rw [turnF_stop hc] at x1
      have x2 := x1.trans HJ.out
      clear x1
      by_cases c2 : i < s.size
      · have b1 : (i : Int) < (s.size : Int) := by omega
        by_cases c1 : i < 28
        · have b2 : (i : Int) - 2 < 26 := by omega
          have e2 := bt_lt s i c2
          have b3 : ((s[i].toNat : Int) == 76) = false := by simp; omega
          have b4 : ((s[i].toNat : Int) == 82) = false := by simp; omega
          clear e2 hc
          by_cases hz : i = 2
          · have n1 : ((i : Int) == 2) = true := by simp; omega
            have X := hide' (show fin s (antEnd s) = .inr 2 by unfold antEnd; rw [if_pos (by omega)]; rfl)
            have Z := hide' hz
            clear hz x2
            go_wp2
            refine bodyPost_ret (v := .tuple #[.agg zeroCells, .int .i64 (i : Int), .bool false]) (by simp [results, Tryd.results9, go_sem, zeroCells]) rfl ?_
            rw [X.out, Z.out]
            refine RefParsed.bad ?_
            repeat (first | refine Below.setCell ?_ (by simp <;> omega) _ | refine Below.alloc ?_ (by simp <;> omega) _ | exact Below.refl _ _)
          · have n1 : ((i : Int) == 2) = false := by simp; omega
            have X := hide' (show fin s (antEnd s) = (if i = s.size then .inl ⟨3, 0, 0, 0, 0, [], s.extract 2 i⟩ else .inr i) by unfold antEnd; rw [if_neg (by omega), ← x2]; rfl)
            clear x2
            have q : i < s.size := c2
            go_wp2
            refine bodyPost_ret (v := .tuple #[.agg zeroCells, .int .i64 (i : Int), .bool false]) (by simp [results, Tryd.results9, go_sem, zeroCells]) rfl ?_
            rw [X.out, if_neg (by omega)]
            refine RefParsed.bad ?_
            repeat (first | refine Below.setCell ?_ (by simp <;> omega) _ | refine Below.alloc ?_ (by simp <;> omega) _ | exact Below.refl _ _)
        · have b2 : ¬ (i : Int) - 2 < 26 := by omega
          clear hc
          by_cases hz : i = 2
          · have n1 : ((i : Int) == 2) = true := by simp; omega
            have X := hide' (show fin s (antEnd s) = .inr 2 by unfold antEnd; rw [if_pos (by omega)]; rfl)
            have Z := hide' hz
            clear hz x2
            go_wp2
            refine bodyPost_ret (v := .tuple #[.agg zeroCells, .int .i64 (i : Int), .bool false]) (by simp [results, Tryd.results9, go_sem, zeroCells]) rfl ?_
            rw [X.out, Z.out]
            refine RefParsed.bad ?_
            repeat (first | refine Below.setCell ?_ (by simp <;> omega) _ | refine Below.alloc ?_ (by simp <;> omega) _ | exact Below.refl _ _)
          · have n1 : ((i : Int) == 2) = false := by simp; omega
            have X := hide' (show fin s (antEnd s) = (if i = s.size then .inl ⟨3, 0, 0, 0, 0, [], s.extract 2 i⟩ else .inr i) by unfold antEnd; rw [if_neg (by omega), ← x2]; rfl)
            clear x2
            have q : i < s.size := c2
            go_wp2
            refine bodyPost_ret (v := .tuple #[.agg zeroCells, .int .i64 (i : Int), .bool false]) (by simp [results, Tryd.results9, go_sem, zeroCells]) rfl ?_
            rw [X.out, if_neg (by omega)]
            refine RefParsed.bad ?_
            repeat (first | refine Below.setCell ?_ (by simp <;> omega) _ | refine Below.alloc ?_ (by simp <;> omega) _ | exact Below.refl _ _)
      · have b1 : ¬ (i : Int) < (s.size : Int) := by omega
        clear hc
        by_cases hz : i = 2
        · have n1 : ((i : Int) == 2) = true := by simp; omega
          have X := hide' (show fin s (antEnd s) = .inr 2 by unfold antEnd; rw [if_pos (by omega)]; rfl)
          have Z := hide' hz
          clear hz x2
          go_wp2
          refine bodyPost_ret (v := .tuple #[.agg zeroCells, .int .i64 (i : Int), .bool false]) (by simp [results, Tryd.results9, go_sem, zeroCells]) rfl ?_
          rw [X.out, Z.out]
          refine RefParsed.bad ?_
          repeat (first | refine Below.setCell ?_ (by simp <;> omega) _ | refine Below.alloc ?_ (by simp <;> omega) _ | exact Below.refl _ _)
        · have n1 : ((i : Int) == 2) = false := by simp; omega
          have X := hide' (show fin s (antEnd s) = (if i = s.size then .inl ⟨3, 0, 0, 0, 0, [], s.extract 2 i⟩ else .inr i) by unfold antEnd; rw [if_neg (by omega), ← x2]; rfl)
          clear x2
          have q : ¬ i < s.size := c2
          go_wp2
          refine bodyPost_ret (v := .tuple #[Out.val ⟨3, 0, 0, 0, 0, [], s.extract 2 i⟩ (.slice none 0 0), .int .i64 0, .bool true]) (by simp [results, Tryd.results9, go_sem, Out.val]) rfl ?_
          rw [X.out, if_pos (by omega)]
          refine ⟨_, rfl, Or.inl ⟨rfl, rfl⟩, ?_⟩
          repeat (first | refine Below.setCell ?_ (by simp <;> omega) _ | refine Below.alloc ?_ (by simp <;> omega) _ | exact Below.refl _ _)
end Go.Proofs.YtpbcgojfpmpgpaaDoor
