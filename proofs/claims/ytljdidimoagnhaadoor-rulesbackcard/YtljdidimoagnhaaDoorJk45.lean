/-
  What the last text of this claim leans on, part 45: Ref8, Ref9, LawA.
-/
import Derived.Test.YtljdidimoagnhaaDoorJk44
import Derived.Test.YtljdidimoagnhaaDoorJk4
import Derived.Test.YtljdidimoagnhaaDoorJk36
namespace Go.Proofs.YtljdidimoagnhaaDoor
open Go.RowKit
set_option linter.unusedVariables false

/-- What stands behind the blank of a T. -/
def antEnd (s : ByteArray) : (Out × Nat) ⊕ Nat := if turnF s 26 2 = 2 then .inr 2 else .inl (⟨3, 0, 0, 0, 0, [], s.extract 2 (turnF s 26 2)⟩, turnF s 26 2)

set_option maxRecDepth 100000 in
set_option maxHeartbeats 4000000 in
theorem ref_other (s : ByteArray) (w : World) (hs : s.size ≤ maxLen) (h0 : 0 < s.size) (n1 : ¬ bt s 0 = 66) (n2 : ¬ bt s 0 = 87) (n3 : ¬ bt s 0 = 76) (n4 : ¬ bt s 0 = 84) :
    Calls Tryd.prog 17 #[.string s] w fun e w' => RefParsed (.inr 0) w e w' := by
  have hne := not_empty h0
  have hs' := hs
  unfold maxLen at hs'
  have e0 := bt_lt s 0 h0
  have k0 : ((s[0].toNat : Int) == 66) = false := by simp; omega
  have k1 : ((s[0].toNat : Int) == 87) = false := by simp; omega
  have k2 : ((s[0].toNat : Int) == 76) = false := by simp; omega
  have k3 : ((s[0].toNat : Int) == 84) = false := by simp; omega
  clear e0
  go_enter Tryd.func17, Tryd.ntmps17
  go_wp2
  refine bodyPost_ret (v := .tuple #[.agg zeroCells, .int .i64 ((0 : Nat) : Int), .bool false]) (by simp [results, Tryd.results17, go_sem, zeroCells]) rfl ?_
  refine RefParsed.bad ?_
  repeat (first | refine Below.setCell ?_ (by simp <;> omega) _ | refine Below.alloc ?_ (by simp <;> omega) _ | exact Below.refl _ _)

set_option maxRecDepth 100000 in
set_option maxHeartbeats 4000000 in
theorem ref_T1a (s : ByteArray) (w : World) (hs : s.size ≤ maxLen) (h0 : 0 < s.size) (hk : bt s 0 = 84) (hge : ¬ 1 < s.size) :
    Calls Tryd.prog 17 #[.string s] w fun e w' => RefParsed (.inr 1) w e w' := by
  have hne := not_empty h0
  have hs' := hs
  unfold maxLen at hs'
  have e0 := bt_lt s 0 h0
  have k0 : ((s[0].toNat : Int) == 66) = false := by simp; omega
  have k1 : ((s[0].toNat : Int) == 87) = false := by simp; omega
  have k2 : ((s[0].toNat : Int) == 76) = false := by simp; omega
  have k3 : ((s[0].toNat : Int) == 84) = true := by simp; omega
  clear e0
  have a1 : (s.size : Int) ≤ 1 := by omega
  go_enter Tryd.func17, Tryd.ntmps17
  go_wp2
  refine bodyPost_ret (v := .tuple #[.agg zeroCells, .int .i64 ((1 : Nat) : Int), .bool false]) (by simp [results, Tryd.results17, go_sem, zeroCells]) rfl ?_
  refine RefParsed.bad ?_
  repeat (first | refine Below.setCell ?_ (by simp <;> omega) _ | refine Below.alloc ?_ (by simp <;> omega) _ | exact Below.refl _ _)

set_option maxRecDepth 100000 in
set_option maxHeartbeats 4000000 in
theorem ref_T1b (s : ByteArray) (w : World) (hs : s.size ≤ maxLen) (h0 : 0 < s.size) (hk : bt s 0 = 84) (hlt1 : 1 < s.size) (hc1 : ¬ bt s 1 = 32) :
    Calls Tryd.prog 17 #[.string s] w fun e w' => RefParsed (.inr 1) w e w' := by
  have hne := not_empty h0
  have hs' := hs
  unfold maxLen at hs'
  have e0 := bt_lt s 0 h0
  have k0 : ((s[0].toNat : Int) == 66) = false := by simp; omega
  have k1 : ((s[0].toNat : Int) == 87) = false := by simp; omega
  have k2 : ((s[0].toNat : Int) == 76) = false := by simp; omega
  have k3 : ((s[0].toNat : Int) == 84) = true := by simp; omega
  clear e0
  have a1 : ¬ (s.size : Int) ≤ 1 := by omega
  have e1 := bt_lt s 1 hlt1
  have a2 : ((s[1].toNat : Int) != 32) = true := by rw [bne_iff_ne]; omega
  clear e1
  go_enter Tryd.func17, Tryd.ntmps17
  go_wp2
  refine bodyPost_ret (v := .tuple #[.agg zeroCells, .int .i64 ((1 : Nat) : Int), .bool false]) (by simp [results, Tryd.results17, go_sem, zeroCells]) rfl ?_
  refine RefParsed.bad ?_
  repeat (first | refine Below.setCell ?_ (by simp <;> omega) _ | refine Below.alloc ?_ (by simp <;> omega) _ | exact Below.refl _ _)

set_option maxRecDepth 100000 in
set_option maxHeartbeats 4000000 in
theorem ref_T2 (s : ByteArray) (w : World) (hs : s.size ≤ maxLen) (h0 : 0 < s.size) (hk : bt s 0 = 84) (hlt1 : 1 < s.size) (hc1 : bt s 1 = 32) :
    Calls Tryd.prog 17 #[.string s] w fun e w' => RefParsed (fin s (antEnd s)) w e w' := by
  have hne := not_empty h0
  have hs' := hs
  unfold maxLen at hs'
  have e0 := bt_lt s 0 h0
  have k0 : ((s[0].toNat : Int) == 66) = false := by simp; omega
  have k1 : ((s[0].toNat : Int) == 87) = false := by simp; omega
  have k2 : ((s[0].toNat : Int) == 76) = false := by simp; omega
  have k3 : ((s[0].toNat : Int) == 84) = true := by simp; omega
  clear e0
  have a1 : ¬ (s.size : Int) ≤ 1 := by omega
  have e1 := bt_lt s 1 hlt1
  have a2 : ((s[1].toNat : Int) != 32) = false := by rw [bne_eq_false_iff_eq]; omega
  clear e1
  obtain ⟨J, hJ⟩ : ∃ J, J = turnF s 26 2 := ⟨_, rfl⟩
  have HJ := hide' hJ
  clear hJ
  go_enter Tryd.func17, Tryd.ntmps17
  go_wp2
  go_loop [7] (fun iv => ∃ i : Nat, iv = .int .i64 (i : Int) ∧ 2 ≤ i ∧ i ≤ 28 ∧ i ≤ s.size ∧ turnF s (28 - i) i = J) (fun iv => s.size - (intOf iv).toNat)
  case atStart => exact ⟨2, rfl, by omega, by omega, by omega, HJ.out.symm⟩
  case round =>
    obtain ⟨i, rfl, hi2, hi28, his, jk⟩ := hrel
    have JK := hide' jk
    clear jk
    by_cases hc : i < 28 ∧ i < s.size ∧ (bt s i = 76 ∨ bt s i = 82)
    · obtain ⟨c1, c2, c3⟩ := hc
      have e2 := bt_lt s i c2
      have b1 : (i : Int) < (s.size : Int) := by omega
      have b2 : (i : Int) - 2 < 26 := by omega
      have X := hide' (turnF_step c1 c2 c3)
      by_cases d : bt s i = 76
      · have b3 : ((s[i].toNat : Int) == 76) = true := by simp; omega
        clear c3 e2 d
        go_wp2
        exact ⟨⟨i + 1, by go_num, by omega, by omega, by omega, X.out.symm.trans JK.out⟩, by simp [intOf]; omega⟩
      · have b3 : ((s[i].toNat : Int) == 76) = false := by simp; omega
        have b4 : ((s[i].toNat : Int) == 82) = true := by simp; omega
        clear c3 e2 d
        go_wp2
        exact ⟨⟨i + 1, by go_num, by omega, by omega, by omega, X.out.symm.trans JK.out⟩, by simp [intOf]; omega⟩
    · have x1 := JK.out
      rw [turnF_stop hc] at x1
      have x2 := x1.trans HJ.out
      clear x1
      by_cases c2 : i < s.size
      · have b1 : (i : Int) < (s.size : Int) := by omega
        by_cases c1 : i < 28
        · have b2 : (i : Int) - 2 < 26 := by omega
          have e2 := bt_lt s i c2
          have b3 : ((s[i].toNat : Int) == 76) = false := by simp; omega
          have b4 : ((s[i].toNat : Int) == 82) = false := by simp; omega
          clear e2 hc
          by_cases hz : i = 2
          · have n1 : ((i : Int) == 2) = true := by simp; omega
            have X := hide' (show fin s (antEnd s) = .inr 2 by unfold antEnd; rw [if_pos (by omega)]; rfl)
            have Z := hide' hz
            clear hz x2
            go_wp2
            refine bodyPost_ret (v := .tuple #[.agg zeroCells, .int .i64 (i : Int), .bool false]) (by simp [results, Tryd.results17, go_sem, zeroCells]) rfl ?_
            rw [X.out, Z.out]
            refine RefParsed.bad ?_
            repeat (first | refine Below.setCell ?_ (by simp <;> omega) _ | refine Below.alloc ?_ (by simp <;> omega) _ | exact Below.refl _ _)
          · have n1 : ((i : Int) == 2) = false := by simp; omega
            have X := hide' (show fin s (antEnd s) = (if i = s.size then .inl ⟨3, 0, 0, 0, 0, [], s.extract 2 i⟩ else .inr i) by unfold antEnd; rw [if_neg (by omega), ← x2]; rfl)
            clear x2
            have q : i < s.size := c2
            go_wp2
            refine bodyPost_ret (v := .tuple #[.agg zeroCells, .int .i64 (i : Int), .bool false]) (by simp [results, Tryd.results17, go_sem, zeroCells]) rfl ?_
            rw [X.out, if_neg (by omega)]
            refine RefParsed.bad ?_
            repeat (first | refine Below.setCell ?_ (by simp <;> omega) _ | refine Below.alloc ?_ (by simp <;> omega) _ | exact Below.refl _ _)
        · have b2 : ¬ (i : Int) - 2 < 26 := by omega
          clear hc
          by_cases hz : i = 2
          · have n1 : ((i : Int) == 2) = true := by simp; omega
            have X := hide' (show fin s (antEnd s) = .inr 2 by unfold antEnd; rw [if_pos (by omega)]; rfl)
            have Z := hide' hz
            clear hz x2
            go_wp2
            refine bodyPost_ret (v := .tuple #[.agg zeroCells, .int .i64 (i : Int), .bool false]) (by simp [results, Tryd.results17, go_sem, zeroCells]) rfl ?_
            rw [X.out, Z.out]
            refine RefParsed.bad ?_
            repeat (first | refine Below.setCell ?_ (by simp <;> omega) _ | refine Below.alloc ?_ (by simp <;> omega) _ | exact Below.refl _ _)
          · have n1 : ((i : Int) == 2) = false := by simp; omega
            have X := hide' (show fin s (antEnd s) = (if i = s.size then .inl ⟨3, 0, 0, 0, 0, [], s.extract 2 i⟩ else .inr i) by unfold antEnd; rw [if_neg (by omega), ← x2]; rfl)
            clear x2
            have q : i < s.size := c2
            go_wp2
            refine bodyPost_ret (v := .tuple #[.agg zeroCells, .int .i64 (i : Int), .bool false]) (by simp [results, Tryd.results17, go_sem, zeroCells]) rfl ?_
            rw [X.out, if_neg (by omega)]
            refine RefParsed.bad ?_
            repeat (first | refine Below.setCell ?_ (by simp <;> omega) _ | refine Below.alloc ?_ (by simp <;> omega) _ | exact Below.refl _ _)
      · have b1 : ¬ (i : Int) < (s.size : Int) := by omega
        clear hc
        by_cases hz : i = 2
        · have n1 : ((i : Int) == 2) = true := by simp; omega
          have X := hide' (show fin s (antEnd s) = .inr 2 by unfold antEnd; rw [if_pos (by omega)]; rfl)
          have Z := hide' hz
          clear hz x2
          go_wp2
          refine bodyPost_ret (v := .tuple #[.agg zeroCells, .int .i64 (i : Int), .bool false]) (by simp [results, Tryd.results17, go_sem, zeroCells]) rfl ?_
          rw [X.out, Z.out]
          refine RefParsed.bad ?_
          repeat (first | refine Below.setCell ?_ (by simp <;> omega) _ | refine Below.alloc ?_ (by simp <;> omega) _ | exact Below.refl _ _)
        · have n1 : ((i : Int) == 2) = false := by simp; omega
          have X := hide' (show fin s (antEnd s) = (if i = s.size then .inl ⟨3, 0, 0, 0, 0, [], s.extract 2 i⟩ else .inr i) by unfold antEnd; rw [if_neg (by omega), ← x2]; rfl)
          clear x2
          have q : ¬ i < s.size := c2
          go_wp2
          refine bodyPost_ret (v := .tuple #[Out.val ⟨3, 0, 0, 0, 0, [], s.extract 2 i⟩ (.slice none 0 0), .int .i64 0, .bool true]) (by simp [results, Tryd.results17, go_sem, Out.val]) rfl ?_
          rw [X.out, if_pos (by omega)]
          refine ⟨_, rfl, Or.inl ⟨rfl, rfl⟩, ?_⟩
          repeat (first | refine Below.setCell ?_ (by simp <;> omega) _ | refine Below.alloc ?_ (by simp <;> omega) _ | exact Below.refl _ _)
end Go.Proofs.YtljdidimoagnhaaDoor

namespace Go.Proofs.YtljdidimoagnhaaDoor
open Go.RowKit
set_option linter.unusedVariables false

theorem inR_one {s : ByteArray} {i : Nat} {c : Nat} : inR s i c c = true ↔ i < s.size ∧ bt s i = c := by
  rw [inR_true]; omega
theorem inR_one_no {s : ByteArray} {i : Nat} {c : Nat} (h : ¬ (i < s.size ∧ bt s i = c)) : inR s i c c = false := by
  rw [inR_false]; omega

theorem ref_B (s : ByteArray) (w : World) (hs : s.size ≤ maxLen) (h0 : 0 < s.size) (hk : bt s 0 = 66) :
    Calls Tryd.prog 17 #[.string s] w fun e w' => RefParsed (fin s (lifeS s)) w e w' := by
  obtain ⟨K, hK⟩ : ∃ K, (ris s 1).2 = K := ⟨_, rfl⟩
  have hl : ∀ (c : K < s.size ∧ bt s K = 47), inR s K 47 47 = true := fun c => (inR_one (c := 47)).2 c
  have hn : ∀ (c : ¬ (K < s.size ∧ bt s K = 47)), inR s K 47 47 = false := fun c => inR_one_no (c := 47) c
  by_cases c : K < s.size ∧ bt s K = 47
  · have hA := hl c
    have hbad : inR s K 48 56 = false := by rw [inR_false]; omega
    by_cases d : K + 1 < s.size ∧ bt s (K + 1) = 83
    · have hB : inR s (K + 1) 83 83 = true := (inR_one (c := 83)).2 d
      obtain ⟨J, hJ⟩ : ∃ J, (ris s (K + 2)).2 = J := ⟨_, rfl⟩
      have hJs : J ≤ s.size := by rw [← hJ]; exact ris_le s (K + 2) (by omega)
      have hx : lifeS s = .inl (⟨1, (ris s 1).1, (ris s (K + 2)).1, 0, 0, [], ⟨#[]⟩⟩, J) := by
        unfold lifeS; simp [hK, hA, hB, hJ]
      rw [hx]
      by_cases q : J < s.size
      · rw [show fin s (.inl (⟨1, (ris s 1).1, (ris s (K + 2)).1, 0, 0, [], ⟨#[]⟩⟩, J)) = .inr J from if_neg (by omega)]
        cases hb2 : inR s J 48 56 with
        | true => exact ref_B6 s w hs h0 hk K hK hbad c.1 c.2 d.1 d.2 J hJ hb2
        | false => exact ref_B7 s w hs h0 hk K hK hbad c.1 c.2 d.1 d.2 J hJ hb2 q
      · rw [show fin s (.inl (⟨1, (ris s 1).1, (ris s (K + 2)).1, 0, 0, [], ⟨#[]⟩⟩, J)) = .inl ⟨1, (ris s 1).1, (ris s (K + 2)).1, 0, 0, [], ⟨#[]⟩⟩ from if_pos (by omega)]
        exact ref_B8 s w hs h0 hk K hK hbad c.1 c.2 d.1 d.2 J hJ (by rw [inR_false]; omega) q
    · have hB : inR s (K + 1) 83 83 = false := inR_one_no (c := 83) d
      rw [show lifeS s = .inr (K + 1) by unfold lifeS; simp [hK, hA, hB]]
      show Calls _ _ _ _ fun e w' => RefParsed (.inr (K + 1)) w e w'
      by_cases q : K + 1 < s.size
      · exact ref_B5 s w hs h0 hk K hK hbad c.1 c.2 q (by omega)
      · exact ref_B4 s w hs h0 hk K hK hbad c.1 c.2 q
  · have hA := hn c
    rw [show lifeS s = .inr K by unfold lifeS; simp [hK, hA]]
    show Calls _ _ _ _ fun e w' => RefParsed (.inr K) w e w'
    cases hbad : inR s K 48 56 with
    | true => exact ref_B1 s w hs h0 hk K hK hbad
    | false =>
      by_cases q : K < s.size
      · exact ref_B3 s w hs h0 hk K hK hbad q (by omega)
      · exact ref_B2 s w hs h0 hk K hK hbad q

theorem ref_W (s : ByteArray) (w : World) (hs : s.size ≤ maxLen) (h0 : 0 < s.size) (hk : bt s 0 = 87) :
    Calls Tryd.prog 17 #[.string s] w fun e w' => RefParsed (fin s (numberedS s)) w e w' := by
  cases hn : numOk s 1 0 255 with
  | false =>
    rw [show numberedS s = .inr 1 by unfold numberedS; simp [hn]]
    exact ref_W1 s w hs h0 hk hn
  | true =>
    have hx : numberedS s = .inl (⟨2, 0, 0, 2, 1, (List.range 8).map (bitOf (num s 1).1), ⟨#[]⟩⟩, (num s 1).2) := by unfold numberedS; simp [hn]
    rw [hx]
    have hz := num_size s 1 (by omega)
    by_cases q : (num s 1).2 < s.size
    · rw [show fin s (.inl (⟨2, 0, 0, 2, 1, (List.range 8).map (bitOf (num s 1).1), ⟨#[]⟩⟩, (num s 1).2)) = .inr (num s 1).2 from if_neg (by omega)]
      exact ref_W2 s w hs h0 hk hn q
    · rw [show fin s (.inl (⟨2, 0, 0, 2, 1, (List.range 8).map (bitOf (num s 1).1), ⟨#[]⟩⟩, (num s 1).2)) = .inl ⟨2, 0, 0, 2, 1, (List.range 8).map (bitOf (num s 1).1), ⟨#[]⟩⟩ from if_pos (by omega)]
      exact ref_W3 s w hs h0 hk hn q

theorem ref_L (s : ByteArray) (w : World) (hs : s.size ≤ maxLen) (h0 : 0 < s.size) (hk : bt s 0 = 76) :
    Calls Tryd.prog 17 #[.string s] w fun e w' => RefParsed (fin s (tabledS s)) w e w' := by
  rcases tabled_ways s with ⟨a, q⟩ | ⟨a, c, q⟩ | ⟨a, c, d, q⟩ | ⟨a, c, d, e, q⟩ | ⟨a, c, d, e, f, q⟩ | ⟨a, c, d, e, f, q⟩
  · rw [q]
    show Calls _ _ _ _ fun e w' => RefParsed (.inr 1) w e w'
    have := inR_false.1 a
    by_cases p : 1 < s.size
    · exact ref_L1b s w hs h0 hk p (by omega)
    · exact ref_L1a s w hs h0 hk p
  · rw [q]
    have a' := (inR_one (c := 32)).1 a
    exact ref_L2 s w hs h0 hk a'.1 a'.2 c
  · rw [q]
    have a' := (inR_one (c := 32)).1 a
    have := inR_false.1 d
    show Calls _ _ _ _ fun e w' => RefParsed (.inr (num s 2).2) w e w'
    by_cases p : (num s 2).2 < s.size
    · exact ref_L3b s w hs h0 hk a'.1 a'.2 _ rfl c p (by omega)
    · exact ref_L3a s w hs h0 hk a'.1 a'.2 _ rfl c p
  · rw [q]
    have a' := (inR_one (c := 32)).1 a
    have d' := (inR_one (c := 32)).1 d
    exact ref_L4 s w hs h0 hk a'.1 a'.2 _ rfl c d'.1 d'.2 e
  · rw [q]
    have a' := (inR_one (c := 32)).1 a
    have d' := (inR_one (c := 32)).1 d
    have := inR_false.1 f
    show Calls _ _ _ _ fun e w' => RefParsed (.inr (num s ((num s 2).2 + 1)).2) w e w'
    by_cases p : (num s ((num s 2).2 + 1)).2 < s.size
    · exact ref_L5b s w hs h0 hk a'.1 a'.2 _ rfl c d'.1 d'.2 _ rfl e p (by omega)
    · exact ref_L5a s w hs h0 hk a'.1 a'.2 _ rfl c d'.1 d'.2 _ rfl e p
  · rw [q]
    have a' := (inR_one (c := 32)).1 a
    have d' := (inR_one (c := 32)).1 d
    have f' := (inR_one (c := 32)).1 f
    exact ref_L6 s w hs h0 hk a'.1 a'.2 _ rfl c d'.1 d'.2 _ rfl e f'.1 f'.2

theorem ref_T (s : ByteArray) (w : World) (hs : s.size ≤ maxLen) (h0 : 0 < s.size) (hk : bt s 0 = 84) :
    Calls Tryd.prog 17 #[.string s] w fun e w' => RefParsed (fin s (antS s)) w e w' := by
  cases hA : inR s 1 32 32 with
  | true =>
    have a' := (inR_one (c := 32)).1 hA
    rw [show antS s = antEnd s by unfold antS antEnd; simp [hA]]
    exact ref_T2 s w hs h0 hk a'.1 a'.2
  | false =>
    rw [show antS s = .inr 1 by unfold antS; simp [hA]]
    show Calls _ _ _ _ fun e w' => RefParsed (.inr 1) w e w'
    have := inR_false.1 hA
    by_cases p : 1 < s.size
    · exact ref_T1b s w hs h0 hk p (by omega)
    · exact ref_T1a s w hs h0 hk p

theorem ref_any (s : ByteArray) (w : World) (hs : s.size ≤ maxLen) :
    Calls Tryd.prog 17 #[.string s] w fun e w' => RefParsed (parseS s) w e w' := by
  rw [parseS_fin]
  unfold kindS
  by_cases h0 : s.size = 0
  · rw [if_pos h0]; exact ref_empty s w h0
  rw [if_neg h0]
  by_cases h1 : bt s 0 = 66
  · rw [if_pos h1]; exact ref_B s w hs (by omega) h1
  rw [if_neg h1]
  by_cases h2 : bt s 0 = 87
  · rw [if_pos h2]; exact ref_W s w hs (by omega) h2
  rw [if_neg h2]
  by_cases h3 : bt s 0 = 76
  · rw [if_pos h3]; exact ref_L s w hs (by omega) h3
  rw [if_neg h3]
  by_cases h4 : bt s 0 = 84
  · rw [if_pos h4]; exact ref_T s w hs (by omega) h4
  rw [if_neg h4]
  exact ref_other s w hs (by omega) h1 h2 h3 h4
end Go.Proofs.YtljdidimoagnhaaDoor

namespace Go.Proofs.YtljdidimoagnhaaDoor
open Go.RowKit
set_option linter.unusedVariables false

theorem Tab.below {w w' : World} {v : Value} {xs : List Int} (h : Tab w v xs) (hb : Below w.heap.size w w') : Tab w' v xs := by
  rcases h with h | ⟨g, cap, hv, hg, hc⟩
  · exact Or.inl h
  · exact Or.inr ⟨g, cap, hv, Nat.lt_of_lt_of_le hg hb.size, fun k hk => (World.cell?_of_block (w := w) (a := ⟨g, k, none⟩) (hb.block g hg)).trans (hc k hk)⟩

theorem table_len (s : ByteArray) (o : Out) (h : parseS s = .inl o) : o.table.length ≤ maxLen := by
  have H : ∀ p, kindS s = .inl (o, p) → o.table.length ≤ 1024 := by
    intro p hp
    unfold kindS at hp
    split at hp
    · cases hp
    split at hp
    · unfold lifeS at hp
      split at hp
      · cases hp
      split at hp
      · cases hp
      · injection hp with hp; injection hp with h1 h2; rw [← h1]; simp
    split at hp
    · unfold numberedS at hp
      split at hp
      · cases hp
      · injection hp with hp; injection hp with h1 h2; rw [← h1]; simp
    split at hp
    · rcases tabled_ways s with ⟨a, q⟩ | ⟨a, c, q⟩ | ⟨a, c, d, q⟩ | ⟨a, c, d, e, q⟩ | ⟨a, c, d, e, f, q⟩ | ⟨a, c, d, e, f, q⟩
      · rw [q] at hp; cases hp
      · rw [q] at hp; cases hp
      · rw [q] at hp; cases hp
      · rw [q] at hp; cases hp
      · rw [q] at hp; cases hp
      · rw [q] at hp
        unfold tabEnd at hp
        split at hp
        · cases hp
        · injection hp with hp; injection hp with h1 h2
          rw [← h1]
          have n1 := num_le s 2 2 4 c
          have n2 := num_le s _ 0 2 e
          have := (powS_small _ _ n1.2 n1.1 n2.1).2
          simpa using this
    split at hp
    · unfold antS at hp
      split at hp
      · cases hp
      split at hp
      · cases hp
      · injection hp with hp; injection hp with h1 h2; rw [← h1]; simp
    · cases hp
  unfold parseS at h
  split at h
  · cases h
  · rename_i o' p' hk
    split at h
    · injection h with h1
      subst h1
      have := H _ hk
      unfold maxLen; omega
    · cases h

def noRule : Out := ⟨0, 0, 0, 0, 0, [], ⟨#[]⟩⟩
theorem noRule_val : noRule.val (.slice none 0 0) = .agg zeroCells := rfl

set_option maxHeartbeats 1600000 in
theorem law_parses_ok (s : ByteArray) (w : World) (hs : s.size ≤ maxLen) (hg : Handle w) (o : Out) (hx : parseS s = .inl o) :
    Calls Tryd.prog 3 #[.string s] w fun e w' => e = .returned (.bool true) ∧ Below w.heap.size w w' := by
  have HX := hide' hx
  have HL := hide' (table_len s o hx)
  clear hx
  go_enter Tryd.func3, Tryd.ntmps3
  go_wp2_with fail
  refine (parse_ok s _ hs o HX.out).mono ?_
  rintro e w1 ⟨v1, rfl, t1, f1, b1⟩
  obtain ⟨a1, m1, c1, rfl⟩ := t1.slice
  have T1 := hide' t1
  have B1 := hide' b1
  clear t1 f1 b1
  unfold Out.val
  go_wp2_with fail
  refine (ref_any s _ hs).mono ?_
  rw [HX.out]
  rintro e w2 ⟨v2, rfl, t2, b2⟩
  obtain ⟨a2, m2, c2, rfl⟩ := t2.slice
  have T2 := hide' t2
  have B2 := hide' b2
  have x0 := b2.cell (p := ⟨w1.heap.size, 0, none⟩) (by simp)
  have x1 := b2.cell (p := ⟨w1.heap.size, 1, none⟩) (by simp)
  have x2 := b2.cell (p := ⟨w1.heap.size, 2, none⟩) (by simp)
  have x3 := b2.cell (p := ⟨w1.heap.size, 3, none⟩) (by simp)
  have x4 := b2.cell (p := ⟨w1.heap.size, 4, none⟩) (by simp)
  have x5 := b2.cell (p := ⟨w1.heap.size, 5, none⟩) (by simp)
  have x6 := b2.cell (p := ⟨w1.heap.size, 6, none⟩) (by simp)
  simp at x0 x1 x2 x3 x4 x5 x6
  have hz : w1.heap.size < w2.heap.size := by have := b2.size; simp at this; omega
  have TA := hide' (show Tab (w2.alloc (.cells #[.int .i64 o.kind, .int .i64 o.born, .int .i64 o.stay, .int .i64 o.states, .int .i64 o.radius, .slice a2 m2 c2, .string o.turns] 24)) (.slice a1 m1 c1) o.table from ((T1.out.alloc' _).below b2).alloc' _)
  have TB := hide' (show Tab (w2.alloc (.cells #[.int .i64 o.kind, .int .i64 o.born, .int .i64 o.stay, .int .i64 o.states, .int .i64 o.radius, .slice a2 m2 c2, .string o.turns] 24)) (.slice a2 m2 c2) o.table from t2.alloc' _)
  clear t2 b2
  unfold Out.val
  go_wp2_with fail
  refine (Same_same o (.slice a1 m1 c1) (.slice a2 m2 c2) _ TA.out TB.out HL.out).mono ?_
  rintro e w3 ⟨rfl, b3⟩
  have B3 := hide' b3
  clear b3
  go_wp2_with fail
  refine (error_nil 0 _).mono ?_
  rintro e w4 ⟨rfl, rfl⟩
  go_wp2
  go_ret
  refine ⟨rfl, ?_⟩
  have q1 := B1.out
  have q2 := B2.out
  have q3 := B3.out
  have s1 := q1.size
  have s2 := q2.size
  simp at s2
  exact ((q1.alloc (by omega) _).trans (q2.mono (by simp; omega))).alloc (by omega) _ |>.trans (q3.mono (by simp; omega))

set_option maxHeartbeats 1600000 in
theorem law_parses_no (s : ByteArray) (w : World) (hs : s.size ≤ maxLen) (hg : Handle w) (a : Nat) (hx : parseS s = .inr a) :
    Calls Tryd.prog 3 #[.string s] w fun e w' => e = .returned (.bool true) ∧ Below w.heap.size w w' := by
  have HX := hide' hx
  have HG := hide' hg
  clear hx hg
  go_enter Tryd.func3, Tryd.ntmps3
  go_wp2_with fail
  refine (parse_no s _ hs a HX.out).mono ?_
  rintro e w1 ⟨rfl, b1⟩
  have B1 := hide' b1
  clear b1
  unfold zeroCells
  go_wp2_with fail
  refine (ref_any s _ hs).mono ?_
  rw [HX.out]
  rintro e w2 ⟨rfl, b2⟩
  have B2 := hide' b2
  have x0 := b2.cell (p := ⟨w1.heap.size, 0, none⟩) (by simp)
  have x1 := b2.cell (p := ⟨w1.heap.size, 1, none⟩) (by simp)
  have x2 := b2.cell (p := ⟨w1.heap.size, 2, none⟩) (by simp)
  have x3 := b2.cell (p := ⟨w1.heap.size, 3, none⟩) (by simp)
  have x4 := b2.cell (p := ⟨w1.heap.size, 4, none⟩) (by simp)
  have x5 := b2.cell (p := ⟨w1.heap.size, 5, none⟩) (by simp)
  have x6 := b2.cell (p := ⟨w1.heap.size, 6, none⟩) (by simp)
  simp at x0 x1 x2 x3 x4 x5 x6
  have hz : w1.heap.size < w2.heap.size := by have := b2.size; simp at this; omega
  have TA := hide' (show Tab (w2.alloc (.cells zeroCells 24)) (.slice none 0 0) noRule.table from Or.inl ⟨rfl, rfl⟩)
  clear b2
  unfold zeroCells
  go_wp2_with fail
  refine (Same_same noRule (.slice none 0 0) (.slice none 0 0) _ TA.out TA.out (by unfold noRule maxLen; simp)).mono ?_
  rintro e w3 ⟨rfl, b3⟩
  have B3 := hide' b3
  clear b3
  have q1 := B1.out
  have q2 := B2.out
  have q3 := B3.out
  have s1 := q1.size
  have s2 := q2.size
  simp at s2
  have Q := hide' (show Below w.heap.size w w3 from ((q1.alloc (by omega) _).trans (q2.mono (by simp; omega))).alloc (by omega) _ |>.trans (q3.mono (by simp; omega)))
  have GG := hide' (HG.out.below Q.out)
  clear q1 q2 q3 s1 s2
  go_wp2_with fail
  refine (error_errno 2 2 _ GG.out).mono ?_
  rintro e w4 ⟨rfl, b4⟩
  go_wp2
  go_ret
  refine ⟨rfl, Q.out.trans (b4.mono ?_)⟩
  exact Q.out.size

theorem law_parses (s : ByteArray) (w : World) (hs : s.size ≤ maxLen) (hg : Handle w) :
    Calls Tryd.prog 3 #[.string s] w fun e w' => e = .returned (.bool true) ∧ Below w.heap.size w w' := by
  cases hx : parseS s with
  | inl o => exact law_parses_ok s w hs hg o hx
  | inr a => exact law_parses_no s w hs hg a hx
end Go.Proofs.YtljdidimoagnhaaDoor

