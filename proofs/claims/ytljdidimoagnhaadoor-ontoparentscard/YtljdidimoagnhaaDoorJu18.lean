/-
  What the last text of this claim leans on, part 18: Ref3.
-/
import Derived.Test.YtljdidimoagnhaaDoorJu5
namespace Go.Proofs.YtljdidimoagnhaaDoor
open Go.RowKit
set_option linter.unusedVariables false

def RefParsed (x : Out ⊕ Nat) (w : World) (e : Ending) (w' : World) : Prop :=
  match x with
  | .inr a => e = .returned (.tuple #[.agg zeroCells, .int .i64 (a : Int), .bool false]) ∧ Below w.heap.size w w'
  | .inl o => ∃ v, e = .returned (.tuple #[o.val v, .int .i64 0, .bool true]) ∧ Tab w' v o.table ∧ Below w.heap.size w w'
theorem RefParsed.bad {a : Nat} {w w' : World} (h : Below w.heap.size w w') : RefParsed (.inr a) w (.returned (.tuple #[.agg zeroCells, .int .i64 (a : Int), .bool false])) w' := ⟨rfl, h⟩

set_option maxRecDepth 100000 in
set_option maxHeartbeats 1600000 in
theorem ref_empty (s : ByteArray) (w : World) (h0 : s.size = 0) :
    Calls Tryd.prog 17 #[.string s] w fun e w' => RefParsed (.inr 0) w e w' := by
  have hs : s = ⟨#[]⟩ := ByteArray.ext (Array.eq_empty_of_size_eq_zero h0)
  subst hs
  clear h0
  go_enter Tryd.func17, Tryd.ntmps17
  go_wp2
  refine bodyPost_ret (v := .tuple #[.agg zeroCells, .int .i64 0, .bool false]) (by simp [results, Tryd.results17, go_sem, zeroCells]) rfl ?_
  refine RefParsed.bad ?_
  repeat (first | refine Below.setCell ?_ (by simp <;> omega) _ | refine Below.alloc ?_ (by simp <;> omega) _ | exact Below.refl _ _)

theorem not_empty {s : ByteArray} (h : 0 < s.size) : s.toList.isEmpty = false := by
  rw [ByteArray.toList_eq]
  cases hl : s.data.toList with
  | nil =>
    have h2 : s.data.size = 0 := by rw [← Array.length_toList, hl]; rfl
    have h3 : s.size = s.data.size := rfl
    omega
  | cons _ _ => rfl

set_option maxRecDepth 100000 in
set_option maxHeartbeats 1600000 in
theorem ref_B1 (s : ByteArray) (w : World) (hs : s.size ≤ maxLen) (h0 : 0 < s.size) (hk : bt s 0 = 66) (K : Nat) (hK : (ris s 1).2 = K) (hbad : inR s K 48 56 = true) :
    Calls Tryd.prog 17 #[.string s] w fun e w' => RefParsed (.inr K) w e w' := by
  have hne := not_empty h0
  have hs' := hs
  unfold maxLen at hs'
  have e0 := bt_lt s 0 h0
  have k0 : ((s[0].toNat : Int) == 66) = true := by simp; omega
  clear e0
  have hb : inR s (ris s 1).2 48 56 = true := by rw [hK]; exact hbad
  have HK := hide' hK
  have HB := hide' hb
  clear hK hb
  go_enter Tryd.func17, Tryd.ntmps17
  go_wp2_with fail
  refine (rising_any s 1 1 _ rfl hs (by omega)).mono ?_
  rw [HB.out, HK.out]
  rintro e w1 ⟨rfl, rfl⟩
  go_wp2
  refine bodyPost_ret (v := .tuple #[.agg zeroCells, .int .i64 ((K : Nat) : Int), .bool false]) (by simp [results, Tryd.results17, go_sem, zeroCells]) rfl ?_
  refine RefParsed.bad ?_
  repeat (first | refine Below.setCell ?_ (by simp <;> omega) _ | refine Below.alloc ?_ (by simp <;> omega) _ | exact Below.refl _ _)

set_option maxRecDepth 100000 in
set_option maxHeartbeats 1600000 in
theorem ref_B2 (s : ByteArray) (w : World) (hs : s.size ≤ maxLen) (h0 : 0 < s.size) (hk : bt s 0 = 66) (K : Nat) (hK : (ris s 1).2 = K) (hbad : inR s K 48 56 = false) (hge : ¬ K < s.size) :
    Calls Tryd.prog 17 #[.string s] w fun e w' => RefParsed (.inr K) w e w' := by
  have hne := not_empty h0
  have hs' := hs
  unfold maxLen at hs'
  have e0 := bt_lt s 0 h0
  have k0 : ((s[0].toNat : Int) == 66) = true := by simp; omega
  clear e0
  have hb : inR s (ris s 1).2 48 56 = false := by rw [hK]; exact hbad
  have HK := hide' hK
  have HB := hide' hb
  clear hK hb
  have g1 : (s.size : Int) ≤ (K : Int) := by omega
  go_enter Tryd.func17, Tryd.ntmps17
  go_wp2_with fail
  refine (rising_any s 1 1 _ rfl hs (by omega)).mono ?_
  rw [HB.out, HK.out]
  rintro e w1 ⟨rfl, rfl⟩
  go_wp2
  refine bodyPost_ret (v := .tuple #[.agg zeroCells, .int .i64 ((K : Nat) : Int), .bool false]) (by simp [results, Tryd.results17, go_sem, zeroCells]) rfl ?_
  refine RefParsed.bad ?_
  repeat (first | refine Below.setCell ?_ (by simp <;> omega) _ | refine Below.alloc ?_ (by simp <;> omega) _ | exact Below.refl _ _)

set_option maxRecDepth 100000 in
set_option maxHeartbeats 1600000 in
theorem ref_B3 (s : ByteArray) (w : World) (hs : s.size ≤ maxLen) (h0 : 0 < s.size) (hk : bt s 0 = 66) (K : Nat) (hK : (ris s 1).2 = K) (hbad : inR s K 48 56 = false) (hlt : K < s.size) (hc : ¬ bt s K = 47) :
    Calls Tryd.prog 17 #[.string s] w fun e w' => RefParsed (.inr K) w e w' := by
  have hne := not_empty h0
  have hs' := hs
  unfold maxLen at hs'
  have e0 := bt_lt s 0 h0
  have k0 : ((s[0].toNat : Int) == 66) = true := by simp; omega
  clear e0
  have hb : inR s (ris s 1).2 48 56 = false := by rw [hK]; exact hbad
  have HK := hide' hK
  have HB := hide' hb
  clear hK hb
  have g1 : ¬ (s.size : Int) ≤ (K : Int) := by omega
  have e1 := bt_lt s K hlt
  have g2 : ((s[K].toNat : Int) != 47) = true := by rw [bne_iff_ne]; omega
  clear e1
  go_enter Tryd.func17, Tryd.ntmps17
  go_wp2_with fail
  refine (rising_any s 1 1 _ rfl hs (by omega)).mono ?_
  rw [HB.out, HK.out]
  rintro e w1 ⟨rfl, rfl⟩
  go_wp2
  refine bodyPost_ret (v := .tuple #[.agg zeroCells, .int .i64 ((K : Nat) : Int), .bool false]) (by simp [results, Tryd.results17, go_sem, zeroCells]) rfl ?_
  refine RefParsed.bad ?_
  repeat (first | refine Below.setCell ?_ (by simp <;> omega) _ | refine Below.alloc ?_ (by simp <;> omega) _ | exact Below.refl _ _)

set_option maxRecDepth 100000 in
set_option maxHeartbeats 1600000 in
theorem ref_B4 (s : ByteArray) (w : World) (hs : s.size ≤ maxLen) (h0 : 0 < s.size) (hk : bt s 0 = 66) (K : Nat) (hK : (ris s 1).2 = K) (hbad : inR s K 48 56 = false) (hlt : K < s.size) (hc : bt s K = 47) (hge : ¬ K + 1 < s.size) :
    Calls Tryd.prog 17 #[.string s] w fun e w' => RefParsed (.inr (K + 1)) w e w' := by
  have hne := not_empty h0
  have hs' := hs
  unfold maxLen at hs'
  have e0 := bt_lt s 0 h0
  have k0 : ((s[0].toNat : Int) == 66) = true := by simp; omega
  clear e0
  have hb : inR s (ris s 1).2 48 56 = false := by rw [hK]; exact hbad
  have HK := hide' hK
  have HB := hide' hb
  clear hK hb
  have g1 : ¬ (s.size : Int) ≤ (K : Int) := by omega
  have e1 := bt_lt s K hlt
  have g2 : ((s[K].toNat : Int) != 47) = false := by rw [bne_eq_false_iff_eq]; omega
  clear e1
  have g3 : (s.size : Int) ≤ (K : Int) + 1 := by omega
  go_enter Tryd.func17, Tryd.ntmps17
  go_wp2_with fail
  refine (rising_any s 1 1 _ rfl hs (by omega)).mono ?_
  rw [HB.out, HK.out]
  rintro e w1 ⟨rfl, rfl⟩
  go_wp2
  refine bodyPost_ret (v := .tuple #[.agg zeroCells, .int .i64 ((K + 1 : Nat) : Int), .bool false]) (by simp [results, Tryd.results17, go_sem, zeroCells]) rfl ?_
  refine RefParsed.bad ?_
  repeat (first | refine Below.setCell ?_ (by simp <;> omega) _ | refine Below.alloc ?_ (by simp <;> omega) _ | exact Below.refl _ _)

set_option maxRecDepth 100000 in
set_option maxHeartbeats 1600000 in
theorem ref_B5 (s : ByteArray) (w : World) (hs : s.size ≤ maxLen) (h0 : 0 < s.size) (hk : bt s 0 = 66) (K : Nat) (hK : (ris s 1).2 = K) (hbad : inR s K 48 56 = false) (hlt : K < s.size) (hc : bt s K = 47) (hlt2 : K + 1 < s.size) (hc2 : ¬ bt s (K + 1) = 83) :
    Calls Tryd.prog 17 #[.string s] w fun e w' => RefParsed (.inr (K + 1)) w e w' := by
  have hne := not_empty h0
  have hs' := hs
  unfold maxLen at hs'
  have e0 := bt_lt s 0 h0
  have k0 : ((s[0].toNat : Int) == 66) = true := by simp; omega
  clear e0
  have hb : inR s (ris s 1).2 48 56 = false := by rw [hK]; exact hbad
  have HK := hide' hK
  have HB := hide' hb
  clear hK hb
  have g1 : ¬ (s.size : Int) ≤ (K : Int) := by omega
  have e1 := bt_lt s K hlt
  have g2 : ((s[K].toNat : Int) != 47) = false := by rw [bne_eq_false_iff_eq]; omega
  clear e1
  have g3 : ¬ (s.size : Int) ≤ (K : Int) + 1 := by omega
  have e2 := bt_lt s (K + 1) hlt2
  have g4 : ((s[K + 1].toNat : Int) != 83) = true := by rw [bne_iff_ne]; omega
  clear e2
  go_enter Tryd.func17, Tryd.ntmps17
  go_wp2_with fail
  refine (rising_any s 1 1 _ rfl hs (by omega)).mono ?_
  rw [HB.out, HK.out]
  rintro e w1 ⟨rfl, rfl⟩
  go_wp2
  refine bodyPost_ret (v := .tuple #[.agg zeroCells, .int .i64 ((K + 1 : Nat) : Int), .bool false]) (by simp [results, Tryd.results17, go_sem, zeroCells]) rfl ?_
  refine RefParsed.bad ?_
  repeat (first | refine Below.setCell ?_ (by simp <;> omega) _ | refine Below.alloc ?_ (by simp <;> omega) _ | exact Below.refl _ _)

set_option maxRecDepth 100000 in
set_option maxHeartbeats 1600000 in
theorem ref_B6 (s : ByteArray) (w : World) (hs : s.size ≤ maxLen) (h0 : 0 < s.size) (hk : bt s 0 = 66) (K : Nat) (hK : (ris s 1).2 = K) (hbad : inR s K 48 56 = false) (hlt : K < s.size) (hc : bt s K = 47) (hlt2 : K + 1 < s.size) (hc2 : bt s (K + 1) = 83) (J : Nat) (hJ : (ris s (K + 2)).2 = J) (hbad2 : inR s J 48 56 = true) :
    Calls Tryd.prog 17 #[.string s] w fun e w' => RefParsed (.inr J) w e w' := by
  have hne := not_empty h0
  have hs' := hs
  unfold maxLen at hs'
  have e0 := bt_lt s 0 h0
  have k0 : ((s[0].toNat : Int) == 66) = true := by simp; omega
  clear e0
  have hb : inR s (ris s 1).2 48 56 = false := by rw [hK]; exact hbad
  have HK := hide' hK
  have HB := hide' hb
  clear hK hb
  have hb2 : inR s (ris s (K + 2)).2 48 56 = true := by rw [hJ]; exact hbad2
  have HJ := hide' hJ
  have HB2 := hide' hb2
  clear hJ hb2
  have g1 : ¬ (s.size : Int) ≤ (K : Int) := by omega
  have e1 := bt_lt s K hlt
  have g2 : ((s[K].toNat : Int) != 47) = false := by rw [bne_eq_false_iff_eq]; omega
  clear e1
  have g3 : ¬ (s.size : Int) ≤ (K : Int) + 1 := by omega
  have e2 := bt_lt s (K + 1) hlt2
  have g4 : ((s[K + 1].toNat : Int) != 83) = false := by rw [bne_eq_false_iff_eq]; omega
  clear e2
  go_enter Tryd.func17, Tryd.ntmps17
  go_wp2_with fail
  refine (rising_any s 1 1 _ rfl hs (by omega)).mono ?_
  rw [HB.out, HK.out]
  rintro e w1 ⟨rfl, rfl⟩
  go_wp2_with fail
  refine (rising_any s (K + 2) _ _ (by omega) hs (by omega)).mono ?_
  rw [HB2.out, HJ.out]
  rintro e w1 ⟨rfl, rfl⟩
  go_wp2
  refine bodyPost_ret (v := .tuple #[.agg zeroCells, .int .i64 ((J : Nat) : Int), .bool false]) (by simp [results, Tryd.results17, go_sem, zeroCells]) rfl ?_
  refine RefParsed.bad ?_
  repeat (first | refine Below.setCell ?_ (by simp <;> omega) _ | refine Below.alloc ?_ (by simp <;> omega) _ | exact Below.refl _ _)

set_option maxRecDepth 100000 in
set_option maxHeartbeats 1600000 in
theorem ref_B7 (s : ByteArray) (w : World) (hs : s.size ≤ maxLen) (h0 : 0 < s.size) (hk : bt s 0 = 66) (K : Nat) (hK : (ris s 1).2 = K) (hbad : inR s K 48 56 = false) (hlt : K < s.size) (hc : bt s K = 47) (hlt2 : K + 1 < s.size) (hc2 : bt s (K + 1) = 83) (J : Nat) (hJ : (ris s (K + 2)).2 = J) (hbad2 : inR s J 48 56 = false) (hlt3 : J < s.size) :
    Calls Tryd.prog 17 #[.string s] w fun e w' => RefParsed (.inr J) w e w' := by
  have hne := not_empty h0
  have hs' := hs
  unfold maxLen at hs'
  have e0 := bt_lt s 0 h0
  have k0 : ((s[0].toNat : Int) == 66) = true := by simp; omega
  clear e0
  have hb : inR s (ris s 1).2 48 56 = false := by rw [hK]; exact hbad
  have HK := hide' hK
  have HB := hide' hb
  clear hK hb
  have hb2 : inR s (ris s (K + 2)).2 48 56 = false := by rw [hJ]; exact hbad2
  have HJ := hide' hJ
  have HB2 := hide' hb2
  clear hJ hb2
  have g1 : ¬ (s.size : Int) ≤ (K : Int) := by omega
  have e1 := bt_lt s K hlt
  have g2 : ((s[K].toNat : Int) != 47) = false := by rw [bne_eq_false_iff_eq]; omega
  clear e1
  have g3 : ¬ (s.size : Int) ≤ (K : Int) + 1 := by omega
  have e2 := bt_lt s (K + 1) hlt2
  have g4 : ((s[K + 1].toNat : Int) != 83) = false := by rw [bne_eq_false_iff_eq]; omega
  clear e2
  have g5 : (J : Int) < (s.size : Int) := by omega
  go_enter Tryd.func17, Tryd.ntmps17
  go_wp2_with fail
  refine (rising_any s 1 1 _ rfl hs (by omega)).mono ?_
  rw [HB.out, HK.out]
  rintro e w1 ⟨rfl, rfl⟩
  go_wp2_with fail
  refine (rising_any s (K + 2) _ _ (by omega) hs (by omega)).mono ?_
  rw [HB2.out, HJ.out]
  rintro e w1 ⟨rfl, rfl⟩
  go_wp2
  refine bodyPost_ret (v := .tuple #[.agg zeroCells, .int .i64 ((J : Nat) : Int), .bool false]) (by simp [results, Tryd.results17, go_sem, zeroCells]) rfl ?_
  refine RefParsed.bad ?_
  repeat (first | refine Below.setCell ?_ (by simp <;> omega) _ | refine Below.alloc ?_ (by simp <;> omega) _ | exact Below.refl _ _)

set_option maxRecDepth 100000 in
set_option maxHeartbeats 1600000 in
theorem ref_B8 (s : ByteArray) (w : World) (hs : s.size ≤ maxLen) (h0 : 0 < s.size) (hk : bt s 0 = 66) (K : Nat) (hK : (ris s 1).2 = K) (hbad : inR s K 48 56 = false) (hlt : K < s.size) (hc : bt s K = 47) (hlt2 : K + 1 < s.size) (hc2 : bt s (K + 1) = 83) (J : Nat) (hJ : (ris s (K + 2)).2 = J) (hbad2 : inR s J 48 56 = false) (hge3 : ¬ J < s.size) :
    Calls Tryd.prog 17 #[.string s] w fun e w' => RefParsed (.inl ⟨1, (ris s 1).1, (ris s (K + 2)).1, 0, 0, [], ⟨#[]⟩⟩) w e w' := by
  have hne := not_empty h0
  have hs' := hs
  unfold maxLen at hs'
  have e0 := bt_lt s 0 h0
  have k0 : ((s[0].toNat : Int) == 66) = true := by simp; omega
  clear e0
  have hb : inR s (ris s 1).2 48 56 = false := by rw [hK]; exact hbad
  have HK := hide' hK
  have HB := hide' hb
  clear hK hb
  have hb2 : inR s (ris s (K + 2)).2 48 56 = false := by rw [hJ]; exact hbad2
  have HJ := hide' hJ
  have HB2 := hide' hb2
  clear hJ hb2
  have g1 : ¬ (s.size : Int) ≤ (K : Int) := by omega
  have e1 := bt_lt s K hlt
  have g2 : ((s[K].toNat : Int) != 47) = false := by rw [bne_eq_false_iff_eq]; omega
  clear e1
  have g3 : ¬ (s.size : Int) ≤ (K : Int) + 1 := by omega
  have e2 := bt_lt s (K + 1) hlt2
  have g4 : ((s[K + 1].toNat : Int) != 83) = false := by rw [bne_eq_false_iff_eq]; omega
  clear e2
  have g5 : ¬ (J : Int) < (s.size : Int) := by omega
  go_enter Tryd.func17, Tryd.ntmps17
  go_wp2_with fail
  refine (rising_any s 1 1 _ rfl hs (by omega)).mono ?_
  rw [HB.out, HK.out]
  rintro e w1 ⟨rfl, rfl⟩
  go_wp2_with fail
  refine (rising_any s (K + 2) _ _ (by omega) hs (by omega)).mono ?_
  rw [HB2.out, HJ.out]
  rintro e w1 ⟨rfl, rfl⟩
  go_wp2
  refine bodyPost_ret (v := .tuple #[Out.val ⟨1, (ris s 1).1, (ris s (K + 2)).1, 0, 0, [], ⟨#[]⟩⟩ (.slice none 0 0), .int .i64 0, .bool true]) (by simp [results, Tryd.results17, go_sem, Out.val]) rfl ?_
  refine ⟨_, rfl, Or.inl ⟨rfl, rfl⟩, ?_⟩
  repeat (first | refine Below.setCell ?_ (by simp <;> omega) _ | refine Below.alloc ?_ (by simp <;> omega) _ | exact Below.refl _ _)
end Go.Proofs.YtljdidimoagnhaaDoor

