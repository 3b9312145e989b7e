/-
  What the last text of this claim leans on, part 14: Ref3, Rk5.
-/
import Derived.Test.YtljdidimoagnhaaDoorJv4
import Derived.Test.YtljdidimoagnhaaDoorJv10
namespace Go.Proofs.YtljdidimoagnhaaDoor
open Go.RowKit
set_option linter.unusedVariables false

def RefParsed (x : Out ⊕ Nat) (w : World) (e : Ending) (w' : World) : Prop :=
  match x with
  | .inr a => e = .returned (.tuple #[.agg zeroCells, .int .i64 (a : Int), .bool false]) ∧ Below w.heap.size w w'
  | .inl o => ∃ v, e = .returned (.tuple #[o.val v, .int .i64 0, .bool true]) ∧ Tab w' v o.table ∧ Below w.heap.size w w'
theorem RefParsed.bad {a : Nat} {w w' : World} (h : Below w.heap.size w w') : RefParsed (.inr a) w (.returned (.tuple #[.agg zeroCells, .int .i64 (a : Int), .bool false])) w' := ⟨rfl, h⟩

set_option maxRecDepth 100000 in
set_option maxHeartbeats 1600000 in
theorem ref_empty (s : ByteArray) (w : World) (h0 : s.size = 0) :
    Calls Tryd.prog 17 #[.string s] w fun e w' => RefParsed (.inr 0) w e w' := by
  have hs : s = ⟨#[]⟩ := ByteArray.ext (Array.eq_empty_of_size_eq_zero h0)
  subst hs
  clear h0
  go_enter Tryd.func17, Tryd.ntmps17
  go_wp2
  refine bodyPost_ret (v := .tuple #[.agg zeroCells, .int .i64 0, .bool false]) (by simp [results, Tryd.results17, go_sem, zeroCells]) rfl ?_
  refine RefParsed.bad ?_
  repeat (first | refine Below.setCell ?_ (by simp <;> omega) _ | refine Below.alloc ?_ (by simp <;> omega) _ | exact Below.refl _ _)

theorem not_empty {s : ByteArray} (h : 0 < s.size) : s.toList.isEmpty = false := by
  rw [ByteArray.toList_eq]
  cases hl : s.data.toList with
  | nil =>
    have h2 : s.data.size = 0 := by rw [← Array.length_toList, hl]; rfl
    have h3 : s.size = s.data.size := rfl
    omega
  | cons _ _ => rfl

set_option maxRecDepth 100000 in
set_option maxHeartbeats 1600000 in
theorem ref_B1 (s : ByteArray) (w : World) (hs : s.size ≤ maxLen) (h0 : 0 < s.size) (hk : bt s 0 = 66) (K : Nat) (hK : (ris s 1).2 = K) (hbad : inR s K 48 56 = true) :
    Calls Tryd.prog 17 #[.string s] w fun e w' => RefParsed (.inr K) w e w' := by
  have hne := not_empty h0
  have hs' := hs
  unfold maxLen at hs'
  have e0 := bt_lt s 0 h0
  have k0 : ((s[0].toNat : Int) == 66) = true := by simp; omega
  clear e0
  have hb : inR s (ris s 1).2 48 56 = true := by rw [hK]; exact hbad
  have HK := hide' hK
  have HB := hide' hb
  clear hK hb
  go_enter Tryd.func17, Tryd.ntmps17
  go_wp2_with fail
  refine (rising_any s 1 1 _ rfl hs (by omega)).mono ?_
  rw [HB.out, HK.out]
  rintro e w1 ⟨rfl, rfl⟩
  go_wp2
  refine bodyPost_ret (v := .tuple #[.agg zeroCells, .int .i64 ((K : Nat) : Int), .bool false]) (by simp [results, Tryd.results17, go_sem, zeroCells]) rfl ?_
  refine RefParsed.bad ?_
  repeat (first | refine Below.setCell ?_ (by simp <;> omega) _ | refine Below.alloc ?_ (by simp <;> omega) _ | exact Below.refl _ _)

set_option maxRecDepth 100000 in
set_option maxHeartbeats 1600000 in
theorem ref_B2 (s : ByteArray) (w : World) (hs : s.size ≤ maxLen) (h0 : 0 < s.size) (hk : bt s 0 = 66) (K : Nat) (hK : (ris s 1).2 = K) (hbad : inR s K 48 56 = false) (hge : ¬ K < s.size) :
    Calls Tryd.prog 17 #[.string s] w fun e w' => RefParsed (.inr K) w e w' := by
  have hne := not_empty h0
  have hs' := hs
  unfold maxLen at hs'
  have e0 := bt_lt s 0 h0
  have k0 : ((s[0].toNat : Int) == 66) = true := by simp; omega
  clear e0
  have hb : inR s (ris s 1).2 48 56 = false := by rw [hK]; exact hbad
  have HK := hide' hK
  have HB := hide' hb
  clear hK hb
  have g1 : (s.size : Int) ≤ (K : Int) := by omega
  go_enter Tryd.func17, Tryd.ntmps17
  go_wp2_with fail
  refine (rising_any s 1 1 _ rfl hs (by omega)).mono ?_
  rw [HB.out, HK.out]
  rintro e w1 ⟨rfl, rfl⟩
  go_wp2
  refine bodyPost_ret (v := .tuple #[.agg zeroCells, .int .i64 ((K : Nat) : Int), .bool false]) (by simp [results, Tryd.results17, go_sem, zeroCells]) rfl ?_
  refine RefParsed.bad ?_
  repeat (first | refine Below.setCell ?_ (by simp <;> omega) _ | refine Below.alloc ?_ (by simp <;> omega) _ | exact Below.refl _ _)

set_option maxRecDepth 100000 in
set_option maxHeartbeats 1600000 in
theorem ref_B3 (s : ByteArray) (w : World) (hs : s.size ≤ maxLen) (h0 : 0 < s.size) (hk : bt s 0 = 66) (K : Nat) (hK : (ris s 1).2 = K) (hbad : inR s K 48 56 = false) (hlt : K < s.size) (hc : ¬ bt s K = 47) :
    Calls Tryd.prog 17 #[.string s] w fun e w' => RefParsed (.inr K) w e w' := by
  have hne := not_empty h0
  have hs' := hs
  unfold maxLen at hs'
  have e0 := bt_lt s 0 h0
  have k0 : ((s[0].toNat : Int) == 66) = true := by simp; omega
  clear e0
  have hb : inR s (ris s 1).2 48 56 = false := by rw [hK]; exact hbad
  have HK := hide' hK
  have HB := hide' hb
  clear hK hb
  have g1 : ¬ (s.size : Int) ≤ (K : Int) := by omega
  have e1 := bt_lt s K hlt
  have g2 : ((s[K].toNat : Int) != 47) = true := by rw [bne_iff_ne]; omega
  clear e1
  go_enter Tryd.func17, Tryd.ntmps17
  go_wp2_with fail
  refine (rising_any s 1 1 _ rfl hs (by omega)).mono ?_
  rw [HB.out, HK.out]
  rintro e w1 ⟨rfl, rfl⟩
  go_wp2
  refine bodyPost_ret (v := .tuple #[.agg zeroCells, .int .i64 ((K : Nat) : Int), .bool false]) (by simp [results, Tryd.results17, go_sem, zeroCells]) rfl ?_
  refine RefParsed.bad ?_
  repeat (first | refine Below.setCell ?_ (by simp <;> omega) _ | refine Below.alloc ?_ (by simp <;> omega) _ | exact Below.refl _ _)

set_option maxRecDepth 100000 in
set_option maxHeartbeats 1600000 in
theorem ref_B4 (s : ByteArray) (w : World) (hs : s.size ≤ maxLen) (h0 : 0 < s.size) (hk : bt s 0 = 66) (K : Nat) (hK : (ris s 1).2 = K) (hbad : inR s K 48 56 = false) (hlt : K < s.size) (hc : bt s K = 47) (hge : ¬ K + 1 < s.size) :
    Calls Tryd.prog 17 #[.string s] w fun e w' => RefParsed (.inr (K + 1)) w e w' := by
  have hne := not_empty h0
  have hs' := hs
  unfold maxLen at hs'
  have e0 := bt_lt s 0 h0
  have k0 : ((s[0].toNat : Int) == 66) = true := by simp; omega
  clear e0
  have hb : inR s (ris s 1).2 48 56 = false := by rw [hK]; exact hbad
  have HK := hide' hK
  have HB := hide' hb
  clear hK hb
  have g1 : ¬ (s.size : Int) ≤ (K : Int) := by omega
  have e1 := bt_lt s K hlt
  have g2 : ((s[K].toNat : Int) != 47) = false := by rw [bne_eq_false_iff_eq]; omega
  clear e1
  have g3 : (s.size : Int) ≤ (K : Int) + 1 := by omega
  go_enter Tryd.func17, Tryd.ntmps17
  go_wp2_with fail
  refine (rising_any s 1 1 _ rfl hs (by omega)).mono ?_
  rw [HB.out, HK.out]
  rintro e w1 ⟨rfl, rfl⟩
  go_wp2
  refine bodyPost_ret (v := .tuple #[.agg zeroCells, .int .i64 ((K + 1 : Nat) : Int), .bool false]) (by simp [results, Tryd.results17, go_sem, zeroCells]) rfl ?_
  refine RefParsed.bad ?_
  repeat (first | refine Below.setCell ?_ (by simp <;> omega) _ | refine Below.alloc ?_ (by simp <;> omega) _ | exact Below.refl _ _)

set_option maxRecDepth 100000 in
set_option maxHeartbeats 1600000 in
theorem ref_B5 (s : ByteArray) (w : World) (hs : s.size ≤ maxLen) (h0 : 0 < s.size) (hk : bt s 0 = 66) (K : Nat) (hK : (ris s 1).2 = K) (hbad : inR s K 48 56 = false) (hlt : K < s.size) (hc : bt s K = 47) (hlt2 : K + 1 < s.size) (hc2 : ¬ bt s (K + 1) = 83) :
    Calls Tryd.prog 17 #[.string s] w fun e w' => RefParsed (.inr (K + 1)) w e w' := by
  have hne := not_empty h0
  have hs' := hs
  unfold maxLen at hs'
  have e0 := bt_lt s 0 h0
  have k0 : ((s[0].toNat : Int) == 66) = true := by simp; omega
  clear e0
  have hb : inR s (ris s 1).2 48 56 = false := by rw [hK]; exact hbad
  have HK := hide' hK
  have HB := hide' hb
  clear hK hb
  have g1 : ¬ (s.size : Int) ≤ (K : Int) := by omega
  have e1 := bt_lt s K hlt
  have g2 : ((s[K].toNat : Int) != 47) = false := by rw [bne_eq_false_iff_eq]; omega
  clear e1
  have g3 : ¬ (s.size : Int) ≤ (K : Int) + 1 := by omega
  have e2 := bt_lt s (K + 1) hlt2
  have g4 : ((s[K + 1].toNat : Int) != 83) = true := by rw [bne_iff_ne]; omega
  clear e2
  go_enter Tryd.func17, Tryd.ntmps17
  go_wp2_with fail
  refine (rising_any s 1 1 _ rfl hs (by omega)).mono ?_
  rw [HB.out, HK.out]
  rintro e w1 ⟨rfl, rfl⟩
  go_wp2
  refine bodyPost_ret (v := .tuple #[.agg zeroCells, .int .i64 ((K + 1 : Nat) : Int), .bool false]) (by simp [results, Tryd.results17, go_sem, zeroCells]) rfl ?_
  refine RefParsed.bad ?_
  repeat (first | refine Below.setCell ?_ (by simp <;> omega) _ | refine Below.alloc ?_ (by simp <;> omega) _ | exact Below.refl _ _)

set_option maxRecDepth 100000 in
set_option maxHeartbeats 1600000 in
theorem ref_B6 (s : ByteArray) (w : World) (hs : s.size ≤ maxLen) (h0 : 0 < s.size) (hk : bt s 0 = 66) (K : Nat) (hK : (ris s 1).2 = K) (hbad : inR s K 48 56 = false) (hlt : K < s.size) (hc : bt s K = 47) (hlt2 : K + 1 < s.size) (hc2 : bt s (K + 1) = 83) (J : Nat) (hJ : (ris s (K + 2)).2 = J) (hbad2 : inR s J 48 56 = true) :
    Calls Tryd.prog 17 #[.string s] w fun e w' => RefParsed (.inr J) w e w' := by
  have hne := not_empty h0
  have hs' := hs
  unfold maxLen at hs'
  have e0 := bt_lt s 0 h0
  have k0 : ((s[0].toNat : Int) == 66) = true := by simp; omega
  clear e0
  have hb : inR s (ris s 1).2 48 56 = false := by rw [hK]; exact hbad
  have HK := hide' hK
  have HB := hide' hb
  clear hK hb
  have hb2 : inR s (ris s (K + 2)).2 48 56 = true := by rw [hJ]; exact hbad2
  have HJ := hide' hJ
  have HB2 := hide' hb2
  clear hJ hb2
  have g1 : ¬ (s.size : Int) ≤ (K : Int) := by omega
  have e1 := bt_lt s K hlt
  have g2 : ((s[K].toNat : Int) != 47) = false := by rw [bne_eq_false_iff_eq]; omega
  clear e1
  have g3 : ¬ (s.size : Int) ≤ (K : Int) + 1 := by omega
  have e2 := bt_lt s (K + 1) hlt2
  have g4 : ((s[K + 1].toNat : Int) != 83) = false := by rw [bne_eq_false_iff_eq]; omega
  clear e2
  go_enter Tryd.func17, Tryd.ntmps17
  go_wp2_with fail
  refine (rising_any s 1 1 _ rfl hs (by omega)).mono ?_
  rw [HB.out, HK.out]
  rintro e w1 ⟨rfl, rfl⟩
  go_wp2_with fail
  refine (rising_any s (K + 2) _ _ (by omega) hs (by omega)).mono ?_
  rw [HB2.out, HJ.out]
  rintro e w1 ⟨rfl, rfl⟩
  go_wp2
  refine bodyPost_ret (v := .tuple #[.agg zeroCells, .int .i64 ((J : Nat) : Int), .bool false]) (by simp [results, Tryd.results17, go_sem, zeroCells]) rfl ?_
  refine RefParsed.bad ?_
  repeat (first | refine Below.setCell ?_ (by simp <;> omega) _ | refine Below.alloc ?_ (by simp <;> omega) _ | exact Below.refl _ _)

set_option maxRecDepth 100000 in
set_option maxHeartbeats 1600000 in
theorem ref_B7 (s : ByteArray) (w : World) (hs : s.size ≤ maxLen) (h0 : 0 < s.size) (hk : bt s 0 = 66) (K : Nat) (hK : (ris s 1).2 = K) (hbad : inR s K 48 56 = false) (hlt : K < s.size) (hc : bt s K = 47) (hlt2 : K + 1 < s.size) (hc2 : bt s (K + 1) = 83) (J : Nat) (hJ : (ris s (K + 2)).2 = J) (hbad2 : inR s J 48 56 = false) (hlt3 : J < s.size) :
    Calls Tryd.prog 17 #[.string s] w fun e w' => RefParsed (.inr J) w e w' := by
  have hne := not_empty h0
  have hs' := hs
  unfold maxLen at hs'
  have e0 := bt_lt s 0 h0
  have k0 : ((s[0].toNat : Int) == 66) = true := by simp; omega
  clear e0
  have hb : inR s (ris s 1).2 48 56 = false := by rw [hK]; exact hbad
  have HK := hide' hK
  have HB := hide' hb
  clear hK hb
  have hb2 : inR s (ris s (K + 2)).2 48 56 = false := by rw [hJ]; exact hbad2
  have HJ := hide' hJ
  have HB2 := hide' hb2
  clear hJ hb2
  have g1 : ¬ (s.size : Int) ≤ (K : Int) := by omega
  have e1 := bt_lt s K hlt
  have g2 : ((s[K].toNat : Int) != 47) = false := by rw [bne_eq_false_iff_eq]; omega
  clear e1
  have g3 : ¬ (s.size : Int) ≤ (K : Int) + 1 := by omega
  have e2 := bt_lt s (K + 1) hlt2
  have g4 : ((s[K + 1].toNat : Int) != 83) = false := by rw [bne_eq_false_iff_eq]; omega
  clear e2
  have g5 : (J : Int) < (s.size : Int) := by omega
  go_enter Tryd.func17, Tryd.ntmps17
  go_wp2_with fail
  refine (rising_any s 1 1 _ rfl hs (by omega)).mono ?_
  rw [HB.out, HK.out]
  rintro e w1 ⟨rfl, rfl⟩
  go_wp2_with fail
  refine (rising_any s (K + 2) _ _ (by omega) hs (by omega)).mono ?_
  rw [HB2.out, HJ.out]
  rintro e w1 ⟨rfl, rfl⟩
  go_wp2
  refine bodyPost_ret (v := .tuple #[.agg zeroCells, .int .i64 ((J : Nat) : Int), .bool false]) (by simp [results, Tryd.results17, go_sem, zeroCells]) rfl ?_
  refine RefParsed.bad ?_
  repeat (first | refine Below.setCell ?_ (by simp <;> omega) _ | refine Below.alloc ?_ (by simp <;> omega) _ | exact Below.refl _ _)

set_option maxRecDepth 100000 in
set_option maxHeartbeats 1600000 in
theorem ref_B8 (s : ByteArray) (w : World) (hs : s.size ≤ maxLen) (h0 : 0 < s.size) (hk : bt s 0 = 66) (K : Nat) (hK : (ris s 1).2 = K) (hbad : inR s K 48 56 = false) (hlt : K < s.size) (hc : bt s K = 47) (hlt2 : K + 1 < s.size) (hc2 : bt s (K + 1) = 83) (J : Nat) (hJ : (ris s (K + 2)).2 = J) (hbad2 : inR s J 48 56 = false) (hge3 : ¬ J < s.size) :
    Calls Tryd.prog 17 #[.string s] w fun e w' => RefParsed (.inl ⟨1, (ris s 1).1, (ris s (K + 2)).1, 0, 0, [], ⟨#[]⟩⟩) w e w' := by
  have hne := not_empty h0
  have hs' := hs
  unfold maxLen at hs'
  have e0 := bt_lt s 0 h0
  have k0 : ((s[0].toNat : Int) == 66) = true := by simp; omega
  clear e0
  have hb : inR s (ris s 1).2 48 56 = false := by rw [hK]; exact hbad
  have HK := hide' hK
  have HB := hide' hb
  clear hK hb
  have hb2 : inR s (ris s (K + 2)).2 48 56 = false := by rw [hJ]; exact hbad2
  have HJ := hide' hJ
  have HB2 := hide' hb2
  clear hJ hb2
  have g1 : ¬ (s.size : Int) ≤ (K : Int) := by omega
  have e1 := bt_lt s K hlt
  have g2 : ((s[K].toNat : Int) != 47) = false := by rw [bne_eq_false_iff_eq]; omega
  clear e1
  have g3 : ¬ (s.size : Int) ≤ (K : Int) + 1 := by omega
  have e2 := bt_lt s (K + 1) hlt2
  have g4 : ((s[K + 1].toNat : Int) != 83) = false := by rw [bne_eq_false_iff_eq]; omega
  clear e2
  have g5 : ¬ (J : Int) < (s.size : Int) := by omega
  go_enter Tryd.func17, Tryd.ntmps17
  go_wp2_with fail
  refine (rising_any s 1 1 _ rfl hs (by omega)).mono ?_
  rw [HB.out, HK.out]
  rintro e w1 ⟨rfl, rfl⟩
  go_wp2_with fail
  refine (rising_any s (K + 2) _ _ (by omega) hs (by omega)).mono ?_
  rw [HB2.out, HJ.out]
  rintro e w1 ⟨rfl, rfl⟩
  go_wp2
  refine bodyPost_ret (v := .tuple #[Out.val ⟨1, (ris s 1).1, (ris s (K + 2)).1, 0, 0, [], ⟨#[]⟩⟩ (.slice none 0 0), .int .i64 0, .bool true]) (by simp [results, Tryd.results17, go_sem, Out.val]) rfl ?_
  refine ⟨_, rfl, Or.inl ⟨rfl, rfl⟩, ?_⟩
  repeat (first | refine Below.setCell ?_ (by simp <;> omega) _ | refine Below.alloc ?_ (by simp <;> omega) _ | exact Below.refl _ _)
end Go.Proofs.YtljdidimoagnhaaDoor

namespace Go.Proofs.YtljdidimoagnhaaDoor
open Go.RowKit
set_option linter.unusedVariables false

theorem life_reads (b : Nat) (s : ByteArray) (w : World) (h : At b s 1 w) (hs : s.size ≤ maxLen) (h1 : 1 ≤ s.size) :
    Calls Tryd.prog 186 #[.pointer (some ⟨b, 0, none⟩)] w fun e w' => Reads (lifeS s) b s w e w' := by
  cases hx : lifeS s with
  | inr a => exact (life_no b s w h hs h1 a hx).mono fun e w' q => q
  | inl x =>
    obtain ⟨o, p⟩ := x
    exact (life_any b s w h hs h1 o p hx).mono fun e w' ⟨he, ha, hr, hp, ht⟩ => ⟨_, he, Or.inl ⟨ht, rfl⟩, Fresh.nil _, ha, hr, hp⟩
theorem numbered_reads (b : Nat) (s : ByteArray) (w : World) (h : At b s 1 w) (hs : s.size ≤ maxLen) (h1 : 1 ≤ s.size) :
    Calls Tryd.prog 187 #[.pointer (some ⟨b, 0, none⟩)] w fun e w' => Reads (numberedS s) b s w e w' := by
  cases hx : numberedS s with
  | inr a => exact (numbered_no b s w h hs h1 a hx).mono fun e w' q => q
  | inl x =>
    obtain ⟨o, p⟩ := x
    exact (numbered_any b s w h hs h1 o p hx).mono fun e w' q => q

theorem set7_tab {w : World} {v : Value} {xs : List Int} (h : Tab w v xs) {g : Nat} {v0 v1 v2 v3 v4 v5 v6 : Value} {w0 : World} (hf : Fresh w0 v) (hg : g < w0.heap.size) :
    Tab (((((((w.setCell ⟨g, 0, none⟩ v0).setCell ⟨g, 1, none⟩ v1).setCell ⟨g, 2, none⟩ v2).setCell ⟨g, 3, none⟩ v3).setCell ⟨g, 4, none⟩ v4).setCell ⟨g, 5, none⟩ v5).setCell ⟨g, 6, none⟩ v6) v xs := by
  have hne : ∀ g' c, v = .slice (some ⟨g', 0, none⟩) xs.length c → g' ≠ g := fun g' c q => by have := hf g' _ c q; omega
  exact ((((((h.other _ hne).other _ hne).other _ hne).other _ hne).other _ hne).other _ hne).other _ hne
theorem Fresh.old {w w' : World} {v : Value} (h : Fresh w' v) (hs : w.heap.size ≤ w'.heap.size) : Fresh w v := fun g k c q => Nat.le_trans hs (h g k c q)

set_option maxHeartbeats 1600000 in
theorem ofKind_life (b : Nat) (s : ByteArray) (w : World) (h : At b s 0 w) (hs : s.size ≤ maxLen) (h0 : 0 < s.size) (hk : bt s 0 = 66) :
    Calls Tryd.prog 136 #[.pointer (some ⟨b, 0, none⟩)] w fun e w' => Reads (lifeS s) b s w e w' := by
  have hin : inR s 0 0 255 = true := inR_true.2 ⟨h0, by omega, by have := bt_le s 0; omega⟩
  have H0 := hide h
  have hlt := h.lt
  have e0 := bt_lt s 0 h0
  clear h
  have k0 : ((s[0].toNat : Int) == 66) = true := by simp; omega
  clear e0
  go_enter Tryd.func136, Tryd.ntmps136
  go_wp2_with fail
  refine (take_yes b s 0 0 255 _ (H0.out.alloc _) hs h0 hin).mono ?_
  rintro e w1 ⟨rfl, a1, r1⟩
  have A1 := hide a1
  have R1 := hide (show Rd b (w.alloc (.cells zeroCells 24)) w1 from r1)
  have hz : w.heap.size + 1 ≤ w1.heap.size := by have := r1.size; simpa using this
  clear a1 r1
  go_wp2_with fail
  refine (life_reads b s _ A1.out hs (by omega)).mono ?_
  cases hx : lifeS s with
  | inr a =>
    have HX := hide hx
    clear hx
    rintro e w2 ⟨rfl, a2, r2⟩
    go_wp2
    try rw [HX.out]
    exact ⟨rfl, Reads.bad a2 (R1.out.trans r2).un⟩
  | inl x =>
    obtain ⟨o, p⟩ := x
    have HX := hide hx
    clear hx
    rintro e w2 ⟨v, rfl, t2, f2, a2, r2, l2⟩
    obtain ⟨sa, sn, sc, rfl⟩ := t2.slice
    have R2 := R1.out.trans r2
    obtain ⟨hc, hf⟩ := R2.made hlt
    have c0 := hc 0
    have c1 := hc 1
    have c2 := hc 2
    have c3 := hc 3
    have c4 := hc 4
    have c5 := hc 5
    have c6 := hc 6
    simp [zeroCells] at c0 c1 c2 c3 c4 c5 c6
    have T2 := hide t2
    have F2 := hide f2
    have A2 := hide a2
    have R3 := hide R2
    have L2 := hide l2
    clear hc R2 t2 a2 r2 l2 f2
    unfold Out.val
    go_wp2
    refine bodyPost_ret (v := o.val (.slice sa sn sc)) (by simp [results, Tryd.results136, go_sem, Out.val, c0, c1, c2, c3, c4, c5, c6]) rfl ?_
    try rw [HX.out]
    exact ⟨_, rfl, set7_tab T2.out F2.out (by omega), F2.out.old (by omega), set7_at A2.out (by omega), set7_rd R3.out.un (by omega), L2.out⟩

set_option maxHeartbeats 1600000 in
theorem ofKind_numbered (b : Nat) (s : ByteArray) (w : World) (h : At b s 0 w) (hs : s.size ≤ maxLen) (h0 : 0 < s.size) (hk : bt s 0 = 87) :
    Calls Tryd.prog 136 #[.pointer (some ⟨b, 0, none⟩)] w fun e w' => Reads (numberedS s) b s w e w' := by
  have hin : inR s 0 0 255 = true := inR_true.2 ⟨h0, by omega, by have := bt_le s 0; omega⟩
  have H0 := hide h
  have hlt := h.lt
  have e0 := bt_lt s 0 h0
  clear h
  have k0 : ((s[0].toNat : Int) == 66) = false := by simp; omega
  have k1 : ((s[0].toNat : Int) == 87) = true := by simp; omega
  clear e0
  go_enter Tryd.func136, Tryd.ntmps136
  go_wp2_with fail
  refine (take_yes b s 0 0 255 _ (H0.out.alloc _) hs h0 hin).mono ?_
  rintro e w1 ⟨rfl, a1, r1⟩
  have A1 := hide a1
  have R1 := hide (show Rd b (w.alloc (.cells zeroCells 24)) w1 from r1)
  have hz : w.heap.size + 1 ≤ w1.heap.size := by have := r1.size; simpa using this
  clear a1 r1
  go_wp2_with fail
  refine (numbered_reads b s _ A1.out hs (by omega)).mono ?_
  cases hx : numberedS s with
  | inr a =>
    have HX := hide hx
    clear hx
    rintro e w2 ⟨rfl, a2, r2⟩
    go_wp2
    try rw [HX.out]
    exact ⟨rfl, Reads.bad a2 (R1.out.trans r2).un⟩
  | inl x =>
    obtain ⟨o, p⟩ := x
    have HX := hide hx
    clear hx
    rintro e w2 ⟨v, rfl, t2, f2, a2, r2, l2⟩
    obtain ⟨sa, sn, sc, rfl⟩ := t2.slice
    have R2 := R1.out.trans r2
    obtain ⟨hc, hf⟩ := R2.made hlt
    have c0 := hc 0
    have c1 := hc 1
    have c2 := hc 2
    have c3 := hc 3
    have c4 := hc 4
    have c5 := hc 5
    have c6 := hc 6
    simp [zeroCells] at c0 c1 c2 c3 c4 c5 c6
    have T2 := hide t2
    have F2 := hide f2
    have A2 := hide a2
    have R3 := hide R2
    have L2 := hide l2
    clear hc R2 t2 a2 r2 l2 f2
    unfold Out.val
    go_wp2
    refine bodyPost_ret (v := o.val (.slice sa sn sc)) (by simp [results, Tryd.results136, go_sem, Out.val, c0, c1, c2, c3, c4, c5, c6]) rfl ?_
    try rw [HX.out]
    exact ⟨_, rfl, set7_tab T2.out F2.out (by omega), F2.out.old (by omega), set7_at A2.out (by omega), set7_rd R3.out.un (by omega), L2.out⟩

set_option maxHeartbeats 1600000 in
theorem ofKind_tabled (b : Nat) (s : ByteArray) (w : World) (h : At b s 0 w) (hs : s.size ≤ maxLen) (h0 : 0 < s.size) (hk : bt s 0 = 76) :
    Calls Tryd.prog 136 #[.pointer (some ⟨b, 0, none⟩)] w fun e w' => Reads (tabledS s) b s w e w' := by
  have hin : inR s 0 0 255 = true := inR_true.2 ⟨h0, by omega, by have := bt_le s 0; omega⟩
  have H0 := hide h
  have hlt := h.lt
  have e0 := bt_lt s 0 h0
  clear h
  have k0 : ((s[0].toNat : Int) == 66) = false := by simp; omega
  have k1 : ((s[0].toNat : Int) == 87) = false := by simp; omega
  have k2 : ((s[0].toNat : Int) == 76) = true := by simp; omega
  clear e0
  go_enter Tryd.func136, Tryd.ntmps136
  go_wp2_with fail
  refine (take_yes b s 0 0 255 _ (H0.out.alloc _) hs h0 hin).mono ?_
  rintro e w1 ⟨rfl, a1, r1⟩
  have A1 := hide a1
  have R1 := hide (show Rd b (w.alloc (.cells zeroCells 24)) w1 from r1)
  have hz : w.heap.size + 1 ≤ w1.heap.size := by have := r1.size; simpa using this
  clear a1 r1
  go_wp2_with fail
  refine (tabled_any b s _ A1.out hs (by omega)).mono ?_
  cases hx : tabledS s with
  | inr a =>
    have HX := hide hx
    clear hx
    rintro e w2 ⟨rfl, a2, r2⟩
    go_wp2
    try rw [HX.out]
    exact ⟨rfl, Reads.bad a2 (R1.out.trans r2).un⟩
  | inl x =>
    obtain ⟨o, p⟩ := x
    have HX := hide hx
    clear hx
    rintro e w2 ⟨v, rfl, t2, f2, a2, r2, l2⟩
    obtain ⟨sa, sn, sc, rfl⟩ := t2.slice
    have R2 := R1.out.trans r2
    obtain ⟨hc, hf⟩ := R2.made hlt
    have c0 := hc 0
    have c1 := hc 1
    have c2 := hc 2
    have c3 := hc 3
    have c4 := hc 4
    have c5 := hc 5
    have c6 := hc 6
    simp [zeroCells] at c0 c1 c2 c3 c4 c5 c6
    have T2 := hide t2
    have F2 := hide f2
    have A2 := hide a2
    have R3 := hide R2
    have L2 := hide l2
    clear hc R2 t2 a2 r2 l2 f2
    unfold Out.val
    go_wp2
    refine bodyPost_ret (v := o.val (.slice sa sn sc)) (by simp [results, Tryd.results136, go_sem, Out.val, c0, c1, c2, c3, c4, c5, c6]) rfl ?_
    try rw [HX.out]
    exact ⟨_, rfl, set7_tab T2.out F2.out (by omega), F2.out.old (by omega), set7_at A2.out (by omega), set7_rd R3.out.un (by omega), L2.out⟩

set_option maxHeartbeats 1600000 in
theorem ofKind_ant (b : Nat) (s : ByteArray) (w : World) (h : At b s 0 w) (hs : s.size ≤ maxLen) (h0 : 0 < s.size) (hk : bt s 0 = 84) :
    Calls Tryd.prog 136 #[.pointer (some ⟨b, 0, none⟩)] w fun e w' => Reads (antS s) b s w e w' := by
  have hin : inR s 0 0 255 = true := inR_true.2 ⟨h0, by omega, by have := bt_le s 0; omega⟩
  have H0 := hide h
  have hlt := h.lt
  have e0 := bt_lt s 0 h0
  clear h
  have k0 : ((s[0].toNat : Int) == 66) = false := by simp; omega
  have k1 : ((s[0].toNat : Int) == 87) = false := by simp; omega
  have k2 : ((s[0].toNat : Int) == 76) = false := by simp; omega
  have k3 : ((s[0].toNat : Int) == 84) = true := by simp; omega
  clear e0
  go_enter Tryd.func136, Tryd.ntmps136
  go_wp2_with fail
  refine (take_yes b s 0 0 255 _ (H0.out.alloc _) hs h0 hin).mono ?_
  rintro e w1 ⟨rfl, a1, r1⟩
  have A1 := hide a1
  have R1 := hide (show Rd b (w.alloc (.cells zeroCells 24)) w1 from r1)
  have hz : w.heap.size + 1 ≤ w1.heap.size := by have := r1.size; simpa using this
  clear a1 r1
  go_wp2_with fail
  refine (ant_any b s _ A1.out hs (by omega)).mono ?_
  cases hx : antS s with
  | inr a =>
    have HX := hide hx
    clear hx
    rintro e w2 ⟨rfl, a2, r2⟩
    go_wp2
    try rw [HX.out]
    exact ⟨rfl, Reads.bad a2 (R1.out.trans r2).un⟩
  | inl x =>
    obtain ⟨o, p⟩ := x
    have HX := hide hx
    clear hx
    rintro e w2 ⟨v, rfl, t2, f2, a2, r2, l2⟩
    obtain ⟨sa, sn, sc, rfl⟩ := t2.slice
    have R2 := R1.out.trans r2
    obtain ⟨hc, hf⟩ := R2.made hlt
    have c0 := hc 0
    have c1 := hc 1
    have c2 := hc 2
    have c3 := hc 3
    have c4 := hc 4
    have c5 := hc 5
    have c6 := hc 6
    simp [zeroCells] at c0 c1 c2 c3 c4 c5 c6
    have T2 := hide t2
    have F2 := hide f2
    have A2 := hide a2
    have R3 := hide R2
    have L2 := hide l2
    clear hc R2 t2 a2 r2 l2 f2
    unfold Out.val
    go_wp2
    refine bodyPost_ret (v := o.val (.slice sa sn sc)) (by simp [results, Tryd.results136, go_sem, Out.val, c0, c1, c2, c3, c4, c5, c6]) rfl ?_
    try rw [HX.out]
    exact ⟨_, rfl, set7_tab T2.out F2.out (by omega), F2.out.old (by omega), set7_at A2.out (by omega), set7_rd R3.out.un (by omega), L2.out⟩

end Go.Proofs.YtljdidimoagnhaaDoor

