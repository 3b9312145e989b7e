/-
  What the last text of this claim leans on, part 43: Ref6.
-/
import Derived.Test.YtljdidimoagnhaaDoorJk42
namespace Go.Proofs.YtljdidimoagnhaaDoor
open Go.RowKit
set_option linter.unusedVariables false

/-- What a kind's reading comes to when the whole text is asked for. -/
def fin (s : ByteArray) (x : (Out × Nat) ⊕ Nat) : Out ⊕ Nat :=
  match x with
  | .inr a => .inr a
  | .inl (o, p) => if p = s.size then .inl o else .inr p
theorem parseS_fin (s : ByteArray) : parseS s = fin s (kindS s) := rfl

set_option maxRecDepth 100000 in
set_option maxHeartbeats 1600000 in
theorem ref_L1a (s : ByteArray) (w : World) (hs : s.size ≤ maxLen) (h0 : 0 < s.size) (hk : bt s 0 = 76) (hge : ¬ 1 < s.size) :
    Calls Tryd.prog 17 #[.string s] w fun e w' => RefParsed (.inr 1) w e w' := by
  have hne := not_empty h0
  have hs' := hs
  unfold maxLen at hs'
  have e0 := bt_lt s 0 h0
  have k0 : ((s[0].toNat : Int) == 66) = false := by simp; omega
  have k1 : ((s[0].toNat : Int) == 87) = false := by simp; omega
  have k2 : ((s[0].toNat : Int) == 76) = true := by simp; omega
  clear e0
  have a1 : (s.size : Int) ≤ 1 := by omega
  go_enter Tryd.func17, Tryd.ntmps17
  go_wp2
  refine bodyPost_ret (v := .tuple #[.agg zeroCells, .int .i64 ((1 : Nat) : Int), .bool false]) (by simp [results, Tryd.results17, go_sem, zeroCells]) rfl ?_
  refine RefParsed.bad ?_
  repeat (first | refine Below.setCell ?_ (by simp <;> omega) _ | refine Below.alloc ?_ (by simp <;> omega) _ | exact Below.refl _ _)

set_option maxRecDepth 100000 in
set_option maxHeartbeats 1600000 in
theorem ref_L1b (s : ByteArray) (w : World) (hs : s.size ≤ maxLen) (h0 : 0 < s.size) (hk : bt s 0 = 76) (hlt1 : 1 < s.size) (hc1 : ¬ bt s 1 = 32) :
    Calls Tryd.prog 17 #[.string s] w fun e w' => RefParsed (.inr 1) w e w' := by
  have hne := not_empty h0
  have hs' := hs
  unfold maxLen at hs'
  have e0 := bt_lt s 0 h0
  have k0 : ((s[0].toNat : Int) == 66) = false := by simp; omega
  have k1 : ((s[0].toNat : Int) == 87) = false := by simp; omega
  have k2 : ((s[0].toNat : Int) == 76) = true := by simp; omega
  clear e0
  have a1 : ¬ (s.size : Int) ≤ 1 := by omega
  have e1 := bt_lt s 1 hlt1
  have a2 : ((s[1].toNat : Int) != 32) = true := by rw [bne_iff_ne]; omega
  clear e1
  go_enter Tryd.func17, Tryd.ntmps17
  go_wp2
  refine bodyPost_ret (v := .tuple #[.agg zeroCells, .int .i64 ((1 : Nat) : Int), .bool false]) (by simp [results, Tryd.results17, go_sem, zeroCells]) rfl ?_
  refine RefParsed.bad ?_
  repeat (first | refine Below.setCell ?_ (by simp <;> omega) _ | refine Below.alloc ?_ (by simp <;> omega) _ | exact Below.refl _ _)

set_option maxRecDepth 100000 in
set_option maxHeartbeats 1600000 in
theorem ref_L2 (s : ByteArray) (w : World) (hs : s.size ≤ maxLen) (h0 : 0 < s.size) (hk : bt s 0 = 76) (hlt1 : 1 < s.size) (hc1 : bt s 1 = 32) (hn : numOk s 2 2 4 = false) :
    Calls Tryd.prog 17 #[.string s] w fun e w' => RefParsed (.inr 2) w e w' := by
  have hne := not_empty h0
  have hs' := hs
  unfold maxLen at hs'
  have e0 := bt_lt s 0 h0
  have k0 : ((s[0].toNat : Int) == 66) = false := by simp; omega
  have k1 : ((s[0].toNat : Int) == 87) = false := by simp; omega
  have k2 : ((s[0].toNat : Int) == 76) = true := by simp; omega
  clear e0
  have a1 : ¬ (s.size : Int) ≤ 1 := by omega
  have e1 := bt_lt s 1 hlt1
  have a2 : ((s[1].toNat : Int) != 32) = false := by rw [bne_eq_false_iff_eq]; omega
  clear e1
  go_enter Tryd.func17, Tryd.ntmps17
  go_wp2_with fail
  refine (Number_any s 2 _ _ (by omega) hs (by omega)).mono ?_
  rintro e w1 ⟨N, rfl, hN, rfl⟩
  have h1 := hN.lo
  have h2 := hN.hi
  rcases hN.no 2 4 (by omega) hn with q | q
  · have q' : N < 2 := by omega
    clear hN q
    go_wp2
    refine bodyPost_ret (v := .tuple #[.agg zeroCells, .int .i64 ((2 : Nat) : Int), .bool false]) (by simp [results, Tryd.results17, go_sem, zeroCells]) rfl ?_
    refine RefParsed.bad ?_
    repeat (first | refine Below.setCell ?_ (by simp <;> omega) _ | refine Below.alloc ?_ (by simp <;> omega) _ | exact Below.refl _ _)
  · have q' : 4 < N := by omega
    have q2 : ¬ N < 2 := by omega
    clear hN q
    go_wp2
    refine bodyPost_ret (v := .tuple #[.agg zeroCells, .int .i64 ((2 : Nat) : Int), .bool false]) (by simp [results, Tryd.results17, go_sem, zeroCells]) rfl ?_
    refine RefParsed.bad ?_
    repeat (first | refine Below.setCell ?_ (by simp <;> omega) _ | refine Below.alloc ?_ (by simp <;> omega) _ | exact Below.refl _ _)

set_option maxRecDepth 100000 in
set_option maxHeartbeats 1600000 in
theorem ref_L3a (s : ByteArray) (w : World) (hs : s.size ≤ maxLen) (h0 : 0 < s.size) (hk : bt s 0 = 76) (hlt1 : 1 < s.size) (hc1 : bt s 1 = 32) (K : Nat) (hK : (num s 2).2 = K) (hn : numOk s 2 2 4 = true) (hge : ¬ K < s.size) :
    Calls Tryd.prog 17 #[.string s] w fun e w' => RefParsed (.inr K) w e w' := by
  have hne := not_empty h0
  have hs' := hs
  unfold maxLen at hs'
  have e0 := bt_lt s 0 h0
  have k0 : ((s[0].toNat : Int) == 66) = false := by simp; omega
  have k1 : ((s[0].toNat : Int) == 87) = false := by simp; omega
  have k2 : ((s[0].toNat : Int) == 76) = true := by simp; omega
  clear e0
  have a1 : ¬ (s.size : Int) ≤ 1 := by omega
  have e1 := bt_lt s 1 hlt1
  have a2 : ((s[1].toNat : Int) != 32) = false := by rw [bne_eq_false_iff_eq]; omega
  clear e1
  have HK := hide' hK
  clear hK
  have c1 : (s.size : Int) ≤ (K : Int) := by omega
  go_enter Tryd.func17, Tryd.ntmps17
  go_wp2_with fail
  refine (Number_any s 2 _ _ (by omega) hs (by omega)).mono ?_
  rw [HK.out]
  rintro e w1 ⟨N, rfl, hN, rfl⟩
  obtain ⟨h1, h2, h3⟩ := hN.ok 2 4 (by omega) hn
  obtain ⟨n, hn'⟩ : ∃ n, n = (num s 2).1 := ⟨_, rfl⟩
  rw [← hn'] at h1
  subst h1
  have b1 : ¬ (n : Int) < 2 := by omega
  have b2 : ¬ 4 < (n : Int) := by omega
  have HV := hide' hn'
  clear hN h2 h3 hn'
  go_wp2
  refine bodyPost_ret (v := .tuple #[.agg zeroCells, .int .i64 ((K : Nat) : Int), .bool false]) (by simp [results, Tryd.results17, go_sem, zeroCells]) rfl ?_
  refine RefParsed.bad ?_
  repeat (first | refine Below.setCell ?_ (by simp <;> omega) _ | refine Below.alloc ?_ (by simp <;> omega) _ | exact Below.refl _ _)

set_option maxRecDepth 100000 in
set_option maxHeartbeats 1600000 in
theorem ref_L3b (s : ByteArray) (w : World) (hs : s.size ≤ maxLen) (h0 : 0 < s.size) (hk : bt s 0 = 76) (hlt1 : 1 < s.size) (hc1 : bt s 1 = 32) (K : Nat) (hK : (num s 2).2 = K) (hn : numOk s 2 2 4 = true) (hltK : K < s.size) (hcK : ¬ bt s K = 32) :
    Calls Tryd.prog 17 #[.string s] w fun e w' => RefParsed (.inr K) w e w' := by
  have hne := not_empty h0
  have hs' := hs
  unfold maxLen at hs'
  have e0 := bt_lt s 0 h0
  have k0 : ((s[0].toNat : Int) == 66) = false := by simp; omega
  have k1 : ((s[0].toNat : Int) == 87) = false := by simp; omega
  have k2 : ((s[0].toNat : Int) == 76) = true := by simp; omega
  clear e0
  have a1 : ¬ (s.size : Int) ≤ 1 := by omega
  have e1 := bt_lt s 1 hlt1
  have a2 : ((s[1].toNat : Int) != 32) = false := by rw [bne_eq_false_iff_eq]; omega
  clear e1
  have HK := hide' hK
  clear hK
  have c1 : ¬ (s.size : Int) ≤ (K : Int) := by omega
  have e2 := bt_lt s K hltK
  have c2 : ((s[K].toNat : Int) != 32) = true := by rw [bne_iff_ne]; omega
  clear e2
  go_enter Tryd.func17, Tryd.ntmps17
  go_wp2_with fail
  refine (Number_any s 2 _ _ (by omega) hs (by omega)).mono ?_
  rw [HK.out]
  rintro e w1 ⟨N, rfl, hN, rfl⟩
  obtain ⟨h1, h2, h3⟩ := hN.ok 2 4 (by omega) hn
  obtain ⟨n, hn'⟩ : ∃ n, n = (num s 2).1 := ⟨_, rfl⟩
  rw [← hn'] at h1
  subst h1
  have b1 : ¬ (n : Int) < 2 := by omega
  have b2 : ¬ 4 < (n : Int) := by omega
  have HV := hide' hn'
  clear hN h2 h3 hn'
  go_wp2
  refine bodyPost_ret (v := .tuple #[.agg zeroCells, .int .i64 ((K : Nat) : Int), .bool false]) (by simp [results, Tryd.results17, go_sem, zeroCells]) rfl ?_
  refine RefParsed.bad ?_
  repeat (first | refine Below.setCell ?_ (by simp <;> omega) _ | refine Below.alloc ?_ (by simp <;> omega) _ | exact Below.refl _ _)

set_option maxRecDepth 100000 in
set_option maxHeartbeats 1600000 in
theorem ref_L4 (s : ByteArray) (w : World) (hs : s.size ≤ maxLen) (h0 : 0 < s.size) (hk : bt s 0 = 76) (hlt1 : 1 < s.size) (hc1 : bt s 1 = 32) (K : Nat) (hK : (num s 2).2 = K) (hn : numOk s 2 2 4 = true) (hltK : K < s.size) (hcK : bt s K = 32) (hm : numOk s (K + 1) 0 2 = false) :
    Calls Tryd.prog 17 #[.string s] w fun e w' => RefParsed (.inr (K + 1)) w e w' := by
  have hne := not_empty h0
  have hs' := hs
  unfold maxLen at hs'
  have e0 := bt_lt s 0 h0
  have k0 : ((s[0].toNat : Int) == 66) = false := by simp; omega
  have k1 : ((s[0].toNat : Int) == 87) = false := by simp; omega
  have k2 : ((s[0].toNat : Int) == 76) = true := by simp; omega
  clear e0
  have a1 : ¬ (s.size : Int) ≤ 1 := by omega
  have e1 := bt_lt s 1 hlt1
  have a2 : ((s[1].toNat : Int) != 32) = false := by rw [bne_eq_false_iff_eq]; omega
  clear e1
  have HK := hide' hK
  clear hK
  have c1 : ¬ (s.size : Int) ≤ (K : Int) := by omega
  have e2 := bt_lt s K hltK
  have c2 : ((s[K].toNat : Int) != 32) = false := by rw [bne_eq_false_iff_eq]; omega
  clear e2
  go_enter Tryd.func17, Tryd.ntmps17
  go_wp2_with fail
  refine (Number_any s 2 _ _ (by omega) hs (by omega)).mono ?_
  rw [HK.out]
  rintro e w1 ⟨N, rfl, hN, rfl⟩
  obtain ⟨h1, h2, h3⟩ := hN.ok 2 4 (by omega) hn
  obtain ⟨n, hn'⟩ : ∃ n, n = (num s 2).1 := ⟨_, rfl⟩
  rw [← hn'] at h1
  subst h1
  have b1 : ¬ (n : Int) < 2 := by omega
  have b2 : ¬ 4 < (n : Int) := by omega
  have HV := hide' hn'
  clear hN h2 h3 hn'
  go_wp2_with fail
  refine (Number_any s (K + 1) _ _ (by omega) hs (by omega)).mono ?_
  rintro e w2 ⟨M, rfl, hM, rfl⟩
  have h1 := hM.lo
  have h2 := hM.hi
  rcases hM.no 0 2 (by omega) hm with q | q
  · have q' : M < 0 := by omega
    clear hM q
    go_wp2
    refine bodyPost_ret (v := .tuple #[.agg zeroCells, .int .i64 ((K + 1 : Nat) : Int), .bool false]) (by simp [results, Tryd.results17, go_sem, zeroCells]) rfl ?_
    refine RefParsed.bad ?_
    repeat (first | refine Below.setCell ?_ (by simp <;> omega) _ | refine Below.alloc ?_ (by simp <;> omega) _ | exact Below.refl _ _)
  · have q' : 2 < M := by omega
    have q2 : ¬ M < 0 := by omega
    clear hM q
    go_wp2
    refine bodyPost_ret (v := .tuple #[.agg zeroCells, .int .i64 ((K + 1 : Nat) : Int), .bool false]) (by simp [results, Tryd.results17, go_sem, zeroCells]) rfl ?_
    refine RefParsed.bad ?_
    repeat (first | refine Below.setCell ?_ (by simp <;> omega) _ | refine Below.alloc ?_ (by simp <;> omega) _ | exact Below.refl _ _)

set_option maxRecDepth 100000 in
set_option maxHeartbeats 1600000 in
theorem ref_L5a (s : ByteArray) (w : World) (hs : s.size ≤ maxLen) (h0 : 0 < s.size) (hk : bt s 0 = 76) (hlt1 : 1 < s.size) (hc1 : bt s 1 = 32) (K : Nat) (hK : (num s 2).2 = K) (hn : numOk s 2 2 4 = true) (hltK : K < s.size) (hcK : bt s K = 32) (J : Nat) (hJ : (num s (K + 1)).2 = J) (hm : numOk s (K + 1) 0 2 = true) (hge : ¬ J < s.size) :
    Calls Tryd.prog 17 #[.string s] w fun e w' => RefParsed (.inr J) w e w' := by
  have hne := not_empty h0
  have hs' := hs
  unfold maxLen at hs'
  have e0 := bt_lt s 0 h0
  have k0 : ((s[0].toNat : Int) == 66) = false := by simp; omega
  have k1 : ((s[0].toNat : Int) == 87) = false := by simp; omega
  have k2 : ((s[0].toNat : Int) == 76) = true := by simp; omega
  clear e0
  have a1 : ¬ (s.size : Int) ≤ 1 := by omega
  have e1 := bt_lt s 1 hlt1
  have a2 : ((s[1].toNat : Int) != 32) = false := by rw [bne_eq_false_iff_eq]; omega
  clear e1
  have HK := hide' hK
  clear hK
  have c1 : ¬ (s.size : Int) ≤ (K : Int) := by omega
  have e2 := bt_lt s K hltK
  have c2 : ((s[K].toNat : Int) != 32) = false := by rw [bne_eq_false_iff_eq]; omega
  clear e2
  have HJ := hide' hJ
  clear hJ
  have f1 : (s.size : Int) ≤ (J : Int) := by omega
  go_enter Tryd.func17, Tryd.ntmps17
  go_wp2_with fail
  refine (Number_any s 2 _ _ (by omega) hs (by omega)).mono ?_
  rw [HK.out]
  rintro e w1 ⟨N, rfl, hN, rfl⟩
  obtain ⟨h1, h2, h3⟩ := hN.ok 2 4 (by omega) hn
  obtain ⟨n, hn'⟩ : ∃ n, n = (num s 2).1 := ⟨_, rfl⟩
  rw [← hn'] at h1
  subst h1
  have b1 : ¬ (n : Int) < 2 := by omega
  have b2 : ¬ 4 < (n : Int) := by omega
  have HV := hide' hn'
  clear hN h2 h3 hn'
  go_wp2_with fail
  refine (Number_any s (K + 1) _ _ (by omega) hs (by omega)).mono ?_
  rw [HJ.out]
  rintro e w2 ⟨M, rfl, hM, rfl⟩
  obtain ⟨h1, h2, h3⟩ := hM.ok 0 2 (by omega) hm
  obtain ⟨m, hm'⟩ : ∃ m, m = (num s (K + 1)).1 := ⟨_, rfl⟩
  rw [← hm'] at h1
  subst h1
  have d1 : ¬ (m : Int) < 0 := by omega
  have d2 : ¬ 2 < (m : Int) := by omega
  have HW := hide' hm'
  clear hM h2 h3 hm'
  go_wp2
  refine bodyPost_ret (v := .tuple #[.agg zeroCells, .int .i64 ((J : Nat) : Int), .bool false]) (by simp [results, Tryd.results17, go_sem, zeroCells]) rfl ?_
  refine RefParsed.bad ?_
  repeat (first | refine Below.setCell ?_ (by simp <;> omega) _ | refine Below.alloc ?_ (by simp <;> omega) _ | exact Below.refl _ _)

set_option maxRecDepth 100000 in
set_option maxHeartbeats 1600000 in
theorem ref_L5b (s : ByteArray) (w : World) (hs : s.size ≤ maxLen) (h0 : 0 < s.size) (hk : bt s 0 = 76) (hlt1 : 1 < s.size) (hc1 : bt s 1 = 32) (K : Nat) (hK : (num s 2).2 = K) (hn : numOk s 2 2 4 = true) (hltK : K < s.size) (hcK : bt s K = 32) (J : Nat) (hJ : (num s (K + 1)).2 = J) (hm : numOk s (K + 1) 0 2 = true) (hltJ : J < s.size) (hcJ : ¬ bt s J = 32) :
    Calls Tryd.prog 17 #[.string s] w fun e w' => RefParsed (.inr J) w e w' := by
  have hne := not_empty h0
  have hs' := hs
  unfold maxLen at hs'
  have e0 := bt_lt s 0 h0
  have k0 : ((s[0].toNat : Int) == 66) = false := by simp; omega
  have k1 : ((s[0].toNat : Int) == 87) = false := by simp; omega
  have k2 : ((s[0].toNat : Int) == 76) = true := by simp; omega
  clear e0
  have a1 : ¬ (s.size : Int) ≤ 1 := by omega
  have e1 := bt_lt s 1 hlt1
  have a2 : ((s[1].toNat : Int) != 32) = false := by rw [bne_eq_false_iff_eq]; omega
  clear e1
  have HK := hide' hK
  clear hK
  have c1 : ¬ (s.size : Int) ≤ (K : Int) := by omega
  have e2 := bt_lt s K hltK
  have c2 : ((s[K].toNat : Int) != 32) = false := by rw [bne_eq_false_iff_eq]; omega
  clear e2
  have HJ := hide' hJ
  clear hJ
  have f1 : ¬ (s.size : Int) ≤ (J : Int) := by omega
  have e3 := bt_lt s J hltJ
  have f2 : ((s[J].toNat : Int) != 32) = true := by rw [bne_iff_ne]; omega
  clear e3
  go_enter Tryd.func17, Tryd.ntmps17
  go_wp2_with fail
  refine (Number_any s 2 _ _ (by omega) hs (by omega)).mono ?_
  rw [HK.out]
  rintro e w1 ⟨N, rfl, hN, rfl⟩
  obtain ⟨h1, h2, h3⟩ := hN.ok 2 4 (by omega) hn
  obtain ⟨n, hn'⟩ : ∃ n, n = (num s 2).1 := ⟨_, rfl⟩
  rw [← hn'] at h1
  subst h1
  have b1 : ¬ (n : Int) < 2 := by omega
  have b2 : ¬ 4 < (n : Int) := by omega
  have HV := hide' hn'
  clear hN h2 h3 hn'
  go_wp2_with fail
  refine (Number_any s (K + 1) _ _ (by omega) hs (by omega)).mono ?_
  rw [HJ.out]
  rintro e w2 ⟨M, rfl, hM, rfl⟩
  obtain ⟨h1, h2, h3⟩ := hM.ok 0 2 (by omega) hm
  obtain ⟨m, hm'⟩ : ∃ m, m = (num s (K + 1)).1 := ⟨_, rfl⟩
  rw [← hm'] at h1
  subst h1
  have d1 : ¬ (m : Int) < 0 := by omega
  have d2 : ¬ 2 < (m : Int) := by omega
  have HW := hide' hm'
  clear hM h2 h3 hm'
  go_wp2
  refine bodyPost_ret (v := .tuple #[.agg zeroCells, .int .i64 ((J : Nat) : Int), .bool false]) (by simp [results, Tryd.results17, go_sem, zeroCells]) rfl ?_
  refine RefParsed.bad ?_
  repeat (first | refine Below.setCell ?_ (by simp <;> omega) _ | refine Below.alloc ?_ (by simp <;> omega) _ | exact Below.refl _ _)

end Go.Proofs.YtljdidimoagnhaaDoor

