/-
  What the last text of this claim leans on, part 19: Rk5, Rk6.
-/
import Derived.Test.YtljdidimoagnhaaDoorJu5
import Derived.Test.YtljdidimoagnhaaDoorJu13
namespace Go.Proofs.YtljdidimoagnhaaDoor
open Go.RowKit
set_option linter.unusedVariables false

theorem life_reads (b : Nat) (s : ByteArray) (w : World) (h : At b s 1 w) (hs : s.size ≤ maxLen) (h1 : 1 ≤ s.size) :
    Calls Tryd.prog 186 #[.pointer (some ⟨b, 0, none⟩)] w fun e w' => Reads (lifeS s) b s w e w' := by
  cases hx : lifeS s with
  | inr a => exact (life_no b s w h hs h1 a hx).mono fun e w' q => q
  | inl x =>
    obtain ⟨o, p⟩ := x
    exact (life_any b s w h hs h1 o p hx).mono fun e w' ⟨he, ha, hr, hp, ht⟩ => ⟨_, he, Or.inl ⟨ht, rfl⟩, Fresh.nil _, ha, hr, hp⟩
theorem numbered_reads (b : Nat) (s : ByteArray) (w : World) (h : At b s 1 w) (hs : s.size ≤ maxLen) (h1 : 1 ≤ s.size) :
    Calls Tryd.prog 187 #[.pointer (some ⟨b, 0, none⟩)] w fun e w' => Reads (numberedS s) b s w e w' := by
  cases hx : numberedS s with
  | inr a => exact (numbered_no b s w h hs h1 a hx).mono fun e w' q => q
  | inl x =>
    obtain ⟨o, p⟩ := x
    exact (numbered_any b s w h hs h1 o p hx).mono fun e w' q => q

theorem set7_tab {w : World} {v : Value} {xs : List Int} (h : Tab w v xs) {g : Nat} {v0 v1 v2 v3 v4 v5 v6 : Value} {w0 : World} (hf : Fresh w0 v) (hg : g < w0.heap.size) :
    Tab (((((((w.setCell ⟨g, 0, none⟩ v0).setCell ⟨g, 1, none⟩ v1).setCell ⟨g, 2, none⟩ v2).setCell ⟨g, 3, none⟩ v3).setCell ⟨g, 4, none⟩ v4).setCell ⟨g, 5, none⟩ v5).setCell ⟨g, 6, none⟩ v6) v xs := by
  have hne : ∀ g' c, v = .slice (some ⟨g', 0, none⟩) xs.length c → g' ≠ g := fun g' c q => by have := hf g' _ c q; omega
  exact ((((((h.other _ hne).other _ hne).other _ hne).other _ hne).other _ hne).other _ hne).other _ hne
theorem Fresh.old {w w' : World} {v : Value} (h : Fresh w' v) (hs : w.heap.size ≤ w'.heap.size) : Fresh w v := fun g k c q => Nat.le_trans hs (h g k c q)

set_option maxHeartbeats 1600000 in
theorem ofKind_life (b : Nat) (s : ByteArray) (w : World) (h : At b s 0 w) (hs : s.size ≤ maxLen) (h0 : 0 < s.size) (hk : bt s 0 = 66) :
    Calls Tryd.prog 136 #[.pointer (some ⟨b, 0, none⟩)] w fun e w' => Reads (lifeS s) b s w e w' := by
  have hin : inR s 0 0 255 = true := inR_true.2 ⟨h0, by omega, by have := bt_le s 0; omega⟩
  have H0 := hide h
  have hlt := h.lt
  have e0 := bt_lt s 0 h0
  clear h
  have k0 : ((s[0].toNat : Int) == 66) = true := by simp; omega
  clear e0
  go_enter Tryd.func136, Tryd.ntmps136
  go_wp2_with fail
  refine (take_yes b s 0 0 255 _ (H0.out.alloc _) hs h0 hin).mono ?_
  rintro e w1 ⟨rfl, a1, r1⟩
  have A1 := hide a1
  have R1 := hide (show Rd b (w.alloc (.cells zeroCells 24)) w1 from r1)
  have hz : w.heap.size + 1 ≤ w1.heap.size := by have := r1.size; simpa using this
  clear a1 r1
  go_wp2_with fail
  refine (life_reads b s _ A1.out hs (by omega)).mono ?_
  cases hx : lifeS s with
  | inr a =>
    have HX := hide hx
    clear hx
    rintro e w2 ⟨rfl, a2, r2⟩
    go_wp2
    try rw [HX.out]
    exact ⟨rfl, Reads.bad a2 (R1.out.trans r2).un⟩
  | inl x =>
    obtain ⟨o, p⟩ := x
    have HX := hide hx
    clear hx
    rintro e w2 ⟨v, rfl, t2, f2, a2, r2, l2⟩
    obtain ⟨sa, sn, sc, rfl⟩ := t2.slice
    have R2 := R1.out.trans r2
    obtain ⟨hc, hf⟩ := R2.made hlt
    have c0 := hc 0
    have c1 := hc 1
    have c2 := hc 2
    have c3 := hc 3
    have c4 := hc 4
    have c5 := hc 5
    have c6 := hc 6
    simp [zeroCells] at c0 c1 c2 c3 c4 c5 c6
    have T2 := hide t2
    have F2 := hide f2
    have A2 := hide a2
    have R3 := hide R2
    have L2 := hide l2
    clear hc R2 t2 a2 r2 l2 f2
    unfold Out.val
    go_wp2
    refine bodyPost_ret (v := o.val (.slice sa sn sc)) (by simp [results, Tryd.results136, go_sem, Out.val, c0, c1, c2, c3, c4, c5, c6]) rfl ?_
    try rw [HX.out]
    exact ⟨_, rfl, set7_tab T2.out F2.out (by omega), F2.out.old (by omega), set7_at A2.out (by omega), set7_rd R3.out.un (by omega), L2.out⟩

set_option maxHeartbeats 1600000 in
theorem ofKind_numbered (b : Nat) (s : ByteArray) (w : World) (h : At b s 0 w) (hs : s.size ≤ maxLen) (h0 : 0 < s.size) (hk : bt s 0 = 87) :
    Calls Tryd.prog 136 #[.pointer (some ⟨b, 0, none⟩)] w fun e w' => Reads (numberedS s) b s w e w' := by
  have hin : inR s 0 0 255 = true := inR_true.2 ⟨h0, by omega, by have := bt_le s 0; omega⟩
  have H0 := hide h
  have hlt := h.lt
  have e0 := bt_lt s 0 h0
  clear h
  have k0 : ((s[0].toNat : Int) == 66) = false := by simp; omega
  have k1 : ((s[0].toNat : Int) == 87) = true := by simp; omega
  clear e0
  go_enter Tryd.func136, Tryd.ntmps136
  go_wp2_with fail
  refine (take_yes b s 0 0 255 _ (H0.out.alloc _) hs h0 hin).mono ?_
  rintro e w1 ⟨rfl, a1, r1⟩
  have A1 := hide a1
  have R1 := hide (show Rd b (w.alloc (.cells zeroCells 24)) w1 from r1)
  have hz : w.heap.size + 1 ≤ w1.heap.size := by have := r1.size; simpa using this
  clear a1 r1
  go_wp2_with fail
  refine (numbered_reads b s _ A1.out hs (by omega)).mono ?_
  cases hx : numberedS s with
  | inr a =>
    have HX := hide hx
    clear hx
    rintro e w2 ⟨rfl, a2, r2⟩
    go_wp2
    try rw [HX.out]
    exact ⟨rfl, Reads.bad a2 (R1.out.trans r2).un⟩
  | inl x =>
    obtain ⟨o, p⟩ := x
    have HX := hide hx
    clear hx
    rintro e w2 ⟨v, rfl, t2, f2, a2, r2, l2⟩
    obtain ⟨sa, sn, sc, rfl⟩ := t2.slice
    have R2 := R1.out.trans r2
    obtain ⟨hc, hf⟩ := R2.made hlt
    have c0 := hc 0
    have c1 := hc 1
    have c2 := hc 2
    have c3 := hc 3
    have c4 := hc 4
    have c5 := hc 5
    have c6 := hc 6
    simp [zeroCells] at c0 c1 c2 c3 c4 c5 c6
    have T2 := hide t2
    have F2 := hide f2
    have A2 := hide a2
    have R3 := hide R2
    have L2 := hide l2
    clear hc R2 t2 a2 r2 l2 f2
    unfold Out.val
    go_wp2
    refine bodyPost_ret (v := o.val (.slice sa sn sc)) (by simp [results, Tryd.results136, go_sem, Out.val, c0, c1, c2, c3, c4, c5, c6]) rfl ?_
    try rw [HX.out]
    exact ⟨_, rfl, set7_tab T2.out F2.out (by omega), F2.out.old (by omega), set7_at A2.out (by omega), set7_rd R3.out.un (by omega), L2.out⟩

set_option maxHeartbeats 1600000 in
theorem ofKind_tabled (b : Nat) (s : ByteArray) (w : World) (h : At b s 0 w) (hs : s.size ≤ maxLen) (h0 : 0 < s.size) (hk : bt s 0 = 76) :
    Calls Tryd.prog 136 #[.pointer (some ⟨b, 0, none⟩)] w fun e w' => Reads (tabledS s) b s w e w' := by
  have hin : inR s 0 0 255 = true := inR_true.2 ⟨h0, by omega, by have := bt_le s 0; omega⟩
  have H0 := hide h
  have hlt := h.lt
  have e0 := bt_lt s 0 h0
  clear h
  have k0 : ((s[0].toNat : Int) == 66) = false := by simp; omega
  have k1 : ((s[0].toNat : Int) == 87) = false := by simp; omega
  have k2 : ((s[0].toNat : Int) == 76) = true := by simp; omega
  clear e0
  go_enter Tryd.func136, Tryd.ntmps136
  go_wp2_with fail
  refine (take_yes b s 0 0 255 _ (H0.out.alloc _) hs h0 hin).mono ?_
  rintro e w1 ⟨rfl, a1, r1⟩
  have A1 := hide a1
  have R1 := hide (show Rd b (w.alloc (.cells zeroCells 24)) w1 from r1)
  have hz : w.heap.size + 1 ≤ w1.heap.size := by have := r1.size; simpa using this
  clear a1 r1
  go_wp2_with fail
  refine (tabled_any b s _ A1.out hs (by omega)).mono ?_
  cases hx : tabledS s with
  | inr a =>
    have HX := hide hx
    clear hx
    rintro e w2 ⟨rfl, a2, r2⟩
    go_wp2
    try rw [HX.out]
    exact ⟨rfl, Reads.bad a2 (R1.out.trans r2).un⟩
  | inl x =>
    obtain ⟨o, p⟩ := x
    have HX := hide hx
    clear hx
    rintro e w2 ⟨v, rfl, t2, f2, a2, r2, l2⟩
    obtain ⟨sa, sn, sc, rfl⟩ := t2.slice
    have R2 := R1.out.trans r2
    obtain ⟨hc, hf⟩ := R2.made hlt
    have c0 := hc 0
    have c1 := hc 1
    have c2 := hc 2
    have c3 := hc 3
    have c4 := hc 4
    have c5 := hc 5
    have c6 := hc 6
    simp [zeroCells] at c0 c1 c2 c3 c4 c5 c6
    have T2 := hide t2
    have F2 := hide f2
    have A2 := hide a2
    have R3 := hide R2
    have L2 := hide l2
    clear hc R2 t2 a2 r2 l2 f2
    unfold Out.val
    go_wp2
    refine bodyPost_ret (v := o.val (.slice sa sn sc)) (by simp [results, Tryd.results136, go_sem, Out.val, c0, c1, c2, c3, c4, c5, c6]) rfl ?_
    try rw [HX.out]
    exact ⟨_, rfl, set7_tab T2.out F2.out (by omega), F2.out.old (by omega), set7_at A2.out (by omega), set7_rd R3.out.un (by omega), L2.out⟩

set_option maxHeartbeats 1600000 in
theorem ofKind_ant (b : Nat) (s : ByteArray) (w : World) (h : At b s 0 w) (hs : s.size ≤ maxLen) (h0 : 0 < s.size) (hk : bt s 0 = 84) :
    Calls Tryd.prog 136 #[.pointer (some ⟨b, 0, none⟩)] w fun e w' => Reads (antS s) b s w e w' := by
  have hin : inR s 0 0 255 = true := inR_true.2 ⟨h0, by omega, by have := bt_le s 0; omega⟩
  have H0 := hide h
  have hlt := h.lt
  have e0 := bt_lt s 0 h0
  clear h
  have k0 : ((s[0].toNat : Int) == 66) = false := by simp; omega
  have k1 : ((s[0].toNat : Int) == 87) = false := by simp; omega
  have k2 : ((s[0].toNat : Int) == 76) = false := by simp; omega
  have k3 : ((s[0].toNat : Int) == 84) = true := by simp; omega
  clear e0
  go_enter Tryd.func136, Tryd.ntmps136
  go_wp2_with fail
  refine (take_yes b s 0 0 255 _ (H0.out.alloc _) hs h0 hin).mono ?_
  rintro e w1 ⟨rfl, a1, r1⟩
  have A1 := hide a1
  have R1 := hide (show Rd b (w.alloc (.cells zeroCells 24)) w1 from r1)
  have hz : w.heap.size + 1 ≤ w1.heap.size := by have := r1.size; simpa using this
  clear a1 r1
  go_wp2_with fail
  refine (ant_any b s _ A1.out hs (by omega)).mono ?_
  cases hx : antS s with
  | inr a =>
    have HX := hide hx
    clear hx
    rintro e w2 ⟨rfl, a2, r2⟩
    go_wp2
    try rw [HX.out]
    exact ⟨rfl, Reads.bad a2 (R1.out.trans r2).un⟩
  | inl x =>
    obtain ⟨o, p⟩ := x
    have HX := hide hx
    clear hx
    rintro e w2 ⟨v, rfl, t2, f2, a2, r2, l2⟩
    obtain ⟨sa, sn, sc, rfl⟩ := t2.slice
    have R2 := R1.out.trans r2
    obtain ⟨hc, hf⟩ := R2.made hlt
    have c0 := hc 0
    have c1 := hc 1
    have c2 := hc 2
    have c3 := hc 3
    have c4 := hc 4
    have c5 := hc 5
    have c6 := hc 6
    simp [zeroCells] at c0 c1 c2 c3 c4 c5 c6
    have T2 := hide t2
    have F2 := hide f2
    have A2 := hide a2
    have R3 := hide R2
    have L2 := hide l2
    clear hc R2 t2 a2 r2 l2 f2
    unfold Out.val
    go_wp2
    refine bodyPost_ret (v := o.val (.slice sa sn sc)) (by simp [results, Tryd.results136, go_sem, Out.val, c0, c1, c2, c3, c4, c5, c6]) rfl ?_
    try rw [HX.out]
    exact ⟨_, rfl, set7_tab T2.out F2.out (by omega), F2.out.old (by omega), set7_at A2.out (by omega), set7_rd R3.out.un (by omega), L2.out⟩

end Go.Proofs.YtljdidimoagnhaaDoor

namespace Go.Proofs.YtljdidimoagnhaaDoor
open Go.RowKit
set_option linter.unusedVariables false

set_option maxHeartbeats 800000 in
theorem ofKind_none (b : Nat) (s : ByteArray) (w : World) (h : At b s 0 w) (h0 : s.size = 0) :
    Calls Tryd.prog 136 #[.pointer (some ⟨b, 0, none⟩)] w fun e w' => Reads (.inr 0) b s w e w' := by
  have hin : inR s 0 0 255 = false := inR_false.2 (by omega)
  have H0 := hide h
  clear h h0
  go_enter Tryd.func136, Tryd.ntmps136
  go_wp2_with fail
  refine (take_no b s 0 0 255 _ (H0.out.alloc _) (by omega) hin).mono ?_
  rintro e w1 ⟨rfl, a1, r1⟩
  go_wp2
  exact ⟨rfl, Reads.bad a1 r1.un⟩

set_option maxHeartbeats 800000 in
theorem ofKind_other (b : Nat) (s : ByteArray) (w : World) (h : At b s 0 w) (hs : s.size ≤ maxLen) (h0 : 0 < s.size) (n1 : ¬ bt s 0 = 66) (n2 : ¬ bt s 0 = 87) (n3 : ¬ bt s 0 = 76) (n4 : ¬ bt s 0 = 84) :
    Calls Tryd.prog 136 #[.pointer (some ⟨b, 0, none⟩)] w fun e w' => Reads (.inr 0) b s w e w' := by
  have hin : inR s 0 0 255 = true := inR_true.2 ⟨h0, by omega, by have := bt_le s 0; omega⟩
  have H0 := hide h
  have e0 := bt_lt s 0 h0
  clear h
  have k0 : ((s[0].toNat : Int) == 66) = false := by simp; omega
  have k1 : ((s[0].toNat : Int) == 87) = false := by simp; omega
  have k2 : ((s[0].toNat : Int) == 76) = false := by simp; omega
  have k3 : ((s[0].toNat : Int) == 84) = false := by simp; omega
  clear e0
  go_enter Tryd.func136, Tryd.ntmps136
  go_wp2_with fail
  refine (take_yes b s 0 0 255 _ (H0.out.alloc _) hs h0 hin).mono ?_
  rintro e w1 ⟨rfl, a1, r1⟩
  have A1 := hide a1
  clear a1
  go_wp2_with fail
  refine (fail_any b s _ 0 _ A1.out).mono ?_
  rintro e w2 ⟨rfl, a2, r2⟩
  go_wp2
  exact ⟨rfl, Reads.bad a2 (r1.trans r2).un⟩

theorem ofKind_any (b : Nat) (s : ByteArray) (w : World) (h : At b s 0 w) (hs : s.size ≤ maxLen) :
    Calls Tryd.prog 136 #[.pointer (some ⟨b, 0, none⟩)] w fun e w' => Reads (kindS s) b s w e w' := by
  unfold kindS
  by_cases h0 : s.size = 0
  · rw [if_pos h0]; exact ofKind_none b s w h h0
  rw [if_neg h0]
  by_cases h1 : bt s 0 = 66
  · rw [if_pos h1]; exact ofKind_life b s w h hs (by omega) h1
  rw [if_neg h1]
  by_cases h2 : bt s 0 = 87
  · rw [if_pos h2]; exact ofKind_numbered b s w h hs (by omega) h2
  rw [if_neg h2]
  by_cases h3 : bt s 0 = 76
  · rw [if_pos h3]; exact ofKind_tabled b s w h hs (by omega) h3
  rw [if_neg h3]
  by_cases h4 : bt s 0 = 84
  · rw [if_pos h4]; exact ofKind_ant b s w h hs (by omega) h4
  rw [if_neg h4]
  exact ofKind_other b s w h hs (by omega) h1 h2 h3 h4

/-- What reading a whole text comes to. -/
def Ruled (x : Out ⊕ Nat) (b : Nat) (s : ByteArray) (w : World) (e : Ending) (w' : World) : Prop :=
  match x with
  | .inr a => e = .panicked oops ∧ At b s a w' ∧ Rd b w w'
  | .inl o => ∃ v, e = .returned (o.val v) ∧ Tab w' v o.table ∧ Fresh w v ∧ At b s s.size w' ∧ Rd b w w'
theorem Ruled.bad {b : Nat} {s : ByteArray} {w w' : World} {a : Nat} (ha : At b s a w') (hr : Rd b w w') : Ruled (.inr a) b s w (.panicked oops) w' := ⟨rfl, ha, hr⟩

theorem Tab.alloc {w : World} {v : Value} {xs : List Int} (h : Tab w v xs) (o : Obj) : Tab (w.alloc o) v xs := by
  rcases h with h | ⟨g, cap, hv, hg, hc⟩
  · exact Or.inl h
  · have e : (w.alloc o).heap[g]? = w.heap[g]? := Below.heap_alloc _ _ _ hg
    exact Or.inr ⟨g, cap, hv, by rw [World.size_alloc]; omega, fun k hk => (World.cell?_of_block (w := w) (a := ⟨g, k, none⟩) e).trans (hc k hk)⟩
theorem Tab.drewN {w : World} {v : Value} {xs : List Int} (h : Tab w v xs) (n : Nat) : Tab (w.drewN n) v xs := h

set_option maxHeartbeats 1600000 in
theorem rule_any (b : Nat) (s : ByteArray) (w : World) (h : At b s 0 w) (hs : s.size ≤ maxLen) :
    Calls Tryd.prog 75 #[.pointer (some ⟨b, 0, none⟩)] w fun e w' => Ruled (parseS s) b s w e w' := by
  have H0 := hide h
  have hlt := h.lt
  clear h
  go_enter Tryd.func75, Tryd.ntmps75
  go_wp2_with fail
  refine (ofKind_any b s _ (H0.out.alloc _) hs).mono ?_
  cases hx : kindS s with
  | inr a =>
    have X := hide (show parseS s = .inr a by unfold parseS; rw [hx])
    clear hx
    rintro e w1 ⟨rfl, a1, r1⟩
    go_wp2
    rw [X.out]
    exact ⟨rfl, Ruled.bad a1 r1.un⟩
  | inl x =>
    obtain ⟨o, p⟩ := x
    have HX := hide hx
    clear hx
    rintro e w1 ⟨v, rfl, t1, f1, a1, r1, l1⟩
    obtain ⟨sa, sn, sc, rfl⟩ := t1.slice
    have hz : w.heap.size + 1 ≤ w1.heap.size := by have := r1.size; simpa using this
    have T1 := hide t1
    have F1 := hide f1
    have A1 := hide a1
    have R1 := hide (show Rd b (w.alloc (.cells zeroCells 24)) w1 from r1)
    have L1 := hide l1
    clear t1 a1 r1 l1 f1
    unfold Out.val
    by_cases hp : p = s.size
    · have X := hide (show parseS s = .inl o by unfold parseS; rw [HX.out]; simp [hp])
      have P := hide hp
      clear hp
      go_wp2_with fail
      refine (ended_yes b s p _ (A1.out.alloc _) P.out).mono ?_
      rintro e w2 ⟨rfl, n, rfl⟩
      have A2 := (A1.out.alloc (.cells #[.int .i64 o.kind, .int .i64 o.born, .int .i64 o.stay, .int .i64 o.states, .int .i64 o.radius, .slice sa sn sc, .string o.turns] 24)).drewN n
      have R2 := (R1.out.alloc (.cells #[.int .i64 o.kind, .int .i64 o.born, .int .i64 o.stay, .int .i64 o.states, .int .i64 o.radius, .slice sa sn sc, .string o.turns] 24)).drewN n
      obtain ⟨hc, hf⟩ := R2.made hlt
      have c0 := hc 0
      have c1 := hc 1
      have c2 := hc 2
      have c3 := hc 3
      have c4 := hc 4
      have c5 := hc 5
      have c6 := hc 6
      simp [zeroCells] at c0 c1 c2 c3 c4 c5 c6
      have A3 := hide A2
      have R3 := hide R2
      clear hc R2 A2
      go_wp2
      refine bodyPost_ret (v := o.val (.slice sa sn sc)) (by simp [results, Tryd.results75, go_sem, Out.val, c0, c1, c2, c3, c4, c5, c6]) rfl ?_
      rw [X.out]
      have A4 := A3.out
      rw [P.out] at A4
      exact ⟨_, rfl, set7_tab ((T1.out.alloc _).drewN n) F1.out (by simp), F1.out.old (by simp), set7_at A4 (by omega), set7_rd R3.out.un (by omega)⟩
    · have X := hide (show parseS s = .inr p by unfold parseS; rw [HX.out]; simp [hp])
      have l2 := L1.out
      have P := hide (show p < s.size by omega)
      clear hp
      have A2 := A1.out.alloc (.cells #[.int .i64 o.kind, .int .i64 o.born, .int .i64 o.stay, .int .i64 o.states, .int .i64 o.radius, .slice sa sn sc, .string o.turns] 24)
      obtain ⟨g0, g1, g2, g3⟩ := A2
      clear l2
      go_wp2_with fail
      refine (ended_no b s p _ (A1.out.alloc _) P.out).mono ?_
      rintro e w2 ⟨rfl, n, rfl⟩
      go_wp2_with fail
      refine (fail_any b s p p _ ((A1.out.alloc _).drewN n)).mono ?_
      rintro e w3 ⟨rfl, a3, r3⟩
      go_wp2
      rw [X.out]
      exact ⟨rfl, Ruled.bad a3 (((R1.out.alloc _).drewN n).trans r3).un⟩
end Go.Proofs.YtljdidimoagnhaaDoor

