/-
  What the reader reads: ofKind, rule.
-/
import Derived.Test.YtpbcgojfpmpgpaaDoorRk4
namespace Go.Proofs.YtpbcgojfpmpgpaaDoor
open Go.RowKit
set_option linter.unusedVariables false

theorem life_reads (b : Nat) (s : ByteArray) (w : World) (h : At b s 1 w) (hs : s.size ≤ maxLen) (h1 : 1 ≤ s.size) :
    Calls Tryd.prog 108 #[.pointer (some ⟨b, 0, none⟩)] w fun e w' => Reads (lifeS s) b s w e w' := by
  cases hx : lifeS s with
  | inr a => exact (life_no b s w h hs h1 a hx).mono fun e w' q => q
  | inl x =>
    obtain ⟨o, p⟩ := x
    exact (life_any b s w h hs h1 o p hx).mono fun e w' ⟨he, ha, hr, hp, ht⟩ => ⟨_, he, Or.inl ⟨ht, rfl⟩, Fresh.nil _, ha, hr, hp⟩
theorem numbered_reads (b : Nat) (s : ByteArray) (w : World) (h : At b s 1 w) (hs : s.size ≤ maxLen) (h1 : 1 ≤ s.size) :
    Calls Tryd.prog 109 #[.pointer (some ⟨b, 0, none⟩)] w fun e w' => Reads (numberedS s) b s w e w' := by
  cases hx : numberedS s with
  | inr a => exact (numbered_no b s w h hs h1 a hx).mono fun e w' q => q
  | inl x =>
    obtain ⟨o, p⟩ := x
    exact (numbered_any b s w h hs h1 o p hx).mono fun e w' q => q

theorem Tab.slice {w : World} {v : Value} {xs : List Int} (h : Tab w v xs) : ∃ a n c, v = .slice a n c := by
  rcases h with ⟨-, h⟩ | ⟨g, cap, h, -, -⟩
  · exact ⟨_, _, _, h⟩
  · exact ⟨_, _, _, h⟩
theorem set7_tab {w : World} {v : Value} {xs : List Int} (h : Tab w v xs) {g : Nat} {v0 v1 v2 v3 v4 v5 v6 : Value} {w0 : World} (hf : Fresh w0 v) (hg : g < w0.heap.size) :
    Tab (((((((w.setCell ⟨g, 0, none⟩ v0).setCell ⟨g, 1, none⟩ v1).setCell ⟨g, 2, none⟩ v2).setCell ⟨g, 3, none⟩ v3).setCell ⟨g, 4, none⟩ v4).setCell ⟨g, 5, none⟩ v5).setCell ⟨g, 6, none⟩ v6) v xs := by
  have hne : ∀ g' c, v = .slice (some ⟨g', 0, none⟩) xs.length c → g' ≠ g := fun g' c q => by have := hf g' _ c q; omega
  exact ((((((h.other _ hne).other _ hne).other _ hne).other _ hne).other _ hne).other _ hne).other _ hne
theorem Fresh.old {w w' : World} {v : Value} (h : Fresh w' v) (hs : w.heap.size ≤ w'.heap.size) : Fresh w v := fun g k c q => Nat.le_trans hs (h g k c q)

set_option maxHeartbeats 1600000 in
theorem ofKind_life (b : Nat) (s : ByteArray) (w : World) (h : At b s 0 w) (hs : s.size ≤ maxLen) (h0 : 0 < s.size) (hk : bt s 0 = 66) :
    Calls Tryd.prog 78 #[.pointer (some ⟨b, 0, none⟩)] w fun e w' => Reads (lifeS s) b s w e w' := by
  have hin : inR s 0 0 255 = true := inR_true.2 ⟨h0, by omega, by have := bt_le s 0; omega⟩
  have H0 := hide h
  have hlt := h.lt
  have e0 := bt_lt s 0 h0
  clear h
  have k0 : ((s[0].toNat : Int) == 66) = true := by simp; omega
  clear e0
  go_enter Tryd.func78, Tryd.ntmps78
  go_wp2_with fail
  refine (take_yes b s 0 0 255 _ (H0.out.alloc _) hs h0 hin).mono ?_
  rintro e w1 ⟨rfl, a1, r1⟩
  have A1 := hide a1
  have R1 := hide (show Rd b (w.alloc (.cells zeroCells 24)) w1 from r1)
  have hz : w.heap.size + 1 ≤ w1.heap.size := by have := r1.size; simpa using this
  clear a1 r1
  go_wp2_with fail
  refine (life_reads b s _ A1.out hs (by omega)).mono ?_
  cases hx : lifeS s with
  | inr a =>
    have HX := hide hx
    clear hx
    rintro e w2 ⟨rfl, a2, r2⟩
    go_wp2
    try rw [HX.out]
    exact ⟨rfl, Reads.bad a2 (R1.out.trans r2).un⟩
  | inl x =>
    obtain ⟨o, p⟩ := x
    have HX := hide hx
    clear hx
    rintro e w2 ⟨v, rfl, t2, f2, a2, r2, l2⟩
    obtain ⟨sa, sn, sc, rfl⟩ := t2.slice
    have R2 := R1.out.trans r2
    obtain ⟨hc, hf⟩ := R2.made hlt
    have c0 := hc 0
    have c1 := hc 1
    have c2 := hc 2
    have c3 := hc 3
    have c4 := hc 4
    have c5 := hc 5
    have c6 := hc 6
    simp [zeroCells] at c0 c1 c2 c3 c4 c5 c6
    have T2 := hide t2
    have F2 := hide f2
    have A2 := hide a2
    have R3 := hide R2
    have L2 := hide l2
    clear hc R2 t2 a2 r2 l2 f2
    unfold Out.val
    go_wp2
    refine bodyPost_ret (v := o.val (.slice sa sn sc)) (by simp [results, Tryd.results78, go_sem, Out.val, c0, c1, c2, c3, c4, c5, c6]) rfl ?_
    try rw [HX.out]
    exact ⟨_, rfl, set7_tab T2.out F2.out (by omega), F2.out.old (by omega), set7_at A2.out (by omega), set7_rd R3.out.un (by omega), L2.out⟩

set_option maxHeartbeats 1600000 in
theorem ofKind_numbered (b : Nat) (s : ByteArray) (w : World) (h : At b s 0 w) (hs : s.size ≤ maxLen) (h0 : 0 < s.size) (hk : bt s 0 = 87) :
    Calls Tryd.prog 78 #[.pointer (some ⟨b, 0, none⟩)] w fun e w' => Reads (numberedS s) b s w e w' := by
  have hin : inR s 0 0 255 = true := inR_true.2 ⟨h0, by omega, by have := bt_le s 0; omega⟩
  have H0 := hide h
  have hlt := h.lt
  have e0 := bt_lt s 0 h0
  clear h
  have k0 : ((s[0].toNat : Int) == 66) = false := by simp; omega
  have k1 : ((s[0].toNat : Int) == 87) = true := by simp; omega
  clear e0
  go_enter Tryd.func78, Tryd.ntmps78
  go_wp2_with fail
  refine (take_yes b s 0 0 255 _ (H0.out.alloc _) hs h0 hin).mono ?_
  rintro e w1 ⟨rfl, a1, r1⟩
  have A1 := hide a1
  have R1 := hide (show Rd b (w.alloc (.cells zeroCells 24)) w1 from r1)
  have hz : w.heap.size + 1 ≤ w1.heap.size := by have := r1.size; simpa using this
  clear a1 r1
  go_wp2_with fail
  refine (numbered_reads b s _ A1.out hs (by omega)).mono ?_
  cases hx : numberedS s with
  | inr a =>
    have HX := hide hx
    clear hx
    rintro e w2 ⟨rfl, a2, r2⟩
    go_wp2
    try rw [HX.out]
    exact ⟨rfl, Reads.bad a2 (R1.out.trans r2).un⟩
  | inl x =>
    obtain ⟨o, p⟩ := x
    have HX := hide hx
    clear hx
    rintro e w2 ⟨v, rfl, t2, f2, a2, r2, l2⟩
    obtain ⟨sa, sn, sc, rfl⟩ := t2.slice
    have R2 := R1.out.trans r2
    obtain ⟨hc, hf⟩ := R2.made hlt
    have c0 := hc 0
    have c1 := hc 1
    have c2 := hc 2
    have c3 := hc 3
    have c4 := hc 4
    have c5 := hc 5
    have c6 := hc 6
    simp [zeroCells] at c0 c1 c2 c3 c4 c5 c6
    have T2 := hide t2
    have F2 := hide f2
    have A2 := hide a2
    have R3 := hide R2
    have L2 := hide l2
    clear hc R2 t2 a2 r2 l2 f2
    unfold Out.val
    go_wp2
    refine bodyPost_ret (v := o.val (.slice sa sn sc)) (by simp [results, Tryd.results78, go_sem, Out.val, c0, c1, c2, c3, c4, c5, c6]) rfl ?_
    try rw [HX.out]
    exact ⟨_, rfl, set7_tab T2.out F2.out (by omega), F2.out.old (by omega), set7_at A2.out (by omega), set7_rd R3.out.un (by omega), L2.out⟩

set_option maxHeartbeats 1600000 in
theorem ofKind_tabled (b : Nat) (s : ByteArray) (w : World) (h : At b s 0 w) (hs : s.size ≤ maxLen) (h0 : 0 < s.size) (hk : bt s 0 = 76) :
    Calls Tryd.prog 78 #[.pointer (some ⟨b, 0, none⟩)] w fun e w' => Reads (tabledS s) b s w e w' := by
  have hin : inR s 0 0 255 = true := inR_true.2 ⟨h0, by omega, by have := bt_le s 0; omega⟩
  have H0 := hide h
  have hlt := h.lt
  have e0 := bt_lt s 0 h0
  clear h
  have k0 : ((s[0].toNat : Int) == 66) = false := by simp; omega
  have k1 : ((s[0].toNat : Int) == 87) = false := by simp; omega
  have k2 : ((s[0].toNat : Int) == 76) = true := by simp; omega
  clear e0
  go_enter Tryd.func78, Tryd.ntmps78
  go_wp2_with fail
  refine (take_yes b s 0 0 255 _ (H0.out.alloc _) hs h0 hin).mono ?_
  rintro e w1 ⟨rfl, a1, r1⟩
  have A1 := hide a1
  have R1 := hide (show Rd b (w.alloc (.cells zeroCells 24)) w1 from r1)
  have hz : w.heap.size + 1 ≤ w1.heap.size := by have := r1.size; simpa using this
  clear a1 r1
  go_wp2_with fail
  refine (tabled_any b s _ A1.out hs (by omega)).mono ?_
  cases hx : tabledS s with
  | inr a =>
    have HX := hide hx
    clear hx
    rintro e w2 ⟨rfl, a2, r2⟩
    go_wp2
    try rw [HX.out]
    exact ⟨rfl, Reads.bad a2 (R1.out.trans r2).un⟩
  | inl x =>
    obtain ⟨o, p⟩ := x
    have HX := hide hx
    clear hx
    rintro e w2 ⟨v, rfl, t2, f2, a2, r2, l2⟩
    obtain ⟨sa, sn, sc, rfl⟩ := t2.slice
    have R2 := R1.out.trans r2
    obtain ⟨hc, hf⟩ := R2.made hlt
    have c0 := hc 0
    have c1 := hc 1
    have c2 := hc 2
    have c3 := hc 3
    have c4 := hc 4
    have c5 := hc 5
    have c6 := hc 6
    simp [zeroCells] at c0 c1 c2 c3 c4 c5 c6
    have T2 := hide t2
    have F2 := hide f2
    have A2 := hide a2
    have R3 := hide R2
    have L2 := hide l2
    clear hc R2 t2 a2 r2 l2 f2
    unfold Out.val
    go_wp2
    refine bodyPost_ret (v := o.val (.slice sa sn sc)) (by simp [results, Tryd.results78, go_sem, Out.val, c0, c1, c2, c3, c4, c5, c6]) rfl ?_
    try rw [HX.out]
    exact ⟨_, rfl, set7_tab T2.out F2.out (by omega), F2.out.old (by omega), set7_at A2.out (by omega), set7_rd R3.out.un (by omega), L2.out⟩

set_option maxHeartbeats 1600000 in
theorem ofKind_ant (b : Nat) (s : ByteArray) (w : World) (h : At b s 0 w) (hs : s.size ≤ maxLen) (h0 : 0 < s.size) (hk : bt s 0 = 84) :
    Calls Tryd.prog 78 #[.pointer (some ⟨b, 0, none⟩)] w fun e w' => Reads (antS s) b s w e w' := by
  have hin : inR s 0 0 255 = true := inR_true.2 ⟨h0, by omega, by have := bt_le s 0; omega⟩
  have H0 := hide h
  have hlt := h.lt
  have e0 := bt_lt s 0 h0
  clear h
  have k0 : ((s[0].toNat : Int) == 66) = false := by simp; omega
  have k1 : ((s[0].toNat : Int) == 87) = false := by simp; omega
  have k2 : ((s[0].toNat : Int) == 76) = false := by simp; omega
  have k3 : ((s[0].toNat : Int) == 84) = true := by simp; omega
  clear e0
  go_enter Tryd.func78, Tryd.ntmps78
  go_wp2_with fail
  refine (take_yes b s 0 0 255 _ (H0.out.alloc _) hs h0 hin).mono ?_
  rintro e w1 ⟨rfl, a1, r1⟩
  have A1 := hide a1
  have R1 := hide (show Rd b (w.alloc (.cells zeroCells 24)) w1 from r1)
  have hz : w.heap.size + 1 ≤ w1.heap.size := by have := r1.size; simpa using this
  clear a1 r1
  go_wp2_with fail
  refine (ant_any b s _ A1.out hs (by omega)).mono ?_
  cases hx : antS s with
  | inr a =>
    have HX := hide hx
    clear hx
    rintro e w2 ⟨rfl, a2, r2⟩
    go_wp2
    try rw [HX.out]
    exact ⟨rfl, Reads.bad a2 (R1.out.trans r2).un⟩
  | inl x =>
    obtain ⟨o, p⟩ := x
    have HX := hide hx
    clear hx
    rintro e w2 ⟨v, rfl, t2, f2, a2, r2, l2⟩
    obtain ⟨sa, sn, sc, rfl⟩ := t2.slice
    have R2 := R1.out.trans r2
    obtain ⟨hc, hf⟩ := R2.made hlt
    have c0 := hc 0
    have c1 := hc 1
    have c2 := hc 2
    have c3 := hc 3
    have c4 := hc 4
    have c5 := hc 5
    have c6 := hc 6
    simp [zeroCells] at c0 c1 c2 c3 c4 c5 c6
    have T2 := hide t2
    have F2 := hide f2
    have A2 := hide a2
    have R3 := hide R2
    have L2 := hide l2
    clear hc R2 t2 a2 r2 l2 f2
    unfold Out.val
    go_wp2
    refine bodyPost_ret (v := o.val (.slice sa sn sc)) (by simp [results, Tryd.results78, go_sem, Out.val, c0, c1, c2, c3, c4, c5, c6]) rfl ?_
    try rw [HX.out]
    exact ⟨_, rfl, set7_tab T2.out F2.out (by omega), F2.out.old (by omega), set7_at A2.out (by omega), set7_rd R3.out.un (by omega), L2.out⟩

end Go.Proofs.YtpbcgojfpmpgpaaDoor
