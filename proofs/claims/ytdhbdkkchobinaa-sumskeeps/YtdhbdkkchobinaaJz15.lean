/-
  What the last text of this claim leans on, part 15: Lj1.
-/
import Derived.Test.YtdhbdkkchobinaaJz14
namespace Go.Proofs.Ytdhbdkkchobinaa
open Go.RowKit
set_option linter.unusedVariables false

theorem runL_nil (S : Int) (R : Nat) (T : List Int) : ∀ n, runL S R T n [] = []
  | 0 => rfl
  | n + 1 => by rw [runL, runL_nil S R T n]; rfl

/-- A list whose block was made since, its capacity in bounds. -/
def FreshL (w : World) (v : Value) : Prop := ∀ g k c, v = .slice (some ⟨g, 0, none⟩) k c → w.heap.size ≤ g ∧ k ≤ c ∧ c ≤ maxLen
/-- A list that is answered, with no error. -/
def ListPost (xs : List Int) (w : World) (e : Ending) (w' : World) : Prop :=
  ∃ v, e = .returned (.tuple #[v, .nilIface]) ∧ Tab w' v xs ∧ FreshL w v ∧ Below w.heap.size w w'
/-- An error that is told. -/
def ListErr (f : Nat) (w : World) (e : Ending) (w' : World) : Prop :=
  e = .returned (.tuple #[.slice none 0 0, .iface 23 (.int .i64 (f : Int))]) ∧ Below w.heap.size w w'
theorem Cel.tabC {w : World} {g n c : Nat} {xs : List Int} (h : Cel w g xs) (hn : xs.length = n) : Tab w (.slice (some ⟨g, 0, none⟩) n c) xs := by
  subst hn
  exact Or.inr ⟨g, c, rfl, h.lt, fun k hk => by rw [h.cells k hk]; simp [List.getD, hk]⟩
theorem FreshL.mk {w : World} {g k c : Nat} (h : w.heap.size ≤ g) (h1 : k ≤ c) (h2 : c ≤ maxLen) : FreshL w (.slice (some ⟨g, 0, none⟩) k c) := fun g' _ _ q => by
  injection q with q1 q2 q3
  injection q1 with q4
  injection q4 with q5
  subst q2 q3 q5
  exact ⟨h, h1, h2⟩
theorem FreshL.nil (w : World) : FreshL w (.slice none 0 0) := fun _ _ _ h => by injection h with h1; cases h1
theorem errOf_ne {f : Nat} (h : f ≠ 0) : errOf f = .iface 23 (.int .i64 (f : Int)) := by unfold errOf; rw [if_neg h]

set_option maxRecDepth 100000 in
set_option maxHeartbeats 1600000 in
theorem lineRun_off (o : Out) (ta : Option Addr) (tn tc : Nat) (v : Value) (k : Int) (w : World) (hR : ArgR w o ta tn tc) (h : ¬ (Good o ∧ o.kind = 2)) :
    Calls Try.prog 16 #[.agg #[.int .i64 o.kind, .int .i64 o.born, .int .i64 o.stay, .int .i64 o.states, .int .i64 o.radius, .slice ta tn tc, .string o.turns], v, .int .i64 k] w (ListErr 1 w) := by
  obtain ⟨w1, hw1⟩ : ∃ w1, w.alloc (.cells #[.int .i64 o.kind, .int .i64 o.born, .int .i64 o.stay, .int .i64 o.states, .int .i64 o.radius, .slice ta tn tc, .string o.turns] 28) = w1 := ⟨_, rfl⟩
  have BB := hide' (show Below w.heap.size w w1 by rw [← hw1]; exact (Below.refl _ _).alloc (Nat.le_refl _) _)
  have RX := hide' (show RBo w.heap.size o (.slice ta tn tc) w1 by rw [← hw1]; exact RBo.new w o _ _)
  have AT := hide' (show ArgR w1 o ta tn tc by rw [← hw1]; exact hR.alloc _)
  have HH := hide' h
  clear hR h
  obtain ⟨x0, x1, x2, x3, x4, x5, x6⟩ := RX.out
  go_enter Try.func16, Try.ntmps16
  go_wp2_with fail
  refine (lineCheck_off o ta tn tc v _ AT.out HH.out).mono ?_
  rintro e w2 ⟨rfl, b2⟩
  have B2 := hide' (BB.out.trans (b2.mono BB.out.size))
  clear x0 x1 x2 x3 x4 x5 x6 b2 hw1
  go_wp2
  go_ret2
  exact ⟨rfl, B2.out⟩

set_option maxRecDepth 100000 in
set_option maxHeartbeats 1600000 in
theorem lineRun_word (S R : Nat) (T : List Int) (ta : Option Addr) (tn tc : Nat) (ws : List Int) (wa : Option Addr) (wc : Nat) (k : Int) (w : World)
    (hL : LineOk S R T) (hT : ArgP w T ta tn tc) (hW : ArgP w ws wa ws.length wc) (he : wordE S ws ≠ 0) :
    Calls Try.prog 16 #[.agg #[.int .i64 2, .int .i64 0, .int .i64 0, .int .i64 (S : Int), .int .i64 (R : Int), .slice ta tn tc, .string ⟨#[]⟩], .slice wa ws.length wc, .int .i64 k] w (ListErr (wordE S ws) w) := by
  obtain ⟨w1, hw1⟩ : ∃ w1, w.alloc (.cells #[.int .i64 2, .int .i64 0, .int .i64 0, .int .i64 (S : Int), .int .i64 (R : Int), .slice ta tn tc, .string ⟨#[]⟩] 28) = w1 := ⟨_, rfl⟩
  have z1 : w1.heap.size = w.heap.size + 1 := by rw [← hw1]; simp
  have BB := hide' (show Below w.heap.size w w1 by rw [← hw1]; exact (Below.refl _ _).alloc (Nat.le_refl _) _)
  have RX := hide' (show RB w.heap.size S R (.slice ta tn tc) w1 by rw [← hw1]; exact RB.new w S R _ _)
  have AT := hide' (hT.below BB.out)
  have AW := hide' (hW.below BB.out)
  have HL := hide' hL
  obtain ⟨f, hf⟩ : ∃ f, wordE S ws = f := ⟨_, rfl⟩
  have HF := hide' hf
  have ER := hide' (show errOf (wordE S ws) = .iface 23 (.int .i64 (f : Int)) by rw [hf]; exact errOf_ne (by rw [← hf]; exact he))
  rw [hf]
  clear hT hW hL he hf
  obtain ⟨x0, x1, x2, x3, x4, x5, x6⟩ := RX.out
  go_enter Try.func16, Try.ntmps16
  go_wp2_with fail
  refine (lineCheck_line S R T ta tn tc ws wa ws.length wc _ HL.out AT.out AW.out).mono ?_
  rw [ER.out]
  rintro e w2 ⟨rfl, b2⟩
  have B2 := hide' (BB.out.trans (b2.mono BB.out.size))
  clear x0 x1 x2 x3 x4 x5 x6 b2 hw1
  go_wp2
  go_ret2
  exact ⟨rfl, B2.out⟩

set_option maxRecDepth 100000 in
set_option maxHeartbeats 1600000 in
theorem lineRun_lo (S R : Nat) (T : List Int) (ta : Option Addr) (tn tc : Nat) (ws : List Int) (wa : Option Addr) (wc : Nat) (k : Int) (w : World)
    (hL : LineOk S R T) (hT : ArgP w T ta tn tc) (hW : ArgP w ws wa ws.length wc) (he : wordE S ws = 0) (hk : k < 0) :
    Calls Try.prog 16 #[.agg #[.int .i64 2, .int .i64 0, .int .i64 0, .int .i64 (S : Int), .int .i64 (R : Int), .slice ta tn tc, .string ⟨#[]⟩], .slice wa ws.length wc, .int .i64 k] w (ListErr 1 w) := by
  obtain ⟨w1, hw1⟩ : ∃ w1, w.alloc (.cells #[.int .i64 2, .int .i64 0, .int .i64 0, .int .i64 (S : Int), .int .i64 (R : Int), .slice ta tn tc, .string ⟨#[]⟩] 28) = w1 := ⟨_, rfl⟩
  have z1 : w1.heap.size = w.heap.size + 1 := by rw [← hw1]; simp
  have BB := hide' (show Below w.heap.size w w1 by rw [← hw1]; exact (Below.refl _ _).alloc (Nat.le_refl _) _)
  have RX := hide' (show RB w.heap.size S R (.slice ta tn tc) w1 by rw [← hw1]; exact RB.new w S R _ _)
  have AT := hide' (hT.below BB.out)
  have AW := hide' (hW.below BB.out)
  have HL := hide' hL
  have HE := hide' he
  have i1 : k < 0 := hk
  clear hT hW hL he hk
  obtain ⟨x0, x1, x2, x3, x4, x5, x6⟩ := RX.out
  go_enter Try.func16, Try.ntmps16
  go_wp2_with fail
  refine (lineCheck_line S R T ta tn tc ws wa ws.length wc _ HL.out AT.out AW.out).mono ?_
  rw [HE.out, show errOf 0 = .nilIface from rfl]
  rintro e w2 ⟨rfl, b2⟩
  have B2 := hide' (BB.out.trans (b2.mono BB.out.size))
  clear x0 x1 x2 x3 x4 x5 x6 b2 hw1
  go_wp2
  go_ret2
  exact ⟨rfl, B2.out⟩

set_option maxRecDepth 100000 in
set_option maxHeartbeats 1600000 in
theorem lineRun_hi (S R : Nat) (T : List Int) (ta : Option Addr) (tn tc : Nat) (ws : List Int) (wa : Option Addr) (wc : Nat) (k : Int) (w : World)
    (hL : LineOk S R T) (hT : ArgP w T ta tn tc) (hW : ArgP w ws wa ws.length wc) (he : wordE S ws = 0) (hk : 100000 < k) :
    Calls Try.prog 16 #[.agg #[.int .i64 2, .int .i64 0, .int .i64 0, .int .i64 (S : Int), .int .i64 (R : Int), .slice ta tn tc, .string ⟨#[]⟩], .slice wa ws.length wc, .int .i64 k] w (ListErr 1 w) := by
  obtain ⟨w1, hw1⟩ : ∃ w1, w.alloc (.cells #[.int .i64 2, .int .i64 0, .int .i64 0, .int .i64 (S : Int), .int .i64 (R : Int), .slice ta tn tc, .string ⟨#[]⟩] 28) = w1 := ⟨_, rfl⟩
  have z1 : w1.heap.size = w.heap.size + 1 := by rw [← hw1]; simp
  have BB := hide' (show Below w.heap.size w w1 by rw [← hw1]; exact (Below.refl _ _).alloc (Nat.le_refl _) _)
  have RX := hide' (show RB w.heap.size S R (.slice ta tn tc) w1 by rw [← hw1]; exact RB.new w S R _ _)
  have AT := hide' (hT.below BB.out)
  have AW := hide' (hW.below BB.out)
  have HL := hide' hL
  have HE := hide' he
  have i1 : ¬ k < 0 := by omega
  have i2 : 100000 < k := hk
  clear hT hW hL he hk
  obtain ⟨x0, x1, x2, x3, x4, x5, x6⟩ := RX.out
  go_enter Try.func16, Try.ntmps16
  go_wp2_with fail
  refine (lineCheck_line S R T ta tn tc ws wa ws.length wc _ HL.out AT.out AW.out).mono ?_
  rw [HE.out, show errOf 0 = .nilIface from rfl]
  rintro e w2 ⟨rfl, b2⟩
  have B2 := hide' (BB.out.trans (b2.mono BB.out.size))
  clear x0 x1 x2 x3 x4 x5 x6 b2 hw1
  go_wp2
  go_ret2
  exact ⟨rfl, B2.out⟩

set_option maxRecDepth 100000 in
set_option maxHeartbeats 1600000 in
theorem lineRun_nil_some (S R : Nat) (T : List Int) (ta : Option Addr) (tn tc : Nat) (wa : Addr) (wc n : Nat) (w : World)
    (hL : LineOk S R T) (hT : ArgP w T ta tn tc) (hW : ArgP w [] (some wa) 0 wc) (hn : n ≤ 100000) :
    Calls Try.prog 16 #[.agg #[.int .i64 2, .int .i64 0, .int .i64 0, .int .i64 (S : Int), .int .i64 (R : Int), .slice ta tn tc, .string ⟨#[]⟩], .slice (some wa) 0 wc, .int .i64 (n : Int)] w (ListPost [] w) := by
  obtain ⟨w1, hw1⟩ : ∃ w1, w.alloc (.cells #[.int .i64 2, .int .i64 0, .int .i64 0, .int .i64 (S : Int), .int .i64 (R : Int), .slice ta tn tc, .string ⟨#[]⟩] 28) = w1 := ⟨_, rfl⟩
  have z1 : w1.heap.size = w.heap.size + 1 := by rw [← hw1]; simp
  have BB := hide' (show Below w.heap.size w w1 by rw [← hw1]; exact (Below.refl _ _).alloc (Nat.le_refl _) _)
  have RX := hide' (show RB w.heap.size S R (.slice ta tn tc) w1 by rw [← hw1]; exact RB.new w S R _ _)
  have AT := hide' (hT.below BB.out)
  have AW := hide' (hW.below BB.out)
  have HL := hide' hL
  have TBK := hide' (hT.blk (by have := hT.len; have := hL.pos; omega))
  have HE := hide' (wordE_ok (S := S) (ws := []) (by simp) (fun x hx => by simp at hx))
  obtain ⟨i0, hi, hz0, hz1, hz2⟩ := info_parts info_int
  have n1 : ¬ (n : Int) < 0 := by omega
  have n2 : ¬ (100000 : Int) < (n : Int) := by omega
  clear hT hW hL
  obtain ⟨x0, x1, x2, x3, x4, x5, x6⟩ := RX.out
  go_enter Try.func16, Try.ntmps16
  go_wp2_with fail
  refine (lineCheck_line S R T ta tn tc [] (some wa) 0 wc _ HL.out AT.out AW.out).mono ?_
  rw [HE.out, show errOf 0 = .nilIface from rfl]
  rintro e w2 ⟨rfl, b2⟩
  have s2 := b2.size
  have B2 := hide' (BB.out.trans (b2.mono BB.out.size))
  have RX2 := hide' (RX.out.next b2)
  have AT2 := hide' (AT.out.below b2)
  clear x0 x1 x2 x3 x4 x5 x6 hw1 b2
  obtain ⟨x0, x1, x2, x3, x4, x5, x6⟩ := RX2.out
  go_wp2_with (at_builtin; refine wpList_append_own _ rfl _ _ 26 rfl w2.heap.size 3 i0 (.int .i64 0) 1 8 Try.underlying26 hi hz0 hz1 hz2 rfl (by decide) (.slice none 0 0) 0 [] rfl ⟨by simp, Or.inl ⟨rfl, by simp⟩⟩ wa 0 wc [] rfl (by simp) (fun j u hu => by simp at hu) (fun x hx => by simp at hx) (by unfold maxLen; omega) (by omega) (by simp) ?_; intro v' w3 hown' hgrow3 hnil3; obtain rfl := hnil3.2 ⟨rfl, rfl⟩; have B3 := hide' (grown_below hgrow3); have RX3 := hide' (RX2.out.next B3.out); have AT3 := hide' (AT2.out.below B3.out); clear hgrow3 hown' hnil3 x0 x1 x2 x3 x4 x5 x6; obtain ⟨x0, x1, x2, x3, x4, x5, x6⟩ := RX3.out)
  have s3 := B3.out.size
  refine (stepper_any S R T ta tn tc 0 _ HL.out AT3.out (by omega) (fun g off e => by have := TBK.out g off e; omega)).mono ?_
  rintro e w4 ⟨rfl, st, b4, s4⟩
  rw [Nat.zero_add] at st
  have ST4 := hide' st
  have B4 := hide' b4
  clear st b4 x0 x1 x2 x3 x4 x5 x6
  go_wp2
  go_loopw [11] (fun iv wr => ∃ i : Nat, iv = .int .i64 (i : Int) ∧ i ≤ n ∧ ST wr w3.heap.size (w3.heap.size + 2) (w3.heap.size + 1) S R (2 * R) T ta tn tc (List.replicate (2 * R) 0) ∧ Below w4.heap.size w4 wr) (fun iv _ => n - (intOf iv).toNat)
  case atStart => exact ⟨0, rfl, by omega, ST4.out, Below.refl _ _⟩
  case round =>
    obtain ⟨i, rfl, hi', st, rd⟩ := hrel
    have STi := hide' st
    have RDi := hide' rd
    clear st rd
    by_cases d : (i : Int) < (n : Int)
    · go_wp2_with fail
      refine (step_none S R T ta tn tc w3.heap.size (w3.heap.size + 2) (w3.heap.size + 1) _ HL.out STi.out).mono ?_
      rintro e w5 ⟨rfl, st5, rd5⟩
      have ST5 := hide' st5
      have RD5 := hide' (RDi.out.trans (rd5.mono RDi.out.size))
      clear st5 rd5
      go_wp2
      exact ⟨⟨i + 1, by go_num, by omega, ST5.out, RD5.out⟩, by simp [intOf]; omega⟩
    · have BF := hide' (show Below w.heap.size w wr from (((B2.out.trans (B3.out.mono (by omega))).trans (B4.out.mono (by omega))).trans (RDi.out.mono (by omega))))
      go_wp2
      go_ret2
      exact ⟨.slice none 0 0, rfl, Or.inl ⟨rfl, rfl⟩, FreshL.nil _, BF.out⟩

set_option maxRecDepth 100000 in
set_option maxHeartbeats 1600000 in
theorem lineRun_nil_none (S R : Nat) (T : List Int) (ta : Option Addr) (tn tc : Nat) (wc n : Nat) (w : World)
    (hL : LineOk S R T) (hT : ArgP w T ta tn tc) (hW : ArgP w [] none 0 wc) (hn : n ≤ 100000) :
    Calls Try.prog 16 #[.agg #[.int .i64 2, .int .i64 0, .int .i64 0, .int .i64 (S : Int), .int .i64 (R : Int), .slice ta tn tc, .string ⟨#[]⟩], .slice none 0 wc, .int .i64 (n : Int)] w (ListPost [] w) := by
  obtain ⟨w1, hw1⟩ : ∃ w1, w.alloc (.cells #[.int .i64 2, .int .i64 0, .int .i64 0, .int .i64 (S : Int), .int .i64 (R : Int), .slice ta tn tc, .string ⟨#[]⟩] 28) = w1 := ⟨_, rfl⟩
  have z1 : w1.heap.size = w.heap.size + 1 := by rw [← hw1]; simp
  have BB := hide' (show Below w.heap.size w w1 by rw [← hw1]; exact (Below.refl _ _).alloc (Nat.le_refl _) _)
  have RX := hide' (show RB w.heap.size S R (.slice ta tn tc) w1 by rw [← hw1]; exact RB.new w S R _ _)
  have AT := hide' (hT.below BB.out)
  have AW := hide' (hW.below BB.out)
  have HL := hide' hL
  have TBK := hide' (hT.blk (by have := hT.len; have := hL.pos; omega))
  have HE := hide' (wordE_ok (S := S) (ws := []) (by simp) (fun x hx => by simp at hx))
  obtain ⟨i0, hi, hz0, hz1, hz2⟩ := info_parts info_int
  have n1 : ¬ (n : Int) < 0 := by omega
  have n2 : ¬ (100000 : Int) < (n : Int) := by omega
  clear hT hW hL
  obtain ⟨x0, x1, x2, x3, x4, x5, x6⟩ := RX.out
  go_enter Try.func16, Try.ntmps16
  go_wp2_with fail
  refine (lineCheck_line S R T ta tn tc [] none 0 wc _ HL.out AT.out AW.out).mono ?_
  rw [HE.out, show errOf 0 = .nilIface from rfl]
  rintro e w2 ⟨rfl, b2⟩
  have s2 := b2.size
  have B2 := hide' (BB.out.trans (b2.mono BB.out.size))
  have RX2 := hide' (RX.out.next b2)
  have AT2 := hide' (AT.out.below b2)
  clear x0 x1 x2 x3 x4 x5 x6 hw1 b2
  obtain ⟨x0, x1, x2, x3, x4, x5, x6⟩ := RX2.out
  go_wp2_with fail
  obtain ⟨w3, hw3⟩ : ∃ w3, w3 = w2 := ⟨_, rfl⟩
  rw [← hw3]
  have B3 := hide' (show Below w2.heap.size w2 w3 by rw [hw3]; exact Below.refl _ _)
  have AT3 := hide' (AT2.out.below B3.out)
  clear hw3
  have s3 := B3.out.size
  refine (stepper_any S R T ta tn tc 0 _ HL.out AT3.out (by omega) (fun g off e => by have := TBK.out g off e; omega)).mono ?_
  rintro e w4 ⟨rfl, st, b4, s4⟩
  rw [Nat.zero_add] at st
  have ST4 := hide' st
  have B4 := hide' b4
  clear st b4 x0 x1 x2 x3 x4 x5 x6
  go_wp2
  go_loopw [11] (fun iv wr => ∃ i : Nat, iv = .int .i64 (i : Int) ∧ i ≤ n ∧ ST wr w3.heap.size (w3.heap.size + 2) (w3.heap.size + 1) S R (2 * R) T ta tn tc (List.replicate (2 * R) 0) ∧ Below w4.heap.size w4 wr) (fun iv _ => n - (intOf iv).toNat)
  case atStart => exact ⟨0, rfl, by omega, ST4.out, Below.refl _ _⟩
  case round =>
    obtain ⟨i, rfl, hi', st, rd⟩ := hrel
    have STi := hide' st
    have RDi := hide' rd
    clear st rd
    by_cases d : (i : Int) < (n : Int)
    · go_wp2_with fail
      refine (step_none S R T ta tn tc w3.heap.size (w3.heap.size + 2) (w3.heap.size + 1) _ HL.out STi.out).mono ?_
      rintro e w5 ⟨rfl, st5, rd5⟩
      have ST5 := hide' st5
      have RD5 := hide' (RDi.out.trans (rd5.mono RDi.out.size))
      clear st5 rd5
      go_wp2
      exact ⟨⟨i + 1, by go_num, by omega, ST5.out, RD5.out⟩, by simp [intOf]; omega⟩
    · have BF := hide' (show Below w.heap.size w wr from (((B2.out.trans (B3.out.mono (by omega))).trans (B4.out.mono (by omega))).trans (RDi.out.mono (by omega))))
      go_wp2
      go_ret2
      exact ⟨.slice none 0 0, rfl, Or.inl ⟨rfl, rfl⟩, FreshL.nil _, BF.out⟩

theorem lineRun_ok (S R : Nat) (T : List Int) (ta : Option Addr) (tn tc : Nat) (ws : List Int) (wa : Option Addr) (wc n : Nat) (w : World)
    (hL : LineOk S R T) (hT : ArgP w T ta tn tc) (hW : ArgP w ws wa ws.length wc) (he : wordE S ws = 0) (hn : n ≤ 100000) :
    Calls Try.prog 16 #[.agg #[.int .i64 2, .int .i64 0, .int .i64 0, .int .i64 (S : Int), .int .i64 (R : Int), .slice ta tn tc, .string ⟨#[]⟩], .slice wa ws.length wc, .int .i64 (n : Int)] w (ListPost (runL S R T n ws) w) := by
  cases ws with
  | nil =>
    rw [runL_nil]
    cases wa with
    | none => exact lineRun_nil_none S R T ta tn tc wc n w hL hT hW hn
    | some wa => exact lineRun_nil_some S R T ta tn tc wa wc n w hL hT hW hn
  | cons x xs =>
    obtain ⟨g, off, e, -⟩ := hW.cells 0 (by simp)
    subst e
    refine (lineRun_full S R T ta tn tc (x :: xs) ⟨g, off, none⟩ wc n w hL hT hW he (by simp) hn).mono ?_
    rintro e w' ⟨g, c, rfl, h1, h2, h3, h4, h5⟩
    exact ⟨_, rfl, h4.tabC (runL_length _ _ _ _ _), FreshL.mk h1 h2 h3, h5⟩

set_option maxRecDepth 100000 in
set_option maxHeartbeats 1600000 in
theorem lineStep_ok (S R : Nat) (T : List Int) (ta : Option Addr) (tn tc : Nat) (ws : List Int) (wa : Option Addr) (wc : Nat) (w : World)
    (hL : LineOk S R T) (hT : ArgP w T ta tn tc) (hW : ArgP w ws wa ws.length wc) (he : wordE S ws = 0) :
    Calls Try.prog 9 #[.agg #[.int .i64 2, .int .i64 0, .int .i64 0, .int .i64 (S : Int), .int .i64 (R : Int), .slice ta tn tc, .string ⟨#[]⟩], .slice wa ws.length wc] w (ListPost (stepL S R T ws) w) := by
  obtain ⟨w1, hw1⟩ : ∃ w1, w.alloc (.cells #[.int .i64 2, .int .i64 0, .int .i64 0, .int .i64 (S : Int), .int .i64 (R : Int), .slice ta tn tc, .string ⟨#[]⟩] 28) = w1 := ⟨_, rfl⟩
  have z1 : w1.heap.size = w.heap.size + 1 := by rw [← hw1]; simp
  have BB := hide' (show Below w.heap.size w w1 by rw [← hw1]; exact (Below.refl _ _).alloc (Nat.le_refl _) _)
  have RX := hide' (show RB w.heap.size S R (.slice ta tn tc) w1 by rw [← hw1]; exact RB.new w S R _ _)
  have AT := hide' (hT.below BB.out)
  have AW := hide' (hW.below BB.out)
  have HL := hide' hL
  have HE := hide' he
  clear hT hW hL he
  obtain ⟨x0, x1, x2, x3, x4, x5, x6⟩ := RX.out
  go_enter Try.func9, Try.ntmps9
  go_wp2_with fail
  refine (lineRun_ok S R T ta tn tc ws wa wc 1 _ HL.out AT.out AW.out HE.out (by omega)).mono ?_
  rintro e w2 ⟨v, rfl, tv, fv, b2⟩
  have B2 := hide' (BB.out.trans (b2.mono BB.out.size))
  have TV := hide' (show Tab w2 v (stepL S R T ws) from tv)
  have FV := hide' (show FreshL w v from fun g k c e => by have := fv g k c e; exact ⟨by omega, this.2.1, this.2.2⟩)
  clear x0 x1 x2 x3 x4 x5 x6 b2 tv fv hw1
  go_wp2
  go_ret2
  exact ⟨v, rfl, TV.out, FV.out, B2.out⟩

set_option maxRecDepth 100000 in
set_option maxHeartbeats 1600000 in
theorem lineStep_word (S R : Nat) (T : List Int) (ta : Option Addr) (tn tc : Nat) (ws : List Int) (wa : Option Addr) (wc : Nat) (w : World)
    (hL : LineOk S R T) (hT : ArgP w T ta tn tc) (hW : ArgP w ws wa ws.length wc) (he : wordE S ws ≠ 0) :
    Calls Try.prog 9 #[.agg #[.int .i64 2, .int .i64 0, .int .i64 0, .int .i64 (S : Int), .int .i64 (R : Int), .slice ta tn tc, .string ⟨#[]⟩], .slice wa ws.length wc] w (ListErr (wordE S ws) w) := by
  obtain ⟨w1, hw1⟩ : ∃ w1, w.alloc (.cells #[.int .i64 2, .int .i64 0, .int .i64 0, .int .i64 (S : Int), .int .i64 (R : Int), .slice ta tn tc, .string ⟨#[]⟩] 28) = w1 := ⟨_, rfl⟩
  have z1 : w1.heap.size = w.heap.size + 1 := by rw [← hw1]; simp
  have BB := hide' (show Below w.heap.size w w1 by rw [← hw1]; exact (Below.refl _ _).alloc (Nat.le_refl _) _)
  have RX := hide' (show RB w.heap.size S R (.slice ta tn tc) w1 by rw [← hw1]; exact RB.new w S R _ _)
  have AT := hide' (hT.below BB.out)
  have AW := hide' (hW.below BB.out)
  have HL := hide' hL
  have HE := hide' he
  clear hT hW hL he
  obtain ⟨x0, x1, x2, x3, x4, x5, x6⟩ := RX.out
  go_enter Try.func9, Try.ntmps9
  go_wp2_with fail
  refine (lineRun_word S R T ta tn tc ws wa wc 1 _ HL.out AT.out AW.out HE.out).mono ?_
  rintro e w2 ⟨rfl, b2⟩
  have B2 := hide' (BB.out.trans (b2.mono BB.out.size))
  clear x0 x1 x2 x3 x4 x5 x6 b2 hw1
  go_wp2
  go_ret2
  exact ⟨rfl, B2.out⟩

set_option maxRecDepth 100000 in
set_option maxHeartbeats 1600000 in
theorem lineStep_off (o : Out) (ta : Option Addr) (tn tc : Nat) (v : Value) (w : World) (hR : ArgR w o ta tn tc) (h : ¬ (Good o ∧ o.kind = 2)) :
    Calls Try.prog 9 #[.agg #[.int .i64 o.kind, .int .i64 o.born, .int .i64 o.stay, .int .i64 o.states, .int .i64 o.radius, .slice ta tn tc, .string o.turns], v] w (ListErr 1 w) := by
  obtain ⟨w1, hw1⟩ : ∃ w1, w.alloc (.cells #[.int .i64 o.kind, .int .i64 o.born, .int .i64 o.stay, .int .i64 o.states, .int .i64 o.radius, .slice ta tn tc, .string o.turns] 28) = w1 := ⟨_, rfl⟩
  have BB := hide' (show Below w.heap.size w w1 by rw [← hw1]; exact (Below.refl _ _).alloc (Nat.le_refl _) _)
  have RX := hide' (show RBo w.heap.size o (.slice ta tn tc) w1 by rw [← hw1]; exact RBo.new w o _ _)
  have AT := hide' (show ArgR w1 o ta tn tc by rw [← hw1]; exact hR.alloc _)
  have HH := hide' h
  clear hR h
  obtain ⟨x0, x1, x2, x3, x4, x5, x6⟩ := RX.out
  go_enter Try.func9, Try.ntmps9
  go_wp2_with fail
  refine (lineRun_off o ta tn tc v 1 _ AT.out HH.out).mono ?_
  rintro e w2 ⟨rfl, b2⟩
  have B2 := hide' (BB.out.trans (b2.mono BB.out.size))
  clear x0 x1 x2 x3 x4 x5 x6 b2 hw1
  go_wp2
  go_ret2
  exact ⟨rfl, B2.out⟩

end Go.Proofs.Ytdhbdkkchobinaa

