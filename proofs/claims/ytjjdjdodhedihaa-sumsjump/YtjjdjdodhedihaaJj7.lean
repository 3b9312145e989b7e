/-
  What the last text of this claim leans on, part 7: Li9, Lj1, Ob1, Ob2, Ob3, Ob4, Oc1.
-/
import Derived.Test.YtjjdjdodhedihaaJj6
import Derived.Test.YtjjdjdodhedihaaJj1
import Derived.Deep.RegionHeld3
import Derived.RangeFuncNested
import Derived.RangeFuncBound
import Derived.RangeFuncCalls
import Derived.RangeFuncLeaves
import Derived.Shelf.Abstract
import Derived.Shelf.RegionOpen
import Derived.OwnWalkIn
import Derived.TacticsInMore
import Derived.LoopNIn
import Derived.LoopIn
namespace Go.Proofs.Ytjjdjdodhedihaa
open Go.RowKit
set_option linter.unusedVariables false

theorem ownsRow_cel {w : World} {base : Nat} {e : TypeId} {v : Value} {xs : List Int} (h : w.ownsRow base e 1 v (0 + xs.length) ([] ++ xs.map fun x => .int .i64 x)) (h0 : 0 < xs.length) :
    ∃ g cap, v = .slice (some ⟨g, 0, none⟩) xs.length cap ∧ base ≤ g ∧ xs.length ≤ cap ∧ cap ≤ maxLen ∧ Cel w g xs := by
  rw [Nat.zero_add, List.nil_append] at h
  rcases h.2 with ⟨hv, hn⟩ | ⟨g, cap, cur, hv, hg, hh, hc, hm, hs, ht⟩
  · omega
  · refine ⟨g, cap, hv, hg, hc, hm, (Array.getElem?_eq_some_iff.1 hh).1, fun k hk => ?_, fun k => by simp [World.frozen?, hh]⟩
    have h1 : (cur.toList.take (xs.length * 1))[k]? = some (.int .i64 xs[k]) := by
      rw [ht, List.getElem?_map, List.getElem?_eq_getElem hk]; rfl
    rw [List.getElem?_take] at h1
    simp only [World.cell?, hh]
    have : k < xs.length * 1 := by omega
    rw [if_pos this] at h1
    rw [show xs.getD k 0 = xs[k] by simp [List.getD, hk]]
    simpa using h1
theorem news_ints {w : World} {xs : List Int} {a : Addr} {n c : Nat} (h : ArgP w xs (some a) n c) : ∀ (j : Nat) (u : Value), (xs.map fun x => Value.int .i64 x)[j]? = some u → w.cell? (a.add j) = some u := by
  intro j u hu
  rw [List.getElem?_map] at hu
  obtain ⟨x, hx, rfl⟩ := Option.map_eq_some_iff.1 hu
  obtain ⟨hj, he⟩ := List.getElem?_eq_some_iff.1 hx
  obtain ⟨g, off, e, hg, hc⟩ := h.cells j hj
  injection e with e1
  subst e1
  have ea : (⟨g, off, none⟩ : Addr).add j = ⟨g, off + j, none⟩ := by
    unfold Addr.add
    split
    · rename_i hz; subst hz; rfl
    · rfl
  rw [ea, hc, he]
theorem grown_below {w w' : World} (h : w.grownBy w' none) : Below w.heap.size w w' := ⟨h.os, h.tape, h.output, h.size, fun k hk => h.block k hk (by simp)⟩

set_option maxRecDepth 100000 in
set_option maxHeartbeats 3200000 in
theorem lineRun_full (S R : Nat) (T : List Int) (ta : Option Addr) (tn tc : Nat) (ws : List Int) (wa : Addr) (wc n : Nat) (w : World)
    (hL : LineOk S R T) (hT : ArgP w T ta tn tc) (hW : ArgP w ws (some wa) ws.length wc) (he : wordE S ws = 0) (h0 : 0 < ws.length) (hn : n ≤ 100000) :
    Calls Try.prog 5 #[.agg #[.int .i64 2, .int .i64 0, .int .i64 0, .int .i64 (S : Int), .int .i64 (R : Int), .slice ta tn tc, .string ⟨#[]⟩], .slice (some wa) ws.length wc, .int .i64 (n : Int)] w fun e w' => ∃ g c, e = .returned (.tuple #[.slice (some ⟨g, 0, none⟩) ws.length c, .nilIface]) ∧ w.heap.size ≤ g ∧ ws.length ≤ c ∧ c ≤ maxLen ∧ Cel w' g (runL S R T n ws) ∧ Below w.heap.size w w' := by
  obtain ⟨w1, hw1⟩ : ∃ w1, w.alloc (.cells #[.int .i64 2, .int .i64 0, .int .i64 0, .int .i64 (S : Int), .int .i64 (R : Int), .slice ta tn tc, .string ⟨#[]⟩] 24) = w1 := ⟨_, rfl⟩
  have z1 : w1.heap.size = w.heap.size + 1 := by rw [← hw1]; simp
  have BB := hide' (show Below w.heap.size w w1 by rw [← hw1]; exact (Below.refl _ _).alloc (Nat.le_refl _) _)
  have RX := hide' (show RB w.heap.size S R (.slice ta tn tc) w1 by rw [← hw1]; exact RB.new w S R _ _)
  have AT := hide' (hT.below BB.out)
  have AW := hide' (hW.below BB.out)
  obtain ⟨hl, hok⟩ := wordE_zero he
  have TBK := hide' (hT.blk (by have := hT.len; have := hL.pos; omega))
  have HL := hide' hL
  have HE := hide' he
  have HO := hide' hok
  have H0 := hide' h0
  have hlw : ws.length ≤ 1000 := hl
  obtain ⟨i0, hi, hz0, hz1, hz2⟩ := info_parts info_int
  have n1 : ¬ (n : Int) < 0 := by omega
  have n2 : ¬ (100000 : Int) < (n : Int) := by omega
  clear hT hW hL he hok h0 hl
  obtain ⟨x0, x1, x2, x3, x4, x5, x6⟩ := RX.out
  go_enter Try.func5, Try.ntmps5
  go_wp2_with fail
  refine (lineCheck_line S R T ta tn tc ws (some wa) ws.length wc _ HL.out AT.out AW.out).mono ?_
  rw [HE.out, show errOf 0 = .nilIface from rfl]
  rintro e w2 ⟨rfl, b2⟩
  have s2 := b2.size
  have B2 := hide' (BB.out.trans (b2.mono BB.out.size))
  have RX2 := hide' (RX.out.next b2)
  have AT2 := hide' (AT.out.below b2)
  have NW := hide' (news_ints (AW.out.below b2))
  clear x0 x1 x2 x3 x4 x5 x6 hw1 b2
  obtain ⟨x0, x1, x2, x3, x4, x5, x6⟩ := RX2.out
  go_wp2_with (at_builtin; refine wpList_append_own _ rfl _ _ 22 rfl w2.heap.size 3 i0 (.int .i64 0) 1 8 Try.underlying22 hi hz0 hz1 hz2 rfl (by decide) (.slice none 0 0) 0 [] rfl ⟨by simp, Or.inl ⟨rfl, by simp⟩⟩ wa ws.length wc (ws.map fun x => .int .i64 x) rfl (by simp) NW.out (fun x hx => by obtain ⟨y, -, rfl⟩ := List.mem_map.1 hx; rfl) (by unfold maxLen; omega) (by omega) (by simp) ?_; intro v' w3 hown' hgrow3 hnil3; obtain ⟨gr, cr, rfl, hgr, hc1, hc2, ce⟩ := ownsRow_cel hown' H0.out; have CE := hide' ce; have B3 := hide' (grown_below hgrow3); have RX3 := hide' (RX2.out.next B3.out); have AT3 := hide' (AT2.out.below B3.out); have C1 := hide' hc1; have C2 := hide' hc2; clear hgrow3 hown' hnil3 ce x0 x1 x2 x3 x4 x5 x6 hc1 hc2; obtain ⟨x0, x1, x2, x3, x4, x5, x6⟩ := RX3.out)
  have s3 := B3.out.size
  have lgr := CE.out.lt
  refine (stepper_any S R T ta tn tc ws.length _ HL.out AT3.out hlw (fun g off e => by have := TBK.out g off e; omega)).mono ?_
  rintro e w4 ⟨rfl, st, b4, s4⟩
  have ST4 := hide' st
  have B4 := hide' b4
  have CE4 := hide' (CE.out.below b4)
  clear st b4 x0 x1 x2 x3 x4 x5 x6
  have LN := hide' (fun i => runL_length (S : Int) R T ws i)
  have LO := hide' (fun i => runL_ok (S := (S : Int)) (R := R) (T := T) (xs := ws) (by omega) HL.out.lenI HL.out.ok HO.out i)
  go_wp2
  go_loopw [11] (fun iv wr => ∃ i : Nat, iv = .int .i64 (i : Int) ∧ i ≤ n ∧ Cel wr gr (runL S R T i ws) ∧ (∃ zs, ST wr w3.heap.size (w3.heap.size + 2) (w3.heap.size + 1) S R (ws.length + 2 * R) T ta tn tc zs) ∧ Rd2 (w3.heap.size + 1) gr w4 wr) (fun iv _ => n - (intOf iv).toNat)
  case atStart => exact ⟨0, rfl, by omega, CE4.out, ⟨_, ST4.out⟩, Rd2.refl _ _ _⟩
  case round =>
    obtain ⟨i, rfl, hi, ce, ⟨zs, st⟩, rd⟩ := hrel
    have CEi := hide' ce
    have STi := hide' st
    have RDi := hide' rd
    clear ce st rd
    by_cases d : (i : Int) < (n : Int)
    · go_wp2_with fail
      refine (step_ring S R T ta tn tc w3.heap.size (w3.heap.size + 2) (w3.heap.size + 1) (ws.length + 2 * R) gr cr ws.length (runL S R T i ws) zs _ HL.out STi.out CEi.out (LN.out i) rfl H0.out hlw (LO.out i) (by omega) (by omega) (by omega) (fun g off e => by have := TBK.out g off e; omega)).mono ?_
      rintro e w5 ⟨rfl, st5, ce5, rd5⟩
      have ST5 := hide' st5
      have CE5 := hide' (show Cel w5 gr (runL S R T (i + 1) ws) from ce5)
      have RD5 := hide' (RDi.out.trans rd5)
      clear st5 ce5 rd5
      go_wp2
      exact ⟨⟨i + 1, by go_num, by omega, CE5.out, ⟨_, ST5.out⟩, RD5.out⟩, by simp [intOf]; omega⟩
    · have FIN := hide' (show Cel wr gr (runL S R T n ws) by rw [show n = i by omega]; exact CEi.out)
      have BF := hide' (show Below w.heap.size w wr from (((B2.out.trans (B3.out.mono (by omega))).trans (B4.out.mono (by omega))).trans (RDi.out.below (by omega) (by omega) (by omega))))
      go_wp2
      go_ret2
      exact ⟨gr, cr, rfl, by omega, C1.out, C2.out, FIN.out, BF.out⟩
end Go.Proofs.Ytjjdjdodhedihaa

namespace Go.Proofs.Ytjjdjdodhedihaa
open Go.RowKit
set_option linter.unusedVariables false

theorem runL_nil (S : Int) (R : Nat) (T : List Int) : ∀ n, runL S R T n [] = []
  | 0 => rfl
  | n + 1 => by rw [runL, runL_nil S R T n]; rfl

/-- A list whose block was made since, its capacity in bounds. -/
def FreshL (w : World) (v : Value) : Prop := ∀ g k c, v = .slice (some ⟨g, 0, none⟩) k c → w.heap.size ≤ g ∧ k ≤ c ∧ c ≤ maxLen
/-- A list that is answered, with no error. -/
def ListPost (xs : List Int) (w : World) (e : Ending) (w' : World) : Prop :=
  ∃ v, e = .returned (.tuple #[v, .nilIface]) ∧ Tab w' v xs ∧ FreshL w v ∧ Below w.heap.size w w'
/-- An error that is told. -/
def ListErr (f : Nat) (w : World) (e : Ending) (w' : World) : Prop :=
  e = .returned (.tuple #[.slice none 0 0, .iface 33 (.int .i64 (f : Int))]) ∧ Below w.heap.size w w'
theorem Cel.tabC {w : World} {g n c : Nat} {xs : List Int} (h : Cel w g xs) (hn : xs.length = n) : Tab w (.slice (some ⟨g, 0, none⟩) n c) xs := by
  subst hn
  exact Or.inr ⟨g, c, rfl, h.lt, fun k hk => by rw [h.cells k hk]; simp [List.getD, hk]⟩
theorem FreshL.mk {w : World} {g k c : Nat} (h : w.heap.size ≤ g) (h1 : k ≤ c) (h2 : c ≤ maxLen) : FreshL w (.slice (some ⟨g, 0, none⟩) k c) := fun g' _ _ q => by
  injection q with q1 q2 q3
  injection q1 with q4
  injection q4 with q5
  subst q2 q3 q5
  exact ⟨h, h1, h2⟩
theorem FreshL.nil (w : World) : FreshL w (.slice none 0 0) := fun _ _ _ h => by injection h with h1; cases h1
set_option maxRecDepth 100000 in
set_option maxHeartbeats 1600000 in
theorem lineRun_nil_some (S R : Nat) (T : List Int) (ta : Option Addr) (tn tc : Nat) (wa : Addr) (wc n : Nat) (w : World)
    (hL : LineOk S R T) (hT : ArgP w T ta tn tc) (hW : ArgP w [] (some wa) 0 wc) (hn : n ≤ 100000) :
    Calls Try.prog 5 #[.agg #[.int .i64 2, .int .i64 0, .int .i64 0, .int .i64 (S : Int), .int .i64 (R : Int), .slice ta tn tc, .string ⟨#[]⟩], .slice (some wa) 0 wc, .int .i64 (n : Int)] w (ListPost [] w) := by
  obtain ⟨w1, hw1⟩ : ∃ w1, w.alloc (.cells #[.int .i64 2, .int .i64 0, .int .i64 0, .int .i64 (S : Int), .int .i64 (R : Int), .slice ta tn tc, .string ⟨#[]⟩] 24) = w1 := ⟨_, rfl⟩
  have z1 : w1.heap.size = w.heap.size + 1 := by rw [← hw1]; simp
  have BB := hide' (show Below w.heap.size w w1 by rw [← hw1]; exact (Below.refl _ _).alloc (Nat.le_refl _) _)
  have RX := hide' (show RB w.heap.size S R (.slice ta tn tc) w1 by rw [← hw1]; exact RB.new w S R _ _)
  have AT := hide' (hT.below BB.out)
  have AW := hide' (hW.below BB.out)
  have HL := hide' hL
  have TBK := hide' (hT.blk (by have := hT.len; have := hL.pos; omega))
  have HE := hide' (wordE_ok (S := S) (ws := []) (by simp) (fun x hx => by simp at hx))
  obtain ⟨i0, hi, hz0, hz1, hz2⟩ := info_parts info_int
  have n1 : ¬ (n : Int) < 0 := by omega
  have n2 : ¬ (100000 : Int) < (n : Int) := by omega
  clear hT hW hL
  obtain ⟨x0, x1, x2, x3, x4, x5, x6⟩ := RX.out
  go_enter Try.func5, Try.ntmps5
  go_wp2_with fail
  refine (lineCheck_line S R T ta tn tc [] (some wa) 0 wc _ HL.out AT.out AW.out).mono ?_
  rw [HE.out, show errOf 0 = .nilIface from rfl]
  rintro e w2 ⟨rfl, b2⟩
  have s2 := b2.size
  have B2 := hide' (BB.out.trans (b2.mono BB.out.size))
  have RX2 := hide' (RX.out.next b2)
  have AT2 := hide' (AT.out.below b2)
  clear x0 x1 x2 x3 x4 x5 x6 hw1 b2
  obtain ⟨x0, x1, x2, x3, x4, x5, x6⟩ := RX2.out
  go_wp2_with (at_builtin; refine wpList_append_own _ rfl _ _ 22 rfl w2.heap.size 3 i0 (.int .i64 0) 1 8 Try.underlying22 hi hz0 hz1 hz2 rfl (by decide) (.slice none 0 0) 0 [] rfl ⟨by simp, Or.inl ⟨rfl, by simp⟩⟩ wa 0 wc [] rfl (by simp) (fun j u hu => by simp at hu) (fun x hx => by simp at hx) (by unfold maxLen; omega) (by omega) (by simp) ?_; intro v' w3 hown' hgrow3 hnil3; obtain rfl := hnil3.2 ⟨rfl, rfl⟩; have B3 := hide' (grown_below hgrow3); have RX3 := hide' (RX2.out.next B3.out); have AT3 := hide' (AT2.out.below B3.out); clear hgrow3 hown' hnil3 x0 x1 x2 x3 x4 x5 x6; obtain ⟨x0, x1, x2, x3, x4, x5, x6⟩ := RX3.out)
  have s3 := B3.out.size
  refine (stepper_any S R T ta tn tc 0 _ HL.out AT3.out (by omega) (fun g off e => by have := TBK.out g off e; omega)).mono ?_
  rintro e w4 ⟨rfl, st, b4, s4⟩
  rw [Nat.zero_add] at st
  have ST4 := hide' st
  have B4 := hide' b4
  clear st b4 x0 x1 x2 x3 x4 x5 x6
  go_wp2
  go_loopw [11] (fun iv wr => ∃ i : Nat, iv = .int .i64 (i : Int) ∧ i ≤ n ∧ ST wr w3.heap.size (w3.heap.size + 2) (w3.heap.size + 1) S R (2 * R) T ta tn tc (List.replicate (2 * R) 0) ∧ Below w4.heap.size w4 wr) (fun iv _ => n - (intOf iv).toNat)
  case atStart => exact ⟨0, rfl, by omega, ST4.out, Below.refl _ _⟩
  case round =>
    obtain ⟨i, rfl, hi', st, rd⟩ := hrel
    have STi := hide' st
    have RDi := hide' rd
    clear st rd
    by_cases d : (i : Int) < (n : Int)
    · go_wp2_with fail
      refine (step_none S R T ta tn tc w3.heap.size (w3.heap.size + 2) (w3.heap.size + 1) _ HL.out STi.out).mono ?_
      rintro e w5 ⟨rfl, st5, rd5⟩
      have ST5 := hide' st5
      have RD5 := hide' (RDi.out.trans (rd5.mono RDi.out.size))
      clear st5 rd5
      go_wp2
      exact ⟨⟨i + 1, by go_num, by omega, ST5.out, RD5.out⟩, by simp [intOf]; omega⟩
    · have BF := hide' (show Below w.heap.size w wr from (((B2.out.trans (B3.out.mono (by omega))).trans (B4.out.mono (by omega))).trans (RDi.out.mono (by omega))))
      go_wp2
      go_ret2
      exact ⟨.slice none 0 0, rfl, Or.inl ⟨rfl, rfl⟩, FreshL.nil _, BF.out⟩

set_option maxRecDepth 100000 in
set_option maxHeartbeats 1600000 in
theorem lineRun_nil_none (S R : Nat) (T : List Int) (ta : Option Addr) (tn tc : Nat) (wc n : Nat) (w : World)
    (hL : LineOk S R T) (hT : ArgP w T ta tn tc) (hW : ArgP w [] none 0 wc) (hn : n ≤ 100000) :
    Calls Try.prog 5 #[.agg #[.int .i64 2, .int .i64 0, .int .i64 0, .int .i64 (S : Int), .int .i64 (R : Int), .slice ta tn tc, .string ⟨#[]⟩], .slice none 0 wc, .int .i64 (n : Int)] w (ListPost [] w) := by
  obtain ⟨w1, hw1⟩ : ∃ w1, w.alloc (.cells #[.int .i64 2, .int .i64 0, .int .i64 0, .int .i64 (S : Int), .int .i64 (R : Int), .slice ta tn tc, .string ⟨#[]⟩] 24) = w1 := ⟨_, rfl⟩
  have z1 : w1.heap.size = w.heap.size + 1 := by rw [← hw1]; simp
  have BB := hide' (show Below w.heap.size w w1 by rw [← hw1]; exact (Below.refl _ _).alloc (Nat.le_refl _) _)
  have RX := hide' (show RB w.heap.size S R (.slice ta tn tc) w1 by rw [← hw1]; exact RB.new w S R _ _)
  have AT := hide' (hT.below BB.out)
  have AW := hide' (hW.below BB.out)
  have HL := hide' hL
  have TBK := hide' (hT.blk (by have := hT.len; have := hL.pos; omega))
  have HE := hide' (wordE_ok (S := S) (ws := []) (by simp) (fun x hx => by simp at hx))
  obtain ⟨i0, hi, hz0, hz1, hz2⟩ := info_parts info_int
  have n1 : ¬ (n : Int) < 0 := by omega
  have n2 : ¬ (100000 : Int) < (n : Int) := by omega
  clear hT hW hL
  obtain ⟨x0, x1, x2, x3, x4, x5, x6⟩ := RX.out
  go_enter Try.func5, Try.ntmps5
  go_wp2_with fail
  refine (lineCheck_line S R T ta tn tc [] none 0 wc _ HL.out AT.out AW.out).mono ?_
  rw [HE.out, show errOf 0 = .nilIface from rfl]
  rintro e w2 ⟨rfl, b2⟩
  have s2 := b2.size
  have B2 := hide' (BB.out.trans (b2.mono BB.out.size))
  have RX2 := hide' (RX.out.next b2)
  have AT2 := hide' (AT.out.below b2)
  clear x0 x1 x2 x3 x4 x5 x6 hw1 b2
  obtain ⟨x0, x1, x2, x3, x4, x5, x6⟩ := RX2.out
  go_wp2_with fail
  obtain ⟨w3, hw3⟩ : ∃ w3, w3 = w2 := ⟨_, rfl⟩
  rw [← hw3]
  have B3 := hide' (show Below w2.heap.size w2 w3 by rw [hw3]; exact Below.refl _ _)
  have AT3 := hide' (AT2.out.below B3.out)
  clear hw3
  have s3 := B3.out.size
  refine (stepper_any S R T ta tn tc 0 _ HL.out AT3.out (by omega) (fun g off e => by have := TBK.out g off e; omega)).mono ?_
  rintro e w4 ⟨rfl, st, b4, s4⟩
  rw [Nat.zero_add] at st
  have ST4 := hide' st
  have B4 := hide' b4
  clear st b4 x0 x1 x2 x3 x4 x5 x6
  go_wp2
  go_loopw [11] (fun iv wr => ∃ i : Nat, iv = .int .i64 (i : Int) ∧ i ≤ n ∧ ST wr w3.heap.size (w3.heap.size + 2) (w3.heap.size + 1) S R (2 * R) T ta tn tc (List.replicate (2 * R) 0) ∧ Below w4.heap.size w4 wr) (fun iv _ => n - (intOf iv).toNat)
  case atStart => exact ⟨0, rfl, by omega, ST4.out, Below.refl _ _⟩
  case round =>
    obtain ⟨i, rfl, hi', st, rd⟩ := hrel
    have STi := hide' st
    have RDi := hide' rd
    clear st rd
    by_cases d : (i : Int) < (n : Int)
    · go_wp2_with fail
      refine (step_none S R T ta tn tc w3.heap.size (w3.heap.size + 2) (w3.heap.size + 1) _ HL.out STi.out).mono ?_
      rintro e w5 ⟨rfl, st5, rd5⟩
      have ST5 := hide' st5
      have RD5 := hide' (RDi.out.trans (rd5.mono RDi.out.size))
      clear st5 rd5
      go_wp2
      exact ⟨⟨i + 1, by go_num, by omega, ST5.out, RD5.out⟩, by simp [intOf]; omega⟩
    · have BF := hide' (show Below w.heap.size w wr from (((B2.out.trans (B3.out.mono (by omega))).trans (B4.out.mono (by omega))).trans (RDi.out.mono (by omega))))
      go_wp2
      go_ret2
      exact ⟨.slice none 0 0, rfl, Or.inl ⟨rfl, rfl⟩, FreshL.nil _, BF.out⟩

theorem lineRun_ok (S R : Nat) (T : List Int) (ta : Option Addr) (tn tc : Nat) (ws : List Int) (wa : Option Addr) (wc n : Nat) (w : World)
    (hL : LineOk S R T) (hT : ArgP w T ta tn tc) (hW : ArgP w ws wa ws.length wc) (he : wordE S ws = 0) (hn : n ≤ 100000) :
    Calls Try.prog 5 #[.agg #[.int .i64 2, .int .i64 0, .int .i64 0, .int .i64 (S : Int), .int .i64 (R : Int), .slice ta tn tc, .string ⟨#[]⟩], .slice wa ws.length wc, .int .i64 (n : Int)] w (ListPost (runL S R T n ws) w) := by
  cases ws with
  | nil =>
    rw [runL_nil]
    cases wa with
    | none => exact lineRun_nil_none S R T ta tn tc wc n w hL hT hW hn
    | some wa => exact lineRun_nil_some S R T ta tn tc wa wc n w hL hT hW hn
  | cons x xs =>
    obtain ⟨g, off, e, -⟩ := hW.cells 0 (by simp)
    subst e
    refine (lineRun_full S R T ta tn tc (x :: xs) ⟨g, off, none⟩ wc n w hL hT hW he (by simp) hn).mono ?_
    rintro e w' ⟨g, c, rfl, h1, h2, h3, h4, h5⟩
    exact ⟨_, rfl, h4.tabC (runL_length _ _ _ _ _), FreshL.mk h1 h2 h3, h5⟩

end Go.Proofs.Ytjjdjdodhedihaa

namespace Go.Proofs.Ytjjdjdodhedihaa
open Go.RowKit
set_option linter.unusedVariables false

theorem places_of {S R : Nat} {T : List Int} {tn : Nat} (hL : LineOk S R T) (ht : tn = T.length) : tn / S = S ^ (2 * R) := by
  rw [ht]; exact places_div hL.s2 hL.len

/-- A graph in a box of its own. -/
structure GB (p S R n : Nat) (v : Value) (w : World) : Prop where
  c0 : w.cell? ⟨p, 0, none⟩ = some (.int .i64 (S : Int))
  c1 : w.cell? ⟨p, 1, none⟩ = some (.int .i64 (2 * (R : Int)))
  c2 : w.cell? ⟨p, 2, none⟩ = some (.int .i64 (n : Int))
  c3 : w.cell? ⟨p, 3, none⟩ = some v
theorem GB.lt {p S R n : Nat} {v : Value} {w : World} (h : GB p S R n v w) : p < w.heap.size := by
  have h0 := h.c0
  unfold World.cell? at h0
  by_cases hp : p < w.heap.size
  · exact hp
  · simp only [Array.getElem?_eq_none (Nat.le_of_not_lt hp)] at h0
    cases h0
theorem GB.block {p S R n : Nat} {v : Value} {w w' : World} (h : GB p S R n v w) (e : w'.heap[p]? = w.heap[p]?) : GB p S R n v w' :=
  ⟨(World.cell?_of_block (w := w) (a := ⟨p, 0, none⟩) e).trans h.c0, (World.cell?_of_block (w := w) (a := ⟨p, 1, none⟩) e).trans h.c1, (World.cell?_of_block (w := w) (a := ⟨p, 2, none⟩) e).trans h.c2, (World.cell?_of_block (w := w) (a := ⟨p, 3, none⟩) e).trans h.c3⟩
theorem GB.next {p S R n : Nat} {v : Value} {w w' : World} (h : GB p S R n v w) (hb : Below w.heap.size w w') : GB p S R n v w' := h.block (hb.block p h.lt)
theorem GB.new (w : World) (S R n : Nat) (v : Value) (t : TypeId) : GB w.heap.size S R n v (w.alloc (.cells #[.int .i64 (S : Int), .int .i64 (2 * (R : Int)), .int .i64 (n : Int), v] t)) :=
  ⟨by rw [World.cell?_alloc_at _ _ _ _ rfl]; rfl, by rw [World.cell?_alloc_at _ _ _ _ rfl]; rfl, by rw [World.cell?_alloc_at _ _ _ _ rfl]; rfl, by rw [World.cell?_alloc_at _ _ _ _ rfl]; rfl⟩

end Go.Proofs.Ytjjdjdodhedihaa

namespace Go.Proofs.Ytjjdjdodhedihaa
open Go.RowKit
set_option linter.unusedVariables false

/-- The graph's box and a list of the call's own. -/
structure PS (w wr : World) (S R n : Nat) (v : Value) (g : Nat) (xs : List Int) : Prop where
  gb : GB w.heap.size S R n v wr
  bl : Below w.heap.size w wr
  cl : Cel wr g xs
  lt : w.heap.size < g
theorem PS.below {w wr w' : World} {S R n g : Nat} {v : Value} {xs : List Int} (h : PS w wr S R n v g xs) (hb : Below wr.heap.size wr w') : PS w w' S R n v g xs :=
  ⟨h.gb.next hb, h.bl.trans (hb.mono h.bl.size), h.cl.below hb, h.lt⟩
theorem heap_setCell_other (w : World) (g i k : Nat) (v : Value) (h : k ≠ g) : (w.setCell ⟨g, i, none⟩ v).heap[k]? = w.heap[k]? := RowKit.Below.heap_setCell _ _ _ _ h
theorem PS.set {w wr : World} {S R n g : Nat} {v : Value} {xs : List Int} (h : PS w wr S R n v g xs) (i : Nat) (x : Int) (hi : i < xs.length) : PS w (wr.setCell ⟨g, i, none⟩ (.int .i64 x)) S R n v g (xs.set i x) :=
  ⟨h.gb.block (heap_setCell_other _ _ _ _ _ (by have := h.lt; omega)), h.bl.setCell (Nat.le_of_lt h.lt) _, h.cl.set i x hi, h.lt⟩
theorem PS.drew {w wr : World} {S R n g : Nat} {v : Value} {xs : List Int} (h : PS w wr S R n v g xs) : PS w wr.drew S R n v g xs :=
  ⟨⟨h.gb.c0, h.gb.c1, h.gb.c2, h.gb.c3⟩, h.bl.drew, ⟨h.cl.lt, h.cl.cells, h.cl.fz⟩, h.lt⟩
theorem PS.at {w wr : World} {S R n g : Nat} {v : Value} {xs : List Int} (h : PS w wr S R n v g xs) {i : Nat} (hi : i < xs.length) : wr.cell? ⟨g, i, none⟩ = some (.int .i64 (xs.getD i 0)) := h.cl.cells i hi
theorem PS.new {w wr : World} {S R n g : Nat} {v : Value} {xs : List Int} (h : PS w wr S R n v g xs) (N : Nat) (t : TypeId) : PS w (wr.alloc (.cells (madeCells #[.int .i64 0] N) t)) S R n v wr.heap.size (List.replicate N 0) :=
  ⟨h.gb.block (Below.heap_alloc _ _ _ h.gb.lt), h.bl.alloc h.bl.size _, Cel.made wr N t, Nat.lt_of_lt_of_le h.gb.lt (Nat.le_refl _)⟩
theorem PS.start (w : World) (S R n : Nat) (v : Value) (t t' : TypeId) : PS w ((w.alloc (.cells #[.int .i64 (S : Int), .int .i64 (2 * (R : Int)), .int .i64 (n : Int), v] t)).alloc (.cells (madeCells #[.int .i64 0] n) t')) S R n v (w.heap.size + 1) (List.replicate n 0) := by
  have b := GB.new w S R n v t
  have c := Cel.made (w.alloc (.cells #[.int .i64 (S : Int), .int .i64 (2 * (R : Int)), .int .i64 (n : Int), v] t)) n t'
  rw [World.size_alloc] at c
  exact ⟨b.block (Below.heap_alloc _ _ _ b.lt), ((Below.refl _ _).alloc (Nat.le_refl _) _).alloc (by simp) _, c, by omega⟩

end Go.Proofs.Ytjjdjdodhedihaa

namespace Go.Proofs.Ytjjdjdodhedihaa
open Go.RowKit
set_option linter.unusedVariables false

/-- The rule's box and a list of the call's own. -/
structure QS (w wr : World) (S R : Nat) (v : Value) (g : Nat) (xs : List Int) : Prop where
  rb : RB w.heap.size S R v wr
  bl : Below w.heap.size w wr
  cl : Cel wr g xs
  lt : w.heap.size < g
theorem QS.below {w wr w' : World} {S R g : Nat} {v : Value} {xs : List Int} (h : QS w wr S R v g xs) (hb : Below wr.heap.size wr w') : QS w w' S R v g xs :=
  ⟨h.rb.next hb, h.bl.trans (hb.mono h.bl.size), h.cl.below hb, h.lt⟩
theorem QS.set {w wr : World} {S R g : Nat} {v : Value} {xs : List Int} (h : QS w wr S R v g xs) (i : Nat) (x : Int) (hi : i < xs.length) : QS w (wr.setCell ⟨g, i, none⟩ (.int .i64 x)) S R v g (xs.set i x) :=
  ⟨h.rb.block (heap_setCell_other _ _ _ _ _ (by have := h.lt; omega)), h.bl.setCell (Nat.le_of_lt h.lt) _, h.cl.set i x hi, h.lt⟩
theorem QS.drew {w wr : World} {S R g : Nat} {v : Value} {xs : List Int} (h : QS w wr S R v g xs) : QS w wr.drew S R v g xs :=
  ⟨h.rb.block rfl, h.bl.drew, ⟨h.cl.lt, h.cl.cells, h.cl.fz⟩, h.lt⟩
theorem QS.new {w wr : World} {S R g : Nat} {v : Value} {xs : List Int} (h : QS w wr S R v g xs) (N : Nat) (t : TypeId) : QS w (wr.alloc (.cells (madeCells #[.int .i64 0] N) t)) S R v wr.heap.size (List.replicate N 0) :=
  ⟨h.rb.alloc _, h.bl.alloc h.bl.size _, Cel.made wr N t, Nat.lt_of_lt_of_le h.rb.lt (Nat.le_refl _)⟩

end Go.Proofs.Ytjjdjdodhedihaa

namespace Go.Proofs.Ytjjdjdodhedihaa
open Go.RowKit
set_option linter.unusedVariables false

def SMg (w : World) (S R : Nat) (ta : Option Addr) (tn tc : Nat) (w' : World) : Prop := w'.cell? ⟨w.heap.size, 0, none⟩ = some (.int .i64 2) ∧ w'.cell? ⟨w.heap.size, 1, none⟩ = some (.int .i64 0) ∧ w'.cell? ⟨w.heap.size, 2, none⟩ = some (.int .i64 0) ∧ w'.cell? ⟨w.heap.size, 3, none⟩ = some (.int .i64 (S : Int)) ∧ w'.cell? ⟨w.heap.size, 4, none⟩ = some (.int .i64 (R : Int)) ∧ w'.cell? ⟨w.heap.size, 5, none⟩ = some (.slice ta tn tc) ∧ w'.cell? ⟨w.heap.size, 6, none⟩ = some (.string ⟨#[]⟩)
theorem SMg.of {w w' : World} {S R : Nat} {ta : Option Addr} {tn tc : Nat} (h : RB w.heap.size S R (.slice ta tn tc) w') : SMg w S R ta tn tc w' := by
  obtain ⟨x0, x1, x2, x3, x4, x5, x6⟩ := h
  exact ⟨x0, x1, x2, x3, x4, x5, x6⟩

theorem SMg.stored {w w2 : World} {S R : Nat} {ta : Option Addr} {tn tc : Nat} (h : RB w.heap.size S R (.slice ta tn tc) w2) (a b c d : Value) :
    SMg w S R ta tn tc ((((w2.setCell ⟨w.heap.size + 1, 0, none⟩ a).setCell ⟨w.heap.size + 1, 1, none⟩ b).setCell ⟨w.heap.size + 1, 2, none⟩ c).setCell ⟨w.heap.size + 1, 3, none⟩ d) :=
  SMg.of (h.block (by rw [heap_setCell_other _ _ _ _ _ (by omega), heap_setCell_other _ _ _ _ _ (by omega), heap_setCell_other _ _ _ _ _ (by omega), heap_setCell_other _ _ _ _ _ (by omega)]))

end Go.Proofs.Ytjjdjdodhedihaa

namespace Go.Proofs.Ytjjdjdodhedihaa
open Go.RowKit Go.Shelf
set_option linter.unusedVariables false
attribute [local go_sem] Oper.semAt_some

/-- What a round keeps: all below a block, and two blocks more. -/
def KB (B0 pg pf : Nat) (W W' : World) : Prop := W.heap.size ≤ W'.heap.size ∧ ∀ k, (k < B0 ∨ k = pg ∨ k = pf) → W'.heap[k]? = W.heap[k]?
theorem KB.refl (B0 pg pf : Nat) (W : World) : KB B0 pg pf W W := ⟨Nat.le_refl _, fun _ _ => rfl⟩
theorem KB.trans {B0 pg pf : Nat} {A B C : World} (h : KB B0 pg pf A B) (k : KB B0 pg pf B C) : KB B0 pg pf A C := ⟨Nat.le_trans h.1 k.1, fun i hi => (k.2 i hi).trans (h.2 i hi)⟩
theorem KB.below {B0 pg pf : Nat} {A B : World} (h : Below A.heap.size A B) (h1 : pg < A.heap.size) (h2 : pf < A.heap.size) (h3 : B0 ≤ A.heap.size) : KB B0 pg pf A B := ⟨h.size, fun k hk => h.block k (by omega)⟩
theorem ArgP.kb {w w' : World} {xs : List Int} {a : Option Addr} {n c B0 pg pf : Nat} (h : ArgP w xs a n c) (hb : KB B0 pg pf w w') (hg : ∀ g off, a = some ⟨g, off, none⟩ → g < B0) : ArgP w' xs a n c :=
  ⟨h.len, h.max, fun k hk => by
    obtain ⟨g, off, e, hlt, hc⟩ := h.cells k hk
    exact ⟨g, off, e, Nat.lt_of_lt_of_le hlt hb.1, (World.cell?_of_block (w := w) (a := ⟨g, off + k, none⟩) (hb.2 g (Or.inl (hg g off e)))).trans hc⟩⟩
/-- A pair in a box. -/
structure PB (p a b : Nat) (w : World) : Prop where
  c0 : w.cell? ⟨p, 0, none⟩ = some (.int .i64 (a : Int))
  c1 : w.cell? ⟨p, 1, none⟩ = some (.int .i64 (b : Int))
theorem PB.block {p a b : Nat} {w w' : World} (h : PB p a b w) (e : w'.heap[p]? = w.heap[p]?) : PB p a b w' :=
  ⟨(World.cell?_of_block (w := w) (a := ⟨p, 0, none⟩) e).trans h.c0, (World.cell?_of_block (w := w) (a := ⟨p, 1, none⟩) e).trans h.c1⟩
theorem PB.lt {p a b : Nat} {w : World} (h : PB p a b w) : p < w.heap.size := by
  have h0 := h.c0
  unfold World.cell? at h0
  by_cases hp : p < w.heap.size
  · exact hp
  · simp only [Array.getElem?_eq_none (Nat.le_of_not_lt hp)] at h0
    cases h0

/-- What the iterator reads, between two rounds. -/
structure WI (W : World) (S R n p q : Nat) (T : List Int) (ta : Option Addr) (tn tc pg pf B0 : Nat) : Prop where
  gb : GB pg S R n (.slice ta tn tc) W
  pb : PB pf p q W
  at_ : ArgP W T ta tn tc
theorem WI.kb {W W' : World} {S R n p q : Nat} {T : List Int} {ta : Option Addr} {tn tc pg pf B0 : Nat} (h : WI W S R n p q T ta tn tc pg pf B0) (k : KB B0 pg pf W W') (hg : ∀ g off, ta = some ⟨g, off, none⟩ → g < B0) : WI W' S R n p q T ta tn tc pg pf B0 :=
  ⟨h.gb.block (k.2 pg (by simp)), h.pb.block (k.2 pf (by simp)), h.at_.kb k hg⟩
theorem WI.next {W W' : World} {S R n p q : Nat} {T : List Int} {ta : Option Addr} {tn tc pg pf B0 : Nat} (h : WI W S R n p q T ta tn tc pg pf B0) (k : Below W.heap.size W W') : WI W' S R n p q T ta tn tc pg pf B0 :=
  ⟨h.gb.next k, h.pb.block (k.block pf h.pb.lt), h.at_.below k⟩

end Go.Proofs.Ytjjdjdodhedihaa

