/-
  What the last text of this claim leans on, part 40: Oj9, Ok7.
-/
import Derived.Test.YtdhbdkkchobinaaDoorJd39
import Derived.Test.YtdhbdkkchobinaaDoorJd27
import Derived.Test.YtdhbdkkchobinaaDoorJd36
import Derived.Test.YtdhbdkkchobinaaDoorJd24
namespace Go.Proofs.YtdhbdkkchobinaaDoor
open Go.RowKit
set_option linter.unusedVariables false

def PrePost (S R n : Nat) (T : List Int) (w : World) (e : Ending) (w' : World) : Prop :=
  ((∃ p full v1 v2, e = .returned (.tuple #[.bool false, v1, v2, .nilIface]) ∧ w'.ownsRow w.heap.size 3 1 v1 (2 * R + full.length) ((winL S (2 * R) p ++ full.map fun y => (y.1 : Int)).map fun y => Value.int .i64 y) ∧ w'.ownsRow w.heap.size 3 1 v2 (2 * R + full.length) ((winL S (2 * R) p ++ full.map fun y => (y.2 : Int)).map fun y => Value.int .i64 y) ∧ IsTwin S n T p full) ∨
   (e = .returned (.tuple #[.bool true, .slice none 0 0, .slice none 0 0, .nilIface]) ∧ NoTwin S n T)) ∧ Below w.heap.size w w'

set_option maxRecDepth 100000 in
set_option maxHeartbeats 3200000 in
theorem pre_off (o : Out) (ta : Option Addr) (tn tc : Nat) (w : World) (hR : ArgR w o ta tn tc) (h : ¬ (Good o ∧ o.kind = 2)) :
    Calls Tryd.prog 64 #[.agg #[.int .i64 o.kind, .int .i64 o.born, .int .i64 o.stay, .int .i64 o.states, .int .i64 o.radius, .slice ta tn tc, .string o.turns]] w (OneErr 1 w) := by
  obtain ⟨w1, hw1⟩ : ∃ w1, w.alloc (.cells #[.int .i64 o.kind, .int .i64 o.born, .int .i64 o.stay, .int .i64 o.states, .int .i64 o.radius, .slice ta tn tc, .string o.turns] 24) = w1 := ⟨_, rfl⟩
  have BB := hide' (show Below w.heap.size w w1 by rw [← hw1]; exact (Below.refl _ _).alloc (Nat.le_refl _) _)
  have RX := hide' (show RBo w.heap.size o (.slice ta tn tc) w1 by rw [← hw1]; exact RBo.new w o _ _)
  have AT := hide' (show ArgR w1 o ta tn tc by rw [← hw1]; exact hR.alloc _)
  have HH := hide' h
  clear hR h
  have C0 := hide' (Below.refl w1.heap.size w1)
  obtain ⟨x0, x1, x2, x3, x4, x5, x6⟩ := RX.out
  go_enter Tryd.func64, Tryd.ntmps64
  go_wp2_with fail
  refine (ontoCheck_off o ta tn tc (.slice none 0 0) _ AT.out HH.out).mono ?_
  rintro e w2 ⟨rfl, b⟩
  clear hw1
  have C1 := hide' (C0.out.trans (b.mono C0.out.size))
  clear b x0 x1 x2 x3 x4 x5 x6 C0
  obtain ⟨x0, x1, x2, x3, x4, x5, x6⟩ := RX.out.next C1.out
  go_wp2
  refine bodyPost_ret (v := .tuple #[.bool false, .slice none 0 0, .slice none 0 0, .iface 103 (.int .i64 1)]) (by simp [results, Tryd.results64, go_sem]) rfl ?_
  exact ⟨rfl, BB.out.trans (C1.out.mono BB.out.size)⟩

set_option maxRecDepth 100000 in
set_option maxHeartbeats 3200000 in
theorem pre_bad (S R : Nat) (T : List Int) (ta : Option Addr) (tn tc : Nat) (w : World) (hL : LineOk S R T) (hT : ArgP w T ta tn tc) (he : askE S R [] ≠ 0) :
    Calls Tryd.prog 64 #[.agg #[.int .i64 2, .int .i64 0, .int .i64 0, .int .i64 (S : Int), .int .i64 (R : Int), .slice ta tn tc, .string ⟨#[]⟩]] w (OneErr (askE S R []) w) := by
  obtain ⟨w1, hw1⟩ : ∃ w1, w.alloc (.cells #[.int .i64 2, .int .i64 0, .int .i64 0, .int .i64 (S : Int), .int .i64 (R : Int), .slice ta tn tc, .string ⟨#[]⟩] 24) = w1 := ⟨_, rfl⟩
  have BB := hide' (show Below w.heap.size w w1 by rw [← hw1]; exact (Below.refl _ _).alloc (Nat.le_refl _) _)
  have RX := hide' (show RB w.heap.size S R (.slice ta tn tc) w1 by rw [← hw1]; exact RB.new w S R _ _)
  have AT := hide' (hT.below BB.out)
  have HL := hide' hL
  obtain ⟨f, hf⟩ : ∃ f, askE S R [] = f := ⟨_, rfl⟩
  have ER := hide' (show errOf (askE S R []) = .iface 103 (.int .i64 (f : Int)) by rw [hf]; exact errOf_ne (by rw [← hf]; exact he))
  rw [hf]
  clear hT hL he hf
  have C0 := hide' (Below.refl w1.heap.size w1)
  obtain ⟨x0, x1, x2, x3, x4, x5, x6⟩ := RX.out
  go_enter Tryd.func64, Tryd.ntmps64
  go_wp2_with fail
  refine (ontoCheck_line S R T ta tn tc [] none 0 0 _ HL.out AT.out (argP_nil _)).mono ?_
  rw [ER.out]
  rintro e w2 ⟨rfl, b⟩
  clear hw1
  have C1 := hide' (C0.out.trans (b.mono C0.out.size))
  clear b x0 x1 x2 x3 x4 x5 x6 C0
  obtain ⟨x0, x1, x2, x3, x4, x5, x6⟩ := RX.out.next C1.out
  go_wp2
  refine bodyPost_ret (v := .tuple #[.bool false, .slice none 0 0, .slice none 0 0, .iface 103 (.int .i64 (f : Int))]) (by simp [results, Tryd.results64, go_sem]) rfl ?_
  exact ⟨rfl, BB.out.trans (C1.out.mono BB.out.size)⟩

set_option maxRecDepth 100000 in
set_option maxHeartbeats 3200000 in
theorem pre_ok (S R n : Nat) (T : List Int) (ta : Option Addr) (tn tc : Nat) (w : World) (hL : LineOk S R T) (hT : ArgP w T ta tn tc) (he : askE S R [] = 0) (hn : S ^ (2 * R) = n) :
    Calls Tryd.prog 64 #[.agg #[.int .i64 2, .int .i64 0, .int .i64 0, .int .i64 (S : Int), .int .i64 (R : Int), .slice ta tn tc, .string ⟨#[]⟩]] w (PrePost S R n T w) := by
  obtain ⟨w1, hw1⟩ : ∃ w1, w.alloc (.cells #[.int .i64 2, .int .i64 0, .int .i64 0, .int .i64 (S : Int), .int .i64 (R : Int), .slice ta tn tc, .string ⟨#[]⟩] 24) = w1 := ⟨_, rfl⟩
  have BB := hide' (show Below w.heap.size w w1 by rw [← hw1]; exact (Below.refl _ _).alloc (Nat.le_refl _) _)
  have RX := hide' (show RB w.heap.size S R (.slice ta tn tc) w1 by rw [← hw1]; exact RB.new w S R _ _)
  have AT := hide' (hT.below BB.out)
  have HL := hide' hL
  obtain ⟨h1, h2⟩ := askE_zero he
  obtain ⟨g1, g2, g3⟩ := hL.graph hT.len hn
  rw [hn] at h2
  have t4 : tn ≤ 4096 := by rw [hT.len]; exact hL.max
  have TBK := hide' (hT.blk (by have := hT.len; have := hL.pos; omega))
  have GO := hide' (fun (wr : World) => graphOf_any S R T ta tn tc n wr hL g1 t4)
  have RI' := hide' (fun (wr : World) (h : Below w1.heap.size w1 wr) => twins_any S R n T ta tn tc wr g3 h2 hL.s2 hL.s4 hL.r10 g2 (AT.out.below h) (fun g off e => by have := TBK.out g off e; have := BB.out.size; have := h.size; omega))
  have HE := hide' he
  clear hT hL he h1 h2 hn g1 g2 g3 t4
  have C0 := hide' (Below.refl w1.heap.size w1)
  obtain ⟨x0, x1, x2, x3, x4, x5, x6⟩ := RX.out
  go_enter Tryd.func64, Tryd.ntmps64
  go_wp2_with fail
  refine (ontoCheck_line S R T ta tn tc [] none 0 0 _ HL.out AT.out (argP_nil _)).mono ?_
  rw [HE.out, show errOf 0 = .nilIface from rfl]
  rintro e w2 ⟨rfl, b⟩
  clear hw1
  have C1 := hide' (C0.out.trans (b.mono C0.out.size))
  clear b x0 x1 x2 x3 x4 x5 x6 C0
  obtain ⟨x0, x1, x2, x3, x4, x5, x6⟩ := RX.out.next C1.out
  go_wp2_with fail
  refine (GO.out _).mono ?_
  rintro e w3 ⟨rfl, b⟩
  have C2 := hide' (C1.out.trans (b.mono C1.out.size))
  clear b x0 x1 x2 x3 x4 x5 x6 C1
  obtain ⟨x0, x1, x2, x3, x4, x5, x6⟩ := RX.out.next C2.out
  have sz3 := C2.out.size
  have szw := BB.out.size
  go_wp2_with fail
  refine (RI'.out _ C2.out).mono ?_
  unfold TwinsPost
  rintro e w4 ⟨hor, b⟩
  rcases hor with ⟨p, full, v1, v2, rfl, o1, o2, ir⟩ | ⟨rfl, hno⟩
  · have h0 : 0 < full.length := by obtain ⟨_, _, ⟨cs, d, e, _⟩, _⟩ := ir; rw [e]; simp
    have h3 : full.length ≤ 257 := ir.2.2.2
    have r10 : R ≤ 10 := HL.out.r10
    obtain ⟨L, hL2⟩ : ∃ L, 2 * R + full.length = L := ⟨_, rfl⟩
    rw [hL2] at o1 o2
    obtain ⟨g8, c8, rfl⟩ := row_form o1 (by omega)
    obtain ⟨g9, c9, rfl⟩ := row_form o2 (by omega)
    have HL2 := hide' hL2
    have O1 := hide' (row_base_mono o1 (show w.heap.size ≤ w3.heap.size by omega))
    have O2 := hide' (row_base_mono o2 (show w.heap.size ≤ w3.heap.size by omega))
    have IR := hide' ir
    have k0 : ((L : Int) == 0) = false := by rw [beq_eq_false_iff_ne]; omega
    clear o1 o2 ir hL2
    have C3 := hide' (C2.out.trans (b.mono C2.out.size))
    clear b x0 x1 x2 x3 x4 x5 x6 C2
    obtain ⟨x0, x1, x2, x3, x4, x5, x6⟩ := RX.out.next C3.out
    go_wp2
    refine bodyPost_ret (v := .tuple #[.bool false, .slice (some ⟨g8, 0, none⟩) L c8, .slice (some ⟨g9, 0, none⟩) L c9, .nilIface]) (by simp [results, Tryd.results64, go_sem]) rfl ?_
    exact ⟨Or.inl ⟨p, full, _, _, rfl, by rw [HL2.out]; exact O1.out, by rw [HL2.out]; exact O2.out, IR.out⟩, BB.out.trans (C3.out.mono BB.out.size)⟩
  · have NO := hide' hno
    clear hno
    have C3 := hide' (C2.out.trans (b.mono C2.out.size))
    clear b x0 x1 x2 x3 x4 x5 x6 C2
    obtain ⟨x0, x1, x2, x3, x4, x5, x6⟩ := RX.out.next C3.out
    go_wp2
    refine bodyPost_ret (v := .tuple #[.bool true, .slice none 0 0, .slice none 0 0, .nilIface]) (by simp [results, Tryd.results64, go_sem]) rfl ?_
    exact ⟨Or.inr ⟨rfl, NO.out⟩, BB.out.trans (C3.out.mono BB.out.size)⟩
end Go.Proofs.YtdhbdkkchobinaaDoor

namespace Go.Proofs.YtdhbdkkchobinaaDoor
open Go.RowKit
set_option linter.unusedVariables false

set_option maxRecDepth 100000 in
set_option maxHeartbeats 25600000 in
theorem law_dec_off (o : Out) (ta : Option Addr) (tn tc : Nat) (w : World) (hR : ArgR w o ta tn tc) (h : ¬ (Good o ∧ o.kind = 2)) (hg : Handle w) :
    Calls Tryd.prog 12 #[.agg #[.int .i64 o.kind, .int .i64 o.born, .int .i64 o.stay, .int .i64 o.states, .int .i64 o.radius, .slice ta tn tc, .string o.turns]] w fun e w' => e = .returned (.bool true) ∧ Below w.heap.size w w' := by
  obtain ⟨w1, hw1⟩ : ∃ w1, w.alloc (.cells #[.int .i64 o.kind, .int .i64 o.born, .int .i64 o.stay, .int .i64 o.states, .int .i64 o.radius, .slice ta tn tc, .string o.turns] 24) = w1 := ⟨_, rfl⟩
  have BB := hide' (show Below w.heap.size w w1 by rw [← hw1]; exact (Below.refl _ _).alloc (Nat.le_refl _) _)
  have RX := hide' (show RBo w.heap.size o (.slice ta tn tc) w1 by rw [← hw1]; exact RBo.new w o _ _)
  have AT := hide' (show ArgR w1 o ta tn tc by rw [← hw1]; exact hR.alloc _)
  have HH := hide' h
  have HG := hide' (hg.below BB.out)
  clear hR h hg
  have C0 := hide' (Below.refl w1.heap.size w1)
  obtain ⟨x0, x1, x2, x3, x4, x5, x6⟩ := RX.out
  go_enter Tryd.func12, Tryd.ntmps12
  go_wp2_with fail
  refine (asked_off o ta tn tc (.slice none 0 0) _ (AT.out.below C0.out) HH.out).mono ?_
  rintro e w2 ⟨rfl, b⟩
  have C1 := hide' (C0.out.trans (b.mono C0.out.size))
  clear hw1
  clear b x0 x1 x2 x3 x4 x5 x6 C0
  obtain ⟨x0, x1, x2, x3, x4, x5, x6⟩ := RX.out.next C1.out
  go_wp2_with fail
  refine (onto_off o ta tn tc _ (AT.out.below C1.out) HH.out).mono ?_
  unfold OntoErr
  rintro e w3 ⟨rfl, b⟩
  have C2 := hide' (C1.out.trans (b.mono C1.out.size))
  clear b x0 x1 x2 x3 x4 x5 x6 C1
  obtain ⟨x0, x1, x2, x3, x4, x5, x6⟩ := RX.out.next C2.out
  go_wp2_with fail
  refine (err_some_true 1 _ (HG.out.below C2.out)).mono ?_
  rintro e w4 ⟨rfl, b⟩
  have C3 := hide' (C2.out.trans (b.mono C2.out.size))
  clear b x0 x1 x2 x3 x4 x5 x6 C2
  obtain ⟨x0, x1, x2, x3, x4, x5, x6⟩ := RX.out.next C3.out
  go_wp2_with fail
  refine (pre_off o ta tn tc _ (AT.out.below C3.out) HH.out).mono ?_
  unfold OneErr
  rintro e w5 ⟨rfl, b⟩
  have C4 := hide' (C3.out.trans (b.mono C3.out.size))
  clear b x0 x1 x2 x3 x4 x5 x6 C3
  obtain ⟨x0, x1, x2, x3, x4, x5, x6⟩ := RX.out.next C4.out
  go_wp2_with fail
  refine (err_some_true 1 _ (HG.out.below C4.out)).mono ?_
  rintro e w6 ⟨rfl, b⟩
  have C5 := hide' (C4.out.trans (b.mono C4.out.size))
  clear b x0 x1 x2 x3 x4 x5 x6 C4
  obtain ⟨x0, x1, x2, x3, x4, x5, x6⟩ := RX.out.next C5.out
  go_wp2_with fail
  refine (one_off o ta tn tc _ (AT.out.below C5.out) HH.out).mono ?_
  unfold OneErr
  rintro e w7 ⟨rfl, b⟩
  have C6 := hide' (C5.out.trans (b.mono C5.out.size))
  clear b x0 x1 x2 x3 x4 x5 x6 C5
  obtain ⟨x0, x1, x2, x3, x4, x5, x6⟩ := RX.out.next C6.out
  go_wp2_with fail
  refine (err_some_true 1 _ (HG.out.below C6.out)).mono ?_
  rintro e w8 ⟨rfl, b⟩
  have C7 := hide' (C6.out.trans (b.mono C6.out.size))
  clear b x0 x1 x2 x3 x4 x5 x6 C6
  obtain ⟨x0, x1, x2, x3, x4, x5, x6⟩ := RX.out.next C7.out
  go_wp2
  go_ret
  exact ⟨rfl, BB.out.trans (C7.out.mono BB.out.size)⟩

set_option maxRecDepth 100000 in
set_option maxHeartbeats 25600000 in
theorem law_dec_bad (S R : Nat) (T : List Int) (ta : Option Addr) (tn tc : Nat) (w : World) (hL : LineOk S R T) (hT : ArgP w T ta tn tc) (hg : Handle w) (he : askE S R [] ≠ 0) :
    Calls Tryd.prog 12 #[.agg #[.int .i64 2, .int .i64 0, .int .i64 0, .int .i64 (S : Int), .int .i64 (R : Int), .slice ta tn tc, .string ⟨#[]⟩]] w fun e w' => e = .returned (.bool true) ∧ Below w.heap.size w w' := by
  obtain ⟨w1, hw1⟩ : ∃ w1, w.alloc (.cells #[.int .i64 2, .int .i64 0, .int .i64 0, .int .i64 (S : Int), .int .i64 (R : Int), .slice ta tn tc, .string ⟨#[]⟩] 24) = w1 := ⟨_, rfl⟩
  have BB := hide' (show Below w.heap.size w w1 by rw [← hw1]; exact (Below.refl _ _).alloc (Nat.le_refl _) _)
  have RX := hide' (show RB w.heap.size S R (.slice ta tn tc) w1 by rw [← hw1]; exact RB.new w S R _ _)
  have AT := hide' (hT.below BB.out)
  have HG := hide' (hg.below BB.out)
  have HL := hide' hL
  have HE := hide' he
  obtain ⟨f, hf⟩ : ∃ f, askE S R [] = f := ⟨_, rfl⟩
  have HF := hide' hf
  have k0 : ((f : Int) == 0) = false := by rw [beq_eq_false_iff_ne]; rw [hf] at he; omega
  have k1 : ((f : Int) != 0) = true := by rw [bne, k0]; rfl
  clear hf hT hL he hg
  have C0 := hide' (Below.refl w1.heap.size w1)
  obtain ⟨x0, x1, x2, x3, x4, x5, x6⟩ := RX.out
  go_enter Tryd.func12, Tryd.ntmps12
  go_wp2_with fail
  refine (asked_line S R T ta tn tc [] none 0 _ HL.out (AT.out.below C0.out) (argP_nil _)).mono ?_
  rw [HF.out]
  rintro e w2 ⟨rfl, b⟩
  have C1 := hide' (C0.out.trans (b.mono C0.out.size))
  clear hw1
  clear b x0 x1 x2 x3 x4 x5 x6 C0
  obtain ⟨x0, x1, x2, x3, x4, x5, x6⟩ := RX.out.next C1.out
  go_wp2_with fail
  refine (onto_bad S R T ta tn tc _ HL.out (AT.out.below C1.out) HE.out).mono ?_
  rw [HF.out]
  unfold OntoErr
  rintro e w3 ⟨rfl, b⟩
  have C2 := hide' (C1.out.trans (b.mono C1.out.size))
  clear b x0 x1 x2 x3 x4 x5 x6 C1
  obtain ⟨x0, x1, x2, x3, x4, x5, x6⟩ := RX.out.next C2.out
  go_wp2_with fail
  refine (err_some_true (f : Int) _ (HG.out.below C2.out)).mono ?_
  rintro e w4 ⟨rfl, b⟩
  have C3 := hide' (C2.out.trans (b.mono C2.out.size))
  clear b x0 x1 x2 x3 x4 x5 x6 C2
  obtain ⟨x0, x1, x2, x3, x4, x5, x6⟩ := RX.out.next C3.out
  go_wp2_with fail
  refine (pre_bad S R T ta tn tc _ HL.out (AT.out.below C3.out) HE.out).mono ?_
  rw [HF.out]
  unfold OneErr
  rintro e w5 ⟨rfl, b⟩
  have C4 := hide' (C3.out.trans (b.mono C3.out.size))
  clear b x0 x1 x2 x3 x4 x5 x6 C3
  obtain ⟨x0, x1, x2, x3, x4, x5, x6⟩ := RX.out.next C4.out
  go_wp2_with fail
  refine (err_some_true (f : Int) _ (HG.out.below C4.out)).mono ?_
  rintro e w6 ⟨rfl, b⟩
  have C5 := hide' (C4.out.trans (b.mono C4.out.size))
  clear b x0 x1 x2 x3 x4 x5 x6 C4
  obtain ⟨x0, x1, x2, x3, x4, x5, x6⟩ := RX.out.next C5.out
  go_wp2_with fail
  refine (one_bad S R T ta tn tc _ HL.out (AT.out.below C5.out) HE.out).mono ?_
  rw [HF.out]
  unfold OneErr
  rintro e w7 ⟨rfl, b⟩
  have C6 := hide' (C5.out.trans (b.mono C5.out.size))
  clear b x0 x1 x2 x3 x4 x5 x6 C5
  obtain ⟨x0, x1, x2, x3, x4, x5, x6⟩ := RX.out.next C6.out
  go_wp2_with fail
  refine (err_some_true (f : Int) _ (HG.out.below C6.out)).mono ?_
  rintro e w8 ⟨rfl, b⟩
  have C7 := hide' (C6.out.trans (b.mono C6.out.size))
  clear b x0 x1 x2 x3 x4 x5 x6 C6
  obtain ⟨x0, x1, x2, x3, x4, x5, x6⟩ := RX.out.next C7.out
  go_wp2
  go_ret
  exact ⟨rfl, BB.out.trans (C7.out.mono BB.out.size)⟩
end Go.Proofs.YtdhbdkkchobinaaDoor

