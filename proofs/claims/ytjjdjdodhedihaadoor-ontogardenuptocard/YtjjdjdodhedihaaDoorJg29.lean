/-
  What the last text of this claim leans on, part 29: Oj6, Oj9, Ry2, Ry3, Ry5, Ry6, Oh1, Sa1.
-/
import Derived.Test.YtjjdjdodhedihaaDoorJg28
import Derived.Test.YtjjdjdodhedihaaDoorJg20
import Derived.Test.YtjjdjdodhedihaaDoorJg22
import Derived.Test.YtjjdjdodhedihaaDoorJg23
import Derived.Test.YtjjdjdodhedihaaDoorJg6
import Derived.Test.YtjjdjdodhedihaaDoorJg3
import Derived.Test.YtjjdjdodhedihaaDoorJg7
import Derived.Maps.OwnSet
namespace Go.Proofs.YtjjdjdodhedihaaDoor
open Go.RowKit
set_option linter.unusedVariables false

def OntoErr (f : Nat) (w : World) (e : Ending) (w' : World) : Prop := e = .returned (.tuple #[.bool false, .slice none 0 0, .iface 85 (.int .i64 (f : Int))]) ∧ Below w.heap.size w w'
def OntoPost (S n : Nat) (T : List Int) (w : World) (e : Ending) (w' : World) : Prop :=
  ((∃ wd g c, e = .returned (.tuple #[.bool false, .slice (some ⟨g, 0, none⟩) wd.length c, .nilIface]) ∧ OrphanIs (follN S n T) S (2 ^ n - 1) (some wd) ∧ 0 < wd.length ∧ wd.length ≤ 65536 ∧ Cel w' g wd) ∨
   (e = .returned (.tuple #[.bool true, .slice none 0 0, .nilIface]) ∧ OrphanIs (follN S n T) S (2 ^ n - 1) none)) ∧ Below w.heap.size w w'

set_option maxRecDepth 100000 in
set_option maxHeartbeats 3200000 in
theorem onto_off (o : Out) (ta : Option Addr) (tn tc : Nat) (w : World) (hR : ArgR w o ta tn tc) (h : ¬ (Good o ∧ o.kind = 2)) :
    Calls Tryd.prog 11 #[.agg #[.int .i64 o.kind, .int .i64 o.born, .int .i64 o.stay, .int .i64 o.states, .int .i64 o.radius, .slice ta tn tc, .string o.turns]] w (OntoErr 1 w) := by
  obtain ⟨w1, hw1⟩ : ∃ w1, w.alloc (.cells #[.int .i64 o.kind, .int .i64 o.born, .int .i64 o.stay, .int .i64 o.states, .int .i64 o.radius, .slice ta tn tc, .string o.turns] 24) = w1 := ⟨_, rfl⟩
  have BB := hide' (show Below w.heap.size w w1 by rw [← hw1]; exact (Below.refl _ _).alloc (Nat.le_refl _) _)
  have RX := hide' (show RBo w.heap.size o (.slice ta tn tc) w1 by rw [← hw1]; exact RBo.new w o _ _)
  have AT := hide' (show ArgR w1 o ta tn tc by rw [← hw1]; exact hR.alloc _)
  have HH := hide' h
  clear hR h
  have C0 := hide' (Below.refl w1.heap.size w1)
  obtain ⟨x0, x1, x2, x3, x4, x5, x6⟩ := RX.out
  go_enter Tryd.func11, Tryd.ntmps11
  go_wp2_with fail
  refine (ontoCheck_off o ta tn tc (.slice none 0 0) _ AT.out HH.out).mono ?_
  rintro e w2 ⟨rfl, b⟩
  clear hw1
  have C1 := hide' (C0.out.trans (b.mono C0.out.size))
  clear b x0 x1 x2 x3 x4 x5 x6 C0
  obtain ⟨x0, x1, x2, x3, x4, x5, x6⟩ := RX.out.next C1.out
  go_wp2
  refine bodyPost_ret (v := .tuple #[.bool false, .slice none 0 0, .iface 85 (.int .i64 1)]) (by simp [results, Tryd.results11, go_sem]) rfl ?_
  exact ⟨rfl, BB.out.trans (C1.out.mono BB.out.size)⟩

set_option maxRecDepth 100000 in
set_option maxHeartbeats 3200000 in
theorem onto_bad (S R : Nat) (T : List Int) (ta : Option Addr) (tn tc : Nat) (w : World) (hL : LineOk S R T) (hT : ArgP w T ta tn tc) (he : askE S R [] ≠ 0) :
    Calls Tryd.prog 11 #[.agg #[.int .i64 2, .int .i64 0, .int .i64 0, .int .i64 (S : Int), .int .i64 (R : Int), .slice ta tn tc, .string ⟨#[]⟩]] w (OntoErr (askE S R []) w) := by
  obtain ⟨w1, hw1⟩ : ∃ w1, w.alloc (.cells #[.int .i64 2, .int .i64 0, .int .i64 0, .int .i64 (S : Int), .int .i64 (R : Int), .slice ta tn tc, .string ⟨#[]⟩] 24) = w1 := ⟨_, rfl⟩
  have BB := hide' (show Below w.heap.size w w1 by rw [← hw1]; exact (Below.refl _ _).alloc (Nat.le_refl _) _)
  have RX := hide' (show RB w.heap.size S R (.slice ta tn tc) w1 by rw [← hw1]; exact RB.new w S R _ _)
  have AT := hide' (hT.below BB.out)
  have HL := hide' hL
  obtain ⟨f, hf⟩ : ∃ f, askE S R [] = f := ⟨_, rfl⟩
  have ER := hide' (show errOf (askE S R []) = .iface 85 (.int .i64 (f : Int)) by rw [hf]; exact errOf_ne (by rw [← hf]; exact he))
  rw [hf]
  clear hT hL he hf
  have C0 := hide' (Below.refl w1.heap.size w1)
  obtain ⟨x0, x1, x2, x3, x4, x5, x6⟩ := RX.out
  go_enter Tryd.func11, Tryd.ntmps11
  go_wp2_with fail
  refine (ontoCheck_line S R T ta tn tc [] none 0 0 _ HL.out AT.out (argP_nil _)).mono ?_
  rw [ER.out]
  rintro e w2 ⟨rfl, b⟩
  clear hw1
  have C1 := hide' (C0.out.trans (b.mono C0.out.size))
  clear b x0 x1 x2 x3 x4 x5 x6 C0
  obtain ⟨x0, x1, x2, x3, x4, x5, x6⟩ := RX.out.next C1.out
  go_wp2
  refine bodyPost_ret (v := .tuple #[.bool false, .slice none 0 0, .iface 85 (.int .i64 (f : Int))]) (by simp [results, Tryd.results11, go_sem]) rfl ?_
  exact ⟨rfl, BB.out.trans (C1.out.mono BB.out.size)⟩

set_option maxRecDepth 100000 in
set_option maxHeartbeats 3200000 in
theorem onto_ok (S R n : Nat) (T : List Int) (ta : Option Addr) (tn tc : Nat) (w : World) (hL : LineOk S R T) (hT : ArgP w T ta tn tc) (he : askE S R [] = 0) (hn : S ^ (2 * R) = n) (hz : TzTab w) :
    Calls Tryd.prog 11 #[.agg #[.int .i64 2, .int .i64 0, .int .i64 0, .int .i64 (S : Int), .int .i64 (R : Int), .slice ta tn tc, .string ⟨#[]⟩]] w (OntoPost S n T w) := by
  obtain ⟨w1, hw1⟩ : ∃ w1, w.alloc (.cells #[.int .i64 2, .int .i64 0, .int .i64 0, .int .i64 (S : Int), .int .i64 (R : Int), .slice ta tn tc, .string ⟨#[]⟩] 24) = w1 := ⟨_, rfl⟩
  have BB := hide' (show Below w.heap.size w w1 by rw [← hw1]; exact (Below.refl _ _).alloc (Nat.le_refl _) _)
  have RX := hide' (show RB w.heap.size S R (.slice ta tn tc) w1 by rw [← hw1]; exact RB.new w S R _ _)
  have AT := hide' (hT.below BB.out)
  have HL := hide' hL
  obtain ⟨h1, h2⟩ := askE_zero he
  obtain ⟨g1, g2, g3⟩ := hL.graph hT.len hn
  rw [hn] at h2
  have t4 : tn ≤ 4096 := by rw [hT.len]; exact hL.max
  have TBK := hide' (hT.blk (by have := hT.len; have := hL.pos; omega))
  have GO := hide' (fun (wr : World) => graphOf_any S R T ta tn tc n wr hL g1 t4)
  have ORP := hide' (fun (wr : World) (h : Below w1.heap.size w1 wr) => orphan_any S R n T ta tn tc wr hL (AT.out.below h) hn h2 ((hz.below BB.out).below h))
  have HE := hide' he
  clear hT hL he h1 h2 hn g1 g2 g3 t4 hz TBK
  have C0 := hide' (Below.refl w1.heap.size w1)
  obtain ⟨x0, x1, x2, x3, x4, x5, x6⟩ := RX.out
  go_enter Tryd.func11, Tryd.ntmps11
  go_wp2_with fail
  refine (ontoCheck_line S R T ta tn tc [] none 0 0 _ HL.out AT.out (argP_nil _)).mono ?_
  rw [HE.out, show errOf 0 = .nilIface from rfl]
  rintro e w2 ⟨rfl, b⟩
  clear hw1
  have C1 := hide' (C0.out.trans (b.mono C0.out.size))
  clear b x0 x1 x2 x3 x4 x5 x6 C0
  obtain ⟨x0, x1, x2, x3, x4, x5, x6⟩ := RX.out.next C1.out
  go_wp2_with fail
  refine (GO.out _).mono ?_
  rintro e w3 ⟨rfl, b⟩
  have C2 := hide' (C1.out.trans (b.mono C1.out.size))
  clear b x0 x1 x2 x3 x4 x5 x6 C1
  obtain ⟨x0, x1, x2, x3, x4, x5, x6⟩ := RX.out.next C2.out
  have sz3 := C2.out.size
  have szw := BB.out.size
  go_wp2_with fail
  refine (ORP.out _ C2.out).mono ?_
  unfold OrphanPost SpellPost
  rintro e w4 (⟨wd, ho, l0, l1, g8, c8, rfl, hg8, cl, b⟩ | ⟨ho, rfl, b⟩)
  · have CL := hide' cl
    have HO := hide' ho
    have k0 : ((wd.length : Int) == 0) = false := by rw [beq_eq_false_iff_ne]; omega
    have C3 := hide' (C2.out.trans (b.mono C2.out.size))
    clear b x0 x1 x2 x3 x4 x5 x6 C2 cl ho
    obtain ⟨x0, x1, x2, x3, x4, x5, x6⟩ := RX.out.next C3.out
    go_wp2
    refine bodyPost_ret (v := .tuple #[.bool false, .slice (some ⟨g8, 0, none⟩) wd.length c8, .nilIface]) (by simp [results, Tryd.results11, go_sem]) rfl ?_
    exact ⟨Or.inl ⟨wd, g8, c8, rfl, HO.out, l0, l1, CL.out⟩, BB.out.trans (C3.out.mono BB.out.size)⟩
  · have NO := hide' ho
    clear ho
    have C3 := hide' (C2.out.trans (b.mono C2.out.size))
    clear b x0 x1 x2 x3 x4 x5 x6 C2
    obtain ⟨x0, x1, x2, x3, x4, x5, x6⟩ := RX.out.next C3.out
    go_wp2
    refine bodyPost_ret (v := .tuple #[.bool true, .slice none 0 0, .nilIface]) (by simp [results, Tryd.results11, go_sem]) rfl ?_
    exact ⟨Or.inr ⟨rfl, NO.out⟩, BB.out.trans (C3.out.mono BB.out.size)⟩
end Go.Proofs.YtjjdjdodhedihaaDoor

namespace Go.Proofs.YtjjdjdodhedihaaDoor
open Go.RowKit
set_option linter.unusedVariables false

def PrePost (S R n : Nat) (T : List Int) (w : World) (e : Ending) (w' : World) : Prop :=
  ((∃ p full v1 v2, e = .returned (.tuple #[.bool false, v1, v2, .nilIface]) ∧ w'.ownsRow w.heap.size 3 1 v1 (2 * R + full.length) ((winL S (2 * R) p ++ full.map fun y => (y.1 : Int)).map fun y => Value.int .i64 y) ∧ w'.ownsRow w.heap.size 3 1 v2 (2 * R + full.length) ((winL S (2 * R) p ++ full.map fun y => (y.2 : Int)).map fun y => Value.int .i64 y) ∧ IsTwin S n T p full) ∨
   (e = .returned (.tuple #[.bool true, .slice none 0 0, .slice none 0 0, .nilIface]) ∧ NoTwin S n T)) ∧ Below w.heap.size w w'

set_option maxRecDepth 100000 in
set_option maxHeartbeats 3200000 in
theorem pre_off (o : Out) (ta : Option Addr) (tn tc : Nat) (w : World) (hR : ArgR w o ta tn tc) (h : ¬ (Good o ∧ o.kind = 2)) :
    Calls Tryd.prog 12 #[.agg #[.int .i64 o.kind, .int .i64 o.born, .int .i64 o.stay, .int .i64 o.states, .int .i64 o.radius, .slice ta tn tc, .string o.turns]] w (OneErr 1 w) := by
  obtain ⟨w1, hw1⟩ : ∃ w1, w.alloc (.cells #[.int .i64 o.kind, .int .i64 o.born, .int .i64 o.stay, .int .i64 o.states, .int .i64 o.radius, .slice ta tn tc, .string o.turns] 24) = w1 := ⟨_, rfl⟩
  have BB := hide' (show Below w.heap.size w w1 by rw [← hw1]; exact (Below.refl _ _).alloc (Nat.le_refl _) _)
  have RX := hide' (show RBo w.heap.size o (.slice ta tn tc) w1 by rw [← hw1]; exact RBo.new w o _ _)
  have AT := hide' (show ArgR w1 o ta tn tc by rw [← hw1]; exact hR.alloc _)
  have HH := hide' h
  clear hR h
  have C0 := hide' (Below.refl w1.heap.size w1)
  obtain ⟨x0, x1, x2, x3, x4, x5, x6⟩ := RX.out
  go_enter Tryd.func12, Tryd.ntmps12
  go_wp2_with fail
  refine (ontoCheck_off o ta tn tc (.slice none 0 0) _ AT.out HH.out).mono ?_
  rintro e w2 ⟨rfl, b⟩
  clear hw1
  have C1 := hide' (C0.out.trans (b.mono C0.out.size))
  clear b x0 x1 x2 x3 x4 x5 x6 C0
  obtain ⟨x0, x1, x2, x3, x4, x5, x6⟩ := RX.out.next C1.out
  go_wp2
  refine bodyPost_ret (v := .tuple #[.bool false, .slice none 0 0, .slice none 0 0, .iface 85 (.int .i64 1)]) (by simp [results, Tryd.results12, go_sem]) rfl ?_
  exact ⟨rfl, BB.out.trans (C1.out.mono BB.out.size)⟩

set_option maxRecDepth 100000 in
set_option maxHeartbeats 3200000 in
theorem pre_bad (S R : Nat) (T : List Int) (ta : Option Addr) (tn tc : Nat) (w : World) (hL : LineOk S R T) (hT : ArgP w T ta tn tc) (he : askE S R [] ≠ 0) :
    Calls Tryd.prog 12 #[.agg #[.int .i64 2, .int .i64 0, .int .i64 0, .int .i64 (S : Int), .int .i64 (R : Int), .slice ta tn tc, .string ⟨#[]⟩]] w (OneErr (askE S R []) w) := by
  obtain ⟨w1, hw1⟩ : ∃ w1, w.alloc (.cells #[.int .i64 2, .int .i64 0, .int .i64 0, .int .i64 (S : Int), .int .i64 (R : Int), .slice ta tn tc, .string ⟨#[]⟩] 24) = w1 := ⟨_, rfl⟩
  have BB := hide' (show Below w.heap.size w w1 by rw [← hw1]; exact (Below.refl _ _).alloc (Nat.le_refl _) _)
  have RX := hide' (show RB w.heap.size S R (.slice ta tn tc) w1 by rw [← hw1]; exact RB.new w S R _ _)
  have AT := hide' (hT.below BB.out)
  have HL := hide' hL
  obtain ⟨f, hf⟩ : ∃ f, askE S R [] = f := ⟨_, rfl⟩
  have ER := hide' (show errOf (askE S R []) = .iface 85 (.int .i64 (f : Int)) by rw [hf]; exact errOf_ne (by rw [← hf]; exact he))
  rw [hf]
  clear hT hL he hf
  have C0 := hide' (Below.refl w1.heap.size w1)
  obtain ⟨x0, x1, x2, x3, x4, x5, x6⟩ := RX.out
  go_enter Tryd.func12, Tryd.ntmps12
  go_wp2_with fail
  refine (ontoCheck_line S R T ta tn tc [] none 0 0 _ HL.out AT.out (argP_nil _)).mono ?_
  rw [ER.out]
  rintro e w2 ⟨rfl, b⟩
  clear hw1
  have C1 := hide' (C0.out.trans (b.mono C0.out.size))
  clear b x0 x1 x2 x3 x4 x5 x6 C0
  obtain ⟨x0, x1, x2, x3, x4, x5, x6⟩ := RX.out.next C1.out
  go_wp2
  refine bodyPost_ret (v := .tuple #[.bool false, .slice none 0 0, .slice none 0 0, .iface 85 (.int .i64 (f : Int))]) (by simp [results, Tryd.results12, go_sem]) rfl ?_
  exact ⟨rfl, BB.out.trans (C1.out.mono BB.out.size)⟩

set_option maxRecDepth 100000 in
set_option maxHeartbeats 3200000 in
theorem pre_ok (S R n : Nat) (T : List Int) (ta : Option Addr) (tn tc : Nat) (w : World) (hL : LineOk S R T) (hT : ArgP w T ta tn tc) (he : askE S R [] = 0) (hn : S ^ (2 * R) = n) :
    Calls Tryd.prog 12 #[.agg #[.int .i64 2, .int .i64 0, .int .i64 0, .int .i64 (S : Int), .int .i64 (R : Int), .slice ta tn tc, .string ⟨#[]⟩]] w (PrePost S R n T w) := by
  obtain ⟨w1, hw1⟩ : ∃ w1, w.alloc (.cells #[.int .i64 2, .int .i64 0, .int .i64 0, .int .i64 (S : Int), .int .i64 (R : Int), .slice ta tn tc, .string ⟨#[]⟩] 24) = w1 := ⟨_, rfl⟩
  have BB := hide' (show Below w.heap.size w w1 by rw [← hw1]; exact (Below.refl _ _).alloc (Nat.le_refl _) _)
  have RX := hide' (show RB w.heap.size S R (.slice ta tn tc) w1 by rw [← hw1]; exact RB.new w S R _ _)
  have AT := hide' (hT.below BB.out)
  have HL := hide' hL
  obtain ⟨h1, h2⟩ := askE_zero he
  obtain ⟨g1, g2, g3⟩ := hL.graph hT.len hn
  rw [hn] at h2
  have t4 : tn ≤ 4096 := by rw [hT.len]; exact hL.max
  have TBK := hide' (hT.blk (by have := hT.len; have := hL.pos; omega))
  have GO := hide' (fun (wr : World) => graphOf_any S R T ta tn tc n wr hL g1 t4)
  have RI' := hide' (fun (wr : World) (h : Below w1.heap.size w1 wr) => twins_any S R n T ta tn tc wr g3 h2 hL.s2 hL.s4 hL.r10 g2 (AT.out.below h) (fun g off e => by have := TBK.out g off e; have := BB.out.size; have := h.size; omega))
  have HE := hide' he
  clear hT hL he h1 h2 hn g1 g2 g3 t4
  have C0 := hide' (Below.refl w1.heap.size w1)
  obtain ⟨x0, x1, x2, x3, x4, x5, x6⟩ := RX.out
  go_enter Tryd.func12, Tryd.ntmps12
  go_wp2_with fail
  refine (ontoCheck_line S R T ta tn tc [] none 0 0 _ HL.out AT.out (argP_nil _)).mono ?_
  rw [HE.out, show errOf 0 = .nilIface from rfl]
  rintro e w2 ⟨rfl, b⟩
  clear hw1
  have C1 := hide' (C0.out.trans (b.mono C0.out.size))
  clear b x0 x1 x2 x3 x4 x5 x6 C0
  obtain ⟨x0, x1, x2, x3, x4, x5, x6⟩ := RX.out.next C1.out
  go_wp2_with fail
  refine (GO.out _).mono ?_
  rintro e w3 ⟨rfl, b⟩
  have C2 := hide' (C1.out.trans (b.mono C1.out.size))
  clear b x0 x1 x2 x3 x4 x5 x6 C1
  obtain ⟨x0, x1, x2, x3, x4, x5, x6⟩ := RX.out.next C2.out
  have sz3 := C2.out.size
  have szw := BB.out.size
  go_wp2_with fail
  refine (RI'.out _ C2.out).mono ?_
  unfold TwinsPost
  rintro e w4 ⟨hor, b⟩
  rcases hor with ⟨p, full, v1, v2, rfl, o1, o2, ir⟩ | ⟨rfl, hno⟩
  · have h0 : 0 < full.length := by obtain ⟨_, _, ⟨cs, d, e, _⟩, _⟩ := ir; rw [e]; simp
    have h3 : full.length ≤ 257 := ir.2.2.2
    have r10 : R ≤ 10 := HL.out.r10
    obtain ⟨L, hL2⟩ : ∃ L, 2 * R + full.length = L := ⟨_, rfl⟩
    rw [hL2] at o1 o2
    obtain ⟨g8, c8, rfl⟩ := row_form o1 (by omega)
    obtain ⟨g9, c9, rfl⟩ := row_form o2 (by omega)
    have HL2 := hide' hL2
    have O1 := hide' (row_base_mono o1 (show w.heap.size ≤ w3.heap.size by omega))
    have O2 := hide' (row_base_mono o2 (show w.heap.size ≤ w3.heap.size by omega))
    have IR := hide' ir
    have k0 : ((L : Int) == 0) = false := by rw [beq_eq_false_iff_ne]; omega
    clear o1 o2 ir hL2
    have C3 := hide' (C2.out.trans (b.mono C2.out.size))
    clear b x0 x1 x2 x3 x4 x5 x6 C2
    obtain ⟨x0, x1, x2, x3, x4, x5, x6⟩ := RX.out.next C3.out
    go_wp2
    refine bodyPost_ret (v := .tuple #[.bool false, .slice (some ⟨g8, 0, none⟩) L c8, .slice (some ⟨g9, 0, none⟩) L c9, .nilIface]) (by simp [results, Tryd.results12, go_sem]) rfl ?_
    exact ⟨Or.inl ⟨p, full, _, _, rfl, by rw [HL2.out]; exact O1.out, by rw [HL2.out]; exact O2.out, IR.out⟩, BB.out.trans (C3.out.mono BB.out.size)⟩
  · have NO := hide' hno
    clear hno
    have C3 := hide' (C2.out.trans (b.mono C2.out.size))
    clear b x0 x1 x2 x3 x4 x5 x6 C2
    obtain ⟨x0, x1, x2, x3, x4, x5, x6⟩ := RX.out.next C3.out
    go_wp2
    refine bodyPost_ret (v := .tuple #[.bool true, .slice none 0 0, .slice none 0 0, .nilIface]) (by simp [results, Tryd.results12, go_sem]) rfl ?_
    exact ⟨Or.inr ⟨rfl, NO.out⟩, BB.out.trans (C3.out.mono BB.out.size)⟩
end Go.Proofs.YtjjdjdodhedihaaDoor

namespace Go.Proofs.YtjjdjdodhedihaaDoor
set_option linter.unusedVariables false

end Go.Proofs.YtjjdjdodhedihaaDoor

namespace Go.Proofs.YtjjdjdodhedihaaDoor
open Go.RowKit
set_option linter.unusedVariables false

/-- At block g n bytes of the call's own. -/
structure Pk (w0 w : World) (g n : Nat) (F : Nat → Nat) : Prop where
  below : Below w0.heap.size w0 w
  ge : w0.heap.size ≤ g
  lt : g < w.heap.size
  cells : ∀ j, j < n → w.cell? ⟨g, j, none⟩ = some (.int .u8 (F j : Int))
  fz : ∀ j, w.frozen? ⟨g, j, none⟩ = false
theorem Pk.start (w : World) (n : Nat) (F : Nat → Nat) (t : TypeId) (h : ∀ j, F j = 0) : Pk w (w.alloc (.cells (madeCells #[.int .u8 0] n) t)) w.heap.size n F := by
  refine ⟨(Below.refl _ _).alloc (Nat.le_refl _) _, Nat.le_refl _, by simp, fun j hj => ?_, fun j => by simp⟩
  rw [World.cell?_alloc_at _ _ _ _ rfl, h j]
  have hs : j < (madeCells #[.int .u8 0] n).size := by rw [size_madeCells]; exact hj
  have e : (madeCells #[.int .u8 0] n)[j]? = some (.int .u8 0) := by
    rw [Array.getElem?_eq_getElem hs]
    simp [madeCells, Nat.mod_one]
  exact e
theorem Pk.step {w0 w : World} {g n k : Nat} {F G : Nat → Nat} (h : Pk w0 w g n F) (hk : k < n) {v : Value} (hv : v = .int .u8 (G k : Int)) (hG : ∀ j, j ≠ k → G j = F j) : Pk w0 (w.setCell ⟨g, k, none⟩ v).drew g n G := by
  subst hv
  refine ⟨(h.below.setCell h.ge _).drew, h.ge, ?_, fun j hj => ?_, fun j => ?_⟩
  · show g < (w.setCell _ _).heap.size
    rw [World.size_setCell]; exact h.lt
  · show (w.setCell _ _).cell? _ = _
    by_cases e : j = k
    · subst e; exact World.cell?_setCell_same _ _ _ (h.cells j hj)
    · rw [World.cell?_setCell_other _ ⟨g, k, none⟩ ⟨g, j, none⟩ _ (fun q => e (congrArg Addr.off q).symm), hG j e]; exact h.cells j hj
  · show (w.setCell _ _).frozen? _ = _
    rw [World.frozen?_setCell]; exact h.fz j
end Go.Proofs.YtjjdjdodhedihaaDoor

namespace Go.Proofs.YtjjdjdodhedihaaDoor
open Go.RowKit
open Go.Maps (Keyed)
set_option linter.unusedVariables false

end Go.Proofs.YtjjdjdodhedihaaDoor

namespace Go.Proofs.YtjjdjdodhedihaaDoor
open Go.RowKit
set_option linter.unusedVariables false

end Go.Proofs.YtjjdjdodhedihaaDoor

namespace Go.Proofs.YtjjdjdodhedihaaDoor
open Go.RowKit
set_option linter.unusedVariables false

theorem fact_ask : askE 2 0 [] = 0 := askE_ok (wordE_ok (by simp) (fun x hx => by simp at hx)) (by simp)
theorem owns_arg {W : World} {B0 : Nat} {v : Value} {xs : List Int} (h : W.ownsRow B0 3 1 v xs.length (xs.map fun y => Value.int .i64 y)) (h0 : 0 < xs.length) (hm : xs.length ≤ maxLen) : ∃ g cap, v = .slice (some ⟨g, 0, none⟩) xs.length cap ∧ ArgP W xs (some ⟨g, 0, none⟩) xs.length cap := by
  rcases h.2 with ⟨rfl, h1⟩ | ⟨g, cap, cur, rfl, hg, hh, hc, hm', hs, ht⟩
  · omega
  · refine ⟨g, cap, rfl, rfl, hm, fun k hk => ⟨g, 0, rfl, (Array.getElem?_eq_some_iff.1 hh).1, ?_⟩⟩
    have e : (xs.map fun y => Value.int .i64 y)[k]? = some (.int .i64 xs[k]) := by simp [hk]
    rw [← ht, List.getElem?_take, if_pos (by omega)] at e
    rw [Nat.zero_add]
    simp only [World.cell?, hh]
    rw [← Array.getElem?_toList]
    exact e

end Go.Proofs.YtjjdjdodhedihaaDoor

namespace Go.Proofs.YtjjdjdodhedihaaDoor
set_option linter.unusedVariables false

/-- What a window changes: what becomes of it, without its first cell. -/
def chg (n : Nat) (T wt : List Int) (w : Nat) : Int := wt.getD (T.getD w 0).toNat 0 - wt.getD (w / n) 0
/-- Heights, laid up to a place. -/
structure HtUpto (S n : Nat) (T wt hs : List Int) (k : Nat) : Prop where
  len : hs.length = n
  zero : hs.getD 0 0 = 0
  up : ∀ j, 0 < j → j < k → hs.getD j 0 = hs.getD (j / S) 0 + chg n T wt j
theorem HtUpto.put {S n : Nat} {T wt hs : List Int} {k : Nat} (h : HtUpto S n T wt hs k) (hS : 2 ≤ S) (h0 : 0 < k) (hk : k < n) : HtUpto S n T wt (hs.set k (hs.getD (k / S) 0 + chg n T wt k)) (k + 1) := by
  have l := h.len
  have at_ne : ∀ (j : Nat) (v : Int), j ≠ k → (hs.set k v).getD j 0 = hs.getD j 0 := fun j v hj => by
    simp [List.getD, Ne.symm hj]
  refine ⟨by simp [l], by rw [at_ne _ _ (by omega)]; exact h.zero, fun j j0 jk => ?_⟩
  have hd : j / S < j := Nat.div_lt_self j0 (by omega)
  rw [at_ne (j / S) _ (by omega)]
  by_cases e : j = k
  · subst e
    simp [List.getD, l, hk]
  · rw [at_ne _ _ e]
    exact h.up j j0 (by omega)
def sumF (f : Nat → Int) : Nat → Int
  | 0 => 0
  | m + 1 => sumF f m + f m
end Go.Proofs.YtjjdjdodhedihaaDoor

