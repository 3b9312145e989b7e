/-
  What the last text of this claim leans on, part 36: Oj6.
-/
import Derived.Test.YtdhbdkkchobinaaDoorJd35
import Derived.Test.YtdhbdkkchobinaaDoorJd27
namespace Go.Proofs.YtdhbdkkchobinaaDoor
open Go.RowKit
set_option linter.unusedVariables false

def OntoErr (f : Nat) (w : World) (e : Ending) (w' : World) : Prop := e = .returned (.tuple #[.bool false, .slice none 0 0, .iface 103 (.int .i64 (f : Int))]) ∧ Below w.heap.size w w'
def OntoPost (S n : Nat) (T : List Int) (w : World) (e : Ending) (w' : World) : Prop :=
  ((∃ wd g c, e = .returned (.tuple #[.bool false, .slice (some ⟨g, 0, none⟩) wd.length c, .nilIface]) ∧ OrphanIs (follN S n T) S (2 ^ n - 1) (some wd) ∧ 0 < wd.length ∧ wd.length ≤ 65536 ∧ Cel w' g wd) ∨
   (e = .returned (.tuple #[.bool true, .slice none 0 0, .nilIface]) ∧ OrphanIs (follN S n T) S (2 ^ n - 1) none)) ∧ Below w.heap.size w w'

set_option maxRecDepth 100000 in
set_option maxHeartbeats 3200000 in
theorem onto_off (o : Out) (ta : Option Addr) (tn tc : Nat) (w : World) (hR : ArgR w o ta tn tc) (h : ¬ (Good o ∧ o.kind = 2)) :
    Calls Tryd.prog 63 #[.agg #[.int .i64 o.kind, .int .i64 o.born, .int .i64 o.stay, .int .i64 o.states, .int .i64 o.radius, .slice ta tn tc, .string o.turns]] w (OntoErr 1 w) := by
  obtain ⟨w1, hw1⟩ : ∃ w1, w.alloc (.cells #[.int .i64 o.kind, .int .i64 o.born, .int .i64 o.stay, .int .i64 o.states, .int .i64 o.radius, .slice ta tn tc, .string o.turns] 24) = w1 := ⟨_, rfl⟩
  have BB := hide' (show Below w.heap.size w w1 by rw [← hw1]; exact (Below.refl _ _).alloc (Nat.le_refl _) _)
  have RX := hide' (show RBo w.heap.size o (.slice ta tn tc) w1 by rw [← hw1]; exact RBo.new w o _ _)
  have AT := hide' (show ArgR w1 o ta tn tc by rw [← hw1]; exact hR.alloc _)
  have HH := hide' h
  clear hR h
  have C0 := hide' (Below.refl w1.heap.size w1)
  obtain ⟨x0, x1, x2, x3, x4, x5, x6⟩ := RX.out
  go_enter Tryd.func63, Tryd.ntmps63
  go_wp2_with fail
  refine (ontoCheck_off o ta tn tc (.slice none 0 0) _ AT.out HH.out).mono ?_
  rintro e w2 ⟨rfl, b⟩
  clear hw1
  have C1 := hide' (C0.out.trans (b.mono C0.out.size))
  clear b x0 x1 x2 x3 x4 x5 x6 C0
  obtain ⟨x0, x1, x2, x3, x4, x5, x6⟩ := RX.out.next C1.out
  go_wp2
  refine bodyPost_ret (v := .tuple #[.bool false, .slice none 0 0, .iface 103 (.int .i64 1)]) (by simp [results, Tryd.results63, go_sem]) rfl ?_
  exact ⟨rfl, BB.out.trans (C1.out.mono BB.out.size)⟩

set_option maxRecDepth 100000 in
set_option maxHeartbeats 3200000 in
theorem onto_bad (S R : Nat) (T : List Int) (ta : Option Addr) (tn tc : Nat) (w : World) (hL : LineOk S R T) (hT : ArgP w T ta tn tc) (he : askE S R [] ≠ 0) :
    Calls Tryd.prog 63 #[.agg #[.int .i64 2, .int .i64 0, .int .i64 0, .int .i64 (S : Int), .int .i64 (R : Int), .slice ta tn tc, .string ⟨#[]⟩]] w (OntoErr (askE S R []) w) := by
  obtain ⟨w1, hw1⟩ : ∃ w1, w.alloc (.cells #[.int .i64 2, .int .i64 0, .int .i64 0, .int .i64 (S : Int), .int .i64 (R : Int), .slice ta tn tc, .string ⟨#[]⟩] 24) = w1 := ⟨_, rfl⟩
  have BB := hide' (show Below w.heap.size w w1 by rw [← hw1]; exact (Below.refl _ _).alloc (Nat.le_refl _) _)
  have RX := hide' (show RB w.heap.size S R (.slice ta tn tc) w1 by rw [← hw1]; exact RB.new w S R _ _)
  have AT := hide' (hT.below BB.out)
  have HL := hide' hL
  obtain ⟨f, hf⟩ : ∃ f, askE S R [] = f := ⟨_, rfl⟩
  have ER := hide' (show errOf (askE S R []) = .iface 103 (.int .i64 (f : Int)) by rw [hf]; exact errOf_ne (by rw [← hf]; exact he))
  rw [hf]
  clear hT hL he hf
  have C0 := hide' (Below.refl w1.heap.size w1)
  obtain ⟨x0, x1, x2, x3, x4, x5, x6⟩ := RX.out
  go_enter Tryd.func63, Tryd.ntmps63
  go_wp2_with fail
  refine (ontoCheck_line S R T ta tn tc [] none 0 0 _ HL.out AT.out (argP_nil _)).mono ?_
  rw [ER.out]
  rintro e w2 ⟨rfl, b⟩
  clear hw1
  have C1 := hide' (C0.out.trans (b.mono C0.out.size))
  clear b x0 x1 x2 x3 x4 x5 x6 C0
  obtain ⟨x0, x1, x2, x3, x4, x5, x6⟩ := RX.out.next C1.out
  go_wp2
  refine bodyPost_ret (v := .tuple #[.bool false, .slice none 0 0, .iface 103 (.int .i64 (f : Int))]) (by simp [results, Tryd.results63, go_sem]) rfl ?_
  exact ⟨rfl, BB.out.trans (C1.out.mono BB.out.size)⟩

set_option maxRecDepth 100000 in
set_option maxHeartbeats 3200000 in
theorem onto_ok (S R n : Nat) (T : List Int) (ta : Option Addr) (tn tc : Nat) (w : World) (hL : LineOk S R T) (hT : ArgP w T ta tn tc) (he : askE S R [] = 0) (hn : S ^ (2 * R) = n) (hz : TzTab w) :
    Calls Tryd.prog 63 #[.agg #[.int .i64 2, .int .i64 0, .int .i64 0, .int .i64 (S : Int), .int .i64 (R : Int), .slice ta tn tc, .string ⟨#[]⟩]] w (OntoPost S n T w) := by
  obtain ⟨w1, hw1⟩ : ∃ w1, w.alloc (.cells #[.int .i64 2, .int .i64 0, .int .i64 0, .int .i64 (S : Int), .int .i64 (R : Int), .slice ta tn tc, .string ⟨#[]⟩] 24) = w1 := ⟨_, rfl⟩
  have BB := hide' (show Below w.heap.size w w1 by rw [← hw1]; exact (Below.refl _ _).alloc (Nat.le_refl _) _)
  have RX := hide' (show RB w.heap.size S R (.slice ta tn tc) w1 by rw [← hw1]; exact RB.new w S R _ _)
  have AT := hide' (hT.below BB.out)
  have HL := hide' hL
  obtain ⟨h1, h2⟩ := askE_zero he
  obtain ⟨g1, g2, g3⟩ := hL.graph hT.len hn
  rw [hn] at h2
  have t4 : tn ≤ 4096 := by rw [hT.len]; exact hL.max
  have TBK := hide' (hT.blk (by have := hT.len; have := hL.pos; omega))
  have GO := hide' (fun (wr : World) => graphOf_any S R T ta tn tc n wr hL g1 t4)
  have ORP := hide' (fun (wr : World) (h : Below w1.heap.size w1 wr) => orphan_any S R n T ta tn tc wr hL (AT.out.below h) hn h2 ((hz.below BB.out).below h))
  have HE := hide' he
  clear hT hL he h1 h2 hn g1 g2 g3 t4 hz TBK
  have C0 := hide' (Below.refl w1.heap.size w1)
  obtain ⟨x0, x1, x2, x3, x4, x5, x6⟩ := RX.out
  go_enter Tryd.func63, Tryd.ntmps63
  go_wp2_with fail
  refine (ontoCheck_line S R T ta tn tc [] none 0 0 _ HL.out AT.out (argP_nil _)).mono ?_
  rw [HE.out, show errOf 0 = .nilIface from rfl]
  rintro e w2 ⟨rfl, b⟩
  clear hw1
  have C1 := hide' (C0.out.trans (b.mono C0.out.size))
  clear b x0 x1 x2 x3 x4 x5 x6 C0
  obtain ⟨x0, x1, x2, x3, x4, x5, x6⟩ := RX.out.next C1.out
  go_wp2_with fail
  refine (GO.out _).mono ?_
  rintro e w3 ⟨rfl, b⟩
  have C2 := hide' (C1.out.trans (b.mono C1.out.size))
  clear b x0 x1 x2 x3 x4 x5 x6 C1
  obtain ⟨x0, x1, x2, x3, x4, x5, x6⟩ := RX.out.next C2.out
  have sz3 := C2.out.size
  have szw := BB.out.size
  go_wp2_with fail
  refine (ORP.out _ C2.out).mono ?_
  unfold OrphanPost SpellPost
  rintro e w4 (⟨wd, ho, l0, l1, g8, c8, rfl, hg8, cl, b⟩ | ⟨ho, rfl, b⟩)
  · have CL := hide' cl
    have HO := hide' ho
    have k0 : ((wd.length : Int) == 0) = false := by rw [beq_eq_false_iff_ne]; omega
    have C3 := hide' (C2.out.trans (b.mono C2.out.size))
    clear b x0 x1 x2 x3 x4 x5 x6 C2 cl ho
    obtain ⟨x0, x1, x2, x3, x4, x5, x6⟩ := RX.out.next C3.out
    go_wp2
    refine bodyPost_ret (v := .tuple #[.bool false, .slice (some ⟨g8, 0, none⟩) wd.length c8, .nilIface]) (by simp [results, Tryd.results63, go_sem]) rfl ?_
    exact ⟨Or.inl ⟨wd, g8, c8, rfl, HO.out, l0, l1, CL.out⟩, BB.out.trans (C3.out.mono BB.out.size)⟩
  · have NO := hide' ho
    clear ho
    have C3 := hide' (C2.out.trans (b.mono C2.out.size))
    clear b x0 x1 x2 x3 x4 x5 x6 C2
    obtain ⟨x0, x1, x2, x3, x4, x5, x6⟩ := RX.out.next C3.out
    go_wp2
    refine bodyPost_ret (v := .tuple #[.bool true, .slice none 0 0, .nilIface]) (by simp [results, Tryd.results63, go_sem]) rfl ?_
    exact ⟨Or.inr ⟨rfl, NO.out⟩, BB.out.trans (C3.out.mono BB.out.size)⟩
end Go.Proofs.YtdhbdkkchobinaaDoor

