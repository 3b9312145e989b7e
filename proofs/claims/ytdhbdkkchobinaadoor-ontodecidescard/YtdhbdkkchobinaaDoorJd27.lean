/-
  What the last text of this claim leans on, part 27: Ob5, Od4, Oe1.
-/
import Derived.Test.YtdhbdkkchobinaaDoorJd12
import Derived.Test.YtdhbdkkchobinaaDoorJd24
import Derived.Test.YtdhbdkkchobinaaDoorJd26
import Derived.Test.YtdhbdkkchobinaaDoorJd23
namespace Go.Proofs.YtdhbdkkchobinaaDoor
open Go.RowKit
set_option linter.unusedVariables false

theorem LineOk.graph {S R tn n : Nat} {T : List Int} (hL : LineOk S R T) (ht : tn = T.length) (hn : S ^ (2 * R) = n) : tn / S = n ∧ tn = n * S ∧ 0 < n := by
  have s2 := hL.s2
  refine ⟨by rw [places_of hL ht, hn], by rw [ht, hL.len, Nat.pow_succ, hn], ?_⟩
  rw [← hn]
  exact Nat.pow_pos (by omega)

set_option maxRecDepth 100000 in
set_option maxHeartbeats 3200000 in
theorem asked_off (o : Out) (ta : Option Addr) (tn tc : Nat) (v : Value) (w : World) (hR : ArgR w o ta tn tc) (h : ¬ (Good o ∧ o.kind = 2)) :
    Calls Tryd.prog 62 #[.agg #[.int .i64 o.kind, .int .i64 o.born, .int .i64 o.stay, .int .i64 o.states, .int .i64 o.radius, .slice ta tn tc, .string o.turns], v] w fun e w' => e = .returned (.int .i64 1) ∧ Below w.heap.size w w' := by
  obtain ⟨w1, hw1⟩ : ∃ w1, w.alloc (.cells #[.int .i64 o.kind, .int .i64 o.born, .int .i64 o.stay, .int .i64 o.states, .int .i64 o.radius, .slice ta tn tc, .string o.turns] 24) = w1 := ⟨_, rfl⟩
  have BB := hide' (show Below w.heap.size w w1 by rw [← hw1]; exact (Below.refl _ _).alloc (Nat.le_refl _) _)
  have RX := hide' (show RBo w.heap.size o (.slice ta tn tc) w1 by rw [← hw1]; exact RBo.new w o _ _)
  have AT := hide' (show ArgR w1 o ta tn tc by rw [← hw1]; exact hR.alloc _)
  have HH := hide' h
  clear hR h
  have C0 := hide' (Below.refl w1.heap.size w1)
  obtain ⟨x0, x1, x2, x3, x4, x5, x6⟩ := RX.out
  go_enter Tryd.func62, Tryd.ntmps62
  go_wp2_with fail
  refine (lineFault_off o ta tn tc v _ AT.out HH.out).mono ?_
  rintro e w2 ⟨rfl, b⟩
  clear hw1
  have C1 := hide' (C0.out.trans (b.mono C0.out.size))
  clear b x0 x1 x2 x3 x4 x5 x6 C0
  obtain ⟨x0, x1, x2, x3, x4, x5, x6⟩ := RX.out.next C1.out
  go_wp2
  go_ret
  exact ⟨rfl, BB.out.trans (C1.out.mono BB.out.size)⟩

set_option maxRecDepth 100000 in
set_option maxHeartbeats 3200000 in
theorem asked_line (S R : Nat) (T : List Int) (ta : Option Addr) (tn tc : Nat) (ws : List Int) (wa : Option Addr) (wc : Nat) (w : World) (hL : LineOk S R T) (hT : ArgP w T ta tn tc) (hW : ArgP w ws wa ws.length wc) :
    Calls Tryd.prog 62 #[.agg #[.int .i64 2, .int .i64 0, .int .i64 0, .int .i64 (S : Int), .int .i64 (R : Int), .slice ta tn tc, .string ⟨#[]⟩], .slice wa ws.length wc] w fun e w' => e = .returned (.int .i64 ((askE S R ws : Nat) : Int)) ∧ Below w.heap.size w w' := by
  obtain ⟨w1, hw1⟩ : ∃ w1, w.alloc (.cells #[.int .i64 2, .int .i64 0, .int .i64 0, .int .i64 (S : Int), .int .i64 (R : Int), .slice ta tn tc, .string ⟨#[]⟩] 24) = w1 := ⟨_, rfl⟩
  have BB := hide' (show Below w.heap.size w w1 by rw [← hw1]; exact (Below.refl _ _).alloc (Nat.le_refl _) _)
  have RX := hide' (show RB w.heap.size S R (.slice ta tn tc) w1 by rw [← hw1]; exact RB.new w S R _ _)
  have AT := hide' (hT.below BB.out)
  have AW := hide' (hW.below BB.out)
  have HL := hide' hL
  rcases Nat.eq_zero_or_pos (wordE S ws) with he | he
  · have HE := hide' he
    obtain ⟨q, hq⟩ : ∃ q, plc S R = q := ⟨_, rfl⟩
    have AF := hide' (show (16 < q → askE S R ws = 4) ∧ (¬ 16 < q → askE S R ws = 0) by
      rw [← hq]
      unfold plc
      constructor
      · intro h
        split at h
        · omega
        · exact askE_far he (by omega)
      · intro h
        split at h
        · exact askE_ok he (by omega)
        · omega)
    have q17 : q ≤ 17 := by rw [← hq]; unfold plc; split <;> omega
    have PL := hide' (fun (wr : World) => refPlaces_any S R T ta tn tc wr hL)
    rw [hq] at PL
    clear hT hW hL he hq
    have C0 := hide' (Below.refl w1.heap.size w1)
    obtain ⟨x0, x1, x2, x3, x4, x5, x6⟩ := RX.out
    go_enter Tryd.func62, Tryd.ntmps62
    go_wp2_with fail
    refine (lineFault_line S R T ta tn tc ws wa ws.length wc _ HL.out AT.out AW.out).mono ?_
    rw [HE.out]
    rintro e w2 ⟨rfl, b⟩
    clear hw1
    have C1 := hide' (C0.out.trans (b.mono C0.out.size))
    clear b x0 x1 x2 x3 x4 x5 x6 C0
    obtain ⟨x0, x1, x2, x3, x4, x5, x6⟩ := RX.out.next C1.out
    go_wp2_with fail
    refine (PL.out _).mono ?_
    rintro e w3 ⟨rfl, b⟩
    have C2 := hide' (C1.out.trans (b.mono C1.out.size))
    clear b x0 x1 x2 x3 x4 x5 x6 C1
    obtain ⟨x0, x1, x2, x3, x4, x5, x6⟩ := RX.out.next C2.out
    by_cases d : (16 : Int) < (q : Int)
    · have E := hide' (AF.out.1 (by omega))
      go_wp2
      go_ret
      exact ⟨by rw [E.out]; rfl, BB.out.trans (C2.out.mono BB.out.size)⟩
    · have E := hide' (AF.out.2 (by omega))
      go_wp2
      go_ret
      exact ⟨by rw [E.out]; rfl, BB.out.trans (C2.out.mono BB.out.size)⟩
  · obtain ⟨f, hf⟩ : ∃ f, wordE S ws = f := ⟨_, rfl⟩
    have HF := hide' hf
    have E := hide' (show askE S R ws = f by rw [askE_word (by omega), hf])
    have k0 : ((f : Int) == 0) = false := by rw [beq_eq_false_iff_ne]; rw [hf] at he; omega
    clear hT hW hL he hf
    have C0 := hide' (Below.refl w1.heap.size w1)
    obtain ⟨x0, x1, x2, x3, x4, x5, x6⟩ := RX.out
    go_enter Tryd.func62, Tryd.ntmps62
    go_wp2_with fail
    refine (lineFault_line S R T ta tn tc ws wa ws.length wc _ HL.out AT.out AW.out).mono ?_
    rw [HF.out]
    rintro e w2 ⟨rfl, b⟩
    clear hw1
    have C1 := hide' (C0.out.trans (b.mono C0.out.size))
    clear b x0 x1 x2 x3 x4 x5 x6 C0
    obtain ⟨x0, x1, x2, x3, x4, x5, x6⟩ := RX.out.next C1.out
    go_wp2
    go_ret
    exact ⟨by rw [E.out]; rfl, BB.out.trans (C1.out.mono BB.out.size)⟩

end Go.Proofs.YtdhbdkkchobinaaDoor

namespace Go.Proofs.YtdhbdkkchobinaaDoor
open Go.RowKit
set_option linter.unusedVariables false

def OneErr (f : Nat) (w : World) (e : Ending) (w' : World) : Prop := e = .returned (.tuple #[.bool false, .slice none 0 0, .slice none 0 0, .iface 103 (.int .i64 (f : Int))]) ∧ Below w.heap.size w w'
def OnePost (S n : Nat) (T : List Int) (w : World) (e : Ending) (w' : World) : Prop :=
  ((∃ u full v1 v2, e = .returned (.tuple #[.bool false, v1, v2, .nilIface]) ∧ w'.ownsRow w.heap.size 3 1 v1 full.length (full.map fun y => .int .i64 (y.1 : Int)) ∧ w'.ownsRow w.heap.size 3 1 v2 full.length (full.map fun y => .int .i64 (y.2 : Int)) ∧ IsRing S n T u full) ∨
   (e = .returned (.tuple #[.bool true, .slice none 0 0, .slice none 0 0, .nilIface]) ∧ ∀ u : Nat × Nat, u.1 ≤ u.2 → u.2 < n → NoRing S n T u)) ∧ Below w.heap.size w w'
theorem argP_nil (w : World) : ArgP w [] none 0 0 := ⟨rfl, by simp, fun k hk => by simp at hk⟩

set_option maxRecDepth 100000 in
set_option maxHeartbeats 3200000 in
theorem one_off (o : Out) (ta : Option Addr) (tn tc : Nat) (w : World) (hR : ArgR w o ta tn tc) (h : ¬ (Good o ∧ o.kind = 2)) :
    Calls Tryd.prog 65 #[.agg #[.int .i64 o.kind, .int .i64 o.born, .int .i64 o.stay, .int .i64 o.states, .int .i64 o.radius, .slice ta tn tc, .string o.turns]] w (OneErr 1 w) := by
  obtain ⟨w1, hw1⟩ : ∃ w1, w.alloc (.cells #[.int .i64 o.kind, .int .i64 o.born, .int .i64 o.stay, .int .i64 o.states, .int .i64 o.radius, .slice ta tn tc, .string o.turns] 24) = w1 := ⟨_, rfl⟩
  have BB := hide' (show Below w.heap.size w w1 by rw [← hw1]; exact (Below.refl _ _).alloc (Nat.le_refl _) _)
  have RX := hide' (show RBo w.heap.size o (.slice ta tn tc) w1 by rw [← hw1]; exact RBo.new w o _ _)
  have AT := hide' (show ArgR w1 o ta tn tc by rw [← hw1]; exact hR.alloc _)
  have HH := hide' h
  clear hR h
  have C0 := hide' (Below.refl w1.heap.size w1)
  obtain ⟨x0, x1, x2, x3, x4, x5, x6⟩ := RX.out
  go_enter Tryd.func65, Tryd.ntmps65
  go_wp2_with fail
  refine (ontoCheck_off o ta tn tc (.slice none 0 0) _ AT.out HH.out).mono ?_
  rintro e w2 ⟨rfl, b⟩
  clear hw1
  have C1 := hide' (C0.out.trans (b.mono C0.out.size))
  clear b x0 x1 x2 x3 x4 x5 x6 C0
  obtain ⟨x0, x1, x2, x3, x4, x5, x6⟩ := RX.out.next C1.out
  go_wp2
  refine bodyPost_ret (v := .tuple #[.bool false, .slice none 0 0, .slice none 0 0, .iface 103 (.int .i64 1)]) (by simp [results, Tryd.results65, go_sem]) rfl ?_
  exact ⟨rfl, BB.out.trans (C1.out.mono BB.out.size)⟩

set_option maxRecDepth 100000 in
set_option maxHeartbeats 3200000 in
theorem one_bad (S R : Nat) (T : List Int) (ta : Option Addr) (tn tc : Nat) (w : World) (hL : LineOk S R T) (hT : ArgP w T ta tn tc) (he : askE S R [] ≠ 0) :
    Calls Tryd.prog 65 #[.agg #[.int .i64 2, .int .i64 0, .int .i64 0, .int .i64 (S : Int), .int .i64 (R : Int), .slice ta tn tc, .string ⟨#[]⟩]] w (OneErr (askE S R []) w) := by
  obtain ⟨w1, hw1⟩ : ∃ w1, w.alloc (.cells #[.int .i64 2, .int .i64 0, .int .i64 0, .int .i64 (S : Int), .int .i64 (R : Int), .slice ta tn tc, .string ⟨#[]⟩] 24) = w1 := ⟨_, rfl⟩
  have BB := hide' (show Below w.heap.size w w1 by rw [← hw1]; exact (Below.refl _ _).alloc (Nat.le_refl _) _)
  have RX := hide' (show RB w.heap.size S R (.slice ta tn tc) w1 by rw [← hw1]; exact RB.new w S R _ _)
  have AT := hide' (hT.below BB.out)
  have HL := hide' hL
  obtain ⟨f, hf⟩ : ∃ f, askE S R [] = f := ⟨_, rfl⟩
  have ER := hide' (show errOf (askE S R []) = .iface 103 (.int .i64 (f : Int)) by rw [hf]; exact errOf_ne (by rw [← hf]; exact he))
  rw [hf]
  clear hT hL he hf
  have C0 := hide' (Below.refl w1.heap.size w1)
  obtain ⟨x0, x1, x2, x3, x4, x5, x6⟩ := RX.out
  go_enter Tryd.func65, Tryd.ntmps65
  go_wp2_with fail
  refine (ontoCheck_line S R T ta tn tc [] none 0 0 _ HL.out AT.out (argP_nil _)).mono ?_
  rw [ER.out]
  rintro e w2 ⟨rfl, b⟩
  clear hw1
  have C1 := hide' (C0.out.trans (b.mono C0.out.size))
  clear b x0 x1 x2 x3 x4 x5 x6 C0
  obtain ⟨x0, x1, x2, x3, x4, x5, x6⟩ := RX.out.next C1.out
  go_wp2
  refine bodyPost_ret (v := .tuple #[.bool false, .slice none 0 0, .slice none 0 0, .iface 103 (.int .i64 (f : Int))]) (by simp [results, Tryd.results65, go_sem]) rfl ?_
  exact ⟨rfl, BB.out.trans (C1.out.mono BB.out.size)⟩

set_option maxRecDepth 100000 in
set_option maxHeartbeats 3200000 in
theorem one_ok (S R n : Nat) (T : List Int) (ta : Option Addr) (tn tc : Nat) (w : World) (hL : LineOk S R T) (hT : ArgP w T ta tn tc) (he : askE S R [] = 0) (hn : S ^ (2 * R) = n) :
    Calls Tryd.prog 65 #[.agg #[.int .i64 2, .int .i64 0, .int .i64 0, .int .i64 (S : Int), .int .i64 (R : Int), .slice ta tn tc, .string ⟨#[]⟩]] w (OnePost S n T w) := by
  obtain ⟨w1, hw1⟩ : ∃ w1, w.alloc (.cells #[.int .i64 2, .int .i64 0, .int .i64 0, .int .i64 (S : Int), .int .i64 (R : Int), .slice ta tn tc, .string ⟨#[]⟩] 24) = w1 := ⟨_, rfl⟩
  have BB := hide' (show Below w.heap.size w w1 by rw [← hw1]; exact (Below.refl _ _).alloc (Nat.le_refl _) _)
  have RX := hide' (show RB w.heap.size S R (.slice ta tn tc) w1 by rw [← hw1]; exact RB.new w S R _ _)
  have AT := hide' (hT.below BB.out)
  have HL := hide' hL
  obtain ⟨h1, h2⟩ := askE_zero he
  obtain ⟨g1, g2, g3⟩ := hL.graph hT.len hn
  rw [hn] at h2
  have t4 : tn ≤ 4096 := by rw [hT.len]; exact hL.max
  have TBK := hide' (hT.blk (by have := hT.len; have := hL.pos; omega))
  have GO := hide' (fun (wr : World) => graphOf_any S R T ta tn tc n wr hL g1 t4)
  have RI' := hide' (fun (wr : World) (h : Below w1.heap.size w1 wr) => rings_any S R n T ta tn tc wr g3 h2 hL.s2 hL.s4 g2 (AT.out.below h) (fun g off e => by have := TBK.out g off e; have := BB.out.size; have := h.size; omega))
  have HE := hide' he
  clear hT hL he h1 h2 hn g1 g2 g3 t4
  have C0 := hide' (Below.refl w1.heap.size w1)
  obtain ⟨x0, x1, x2, x3, x4, x5, x6⟩ := RX.out
  go_enter Tryd.func65, Tryd.ntmps65
  go_wp2_with fail
  refine (ontoCheck_line S R T ta tn tc [] none 0 0 _ HL.out AT.out (argP_nil _)).mono ?_
  rw [HE.out, show errOf 0 = .nilIface from rfl]
  rintro e w2 ⟨rfl, b⟩
  clear hw1
  have C1 := hide' (C0.out.trans (b.mono C0.out.size))
  clear b x0 x1 x2 x3 x4 x5 x6 C0
  obtain ⟨x0, x1, x2, x3, x4, x5, x6⟩ := RX.out.next C1.out
  go_wp2_with fail
  refine (GO.out _).mono ?_
  rintro e w3 ⟨rfl, b⟩
  have C2 := hide' (C1.out.trans (b.mono C1.out.size))
  clear b x0 x1 x2 x3 x4 x5 x6 C1
  obtain ⟨x0, x1, x2, x3, x4, x5, x6⟩ := RX.out.next C2.out
  have sz3 := C2.out.size
  have szw := BB.out.size
  go_wp2_with fail
  refine (RI'.out _ C2.out).mono ?_
  unfold RingsPost
  rintro e w4 ⟨hor, b⟩
  rcases hor with ⟨u, full, v1, v2, rfl, o1, o2, ir⟩ | ⟨rfl, hno⟩
  · have h0 : 0 < full.length := by obtain ⟨_, _, _, ⟨cs, d, e, _⟩, _⟩ := ir; rw [e]; simp
    obtain ⟨g8, c8, rfl⟩ := row_form o1 h0
    obtain ⟨g9, c9, rfl⟩ := row_form o2 h0
    have O1 := hide' (row_base_mono o1 (show w.heap.size ≤ w3.heap.size by omega))
    have O2 := hide' (row_base_mono o2 (show w.heap.size ≤ w3.heap.size by omega))
    have IR := hide' ir
    have k0 : ((full.length : Int) == 0) = false := by rw [beq_eq_false_iff_ne]; omega
    clear o1 o2 ir
    have C3 := hide' (C2.out.trans (b.mono C2.out.size))
    clear b x0 x1 x2 x3 x4 x5 x6 C2
    obtain ⟨x0, x1, x2, x3, x4, x5, x6⟩ := RX.out.next C3.out
    go_wp2
    refine bodyPost_ret (v := .tuple #[.bool false, .slice (some ⟨g8, 0, none⟩) full.length c8, .slice (some ⟨g9, 0, none⟩) full.length c9, .nilIface]) (by simp [results, Tryd.results65, go_sem]) rfl ?_
    exact ⟨Or.inl ⟨u, full, _, _, rfl, O1.out, O2.out, IR.out⟩, BB.out.trans (C3.out.mono BB.out.size)⟩
  · have NO := hide' hno
    clear hno
    have C3 := hide' (C2.out.trans (b.mono C2.out.size))
    clear b x0 x1 x2 x3 x4 x5 x6 C2
    obtain ⟨x0, x1, x2, x3, x4, x5, x6⟩ := RX.out.next C3.out
    go_wp2
    refine bodyPost_ret (v := .tuple #[.bool true, .slice none 0 0, .slice none 0 0, .nilIface]) (by simp [results, Tryd.results65, go_sem]) rfl ?_
    exact ⟨Or.inr ⟨rfl, NO.out⟩, BB.out.trans (C3.out.mono BB.out.size)⟩
end Go.Proofs.YtdhbdkkchobinaaDoor

namespace Go.Proofs.YtdhbdkkchobinaaDoor
open Go.RowKit
set_option linter.unusedVariables false

end Go.Proofs.YtdhbdkkchobinaaDoor

