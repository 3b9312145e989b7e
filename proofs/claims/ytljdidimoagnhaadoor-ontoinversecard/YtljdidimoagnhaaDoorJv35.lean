/-
  What the last text of this claim leans on, part 35: Ob5.
-/
import Derived.Test.YtljdidimoagnhaaDoorJv23
import Derived.Test.YtljdidimoagnhaaDoorJv31
import Derived.Test.YtljdidimoagnhaaDoorJv34
namespace Go.Proofs.YtljdidimoagnhaaDoor
open Go.RowKit
set_option linter.unusedVariables false

def NumErr (f : Nat) (w : World) (e : Ending) (w' : World) : Prop := e = .returned (.tuple #[.int .i64 0, .iface 97 (.int .i64 (f : Int))]) ∧ Below w.heap.size w w'
def NumOk (x : Int) (w : World) (e : Ending) (w' : World) : Prop := e = .returned (.tuple #[.int .i64 x, .nilIface]) ∧ Below w.heap.size w w'

set_option maxRecDepth 100000 in
set_option maxHeartbeats 3200000 in
theorem ontoParents_off (o : Out) (ta : Option Addr) (tn tc : Nat) (v : Value) (w : World) (hR : ArgR w o ta tn tc) (h : ¬ (Good o ∧ o.kind = 2)) :
    Calls Tryd.prog 69 #[.agg #[.int .i64 o.kind, .int .i64 o.born, .int .i64 o.stay, .int .i64 o.states, .int .i64 o.radius, .slice ta tn tc, .string o.turns], v] w (NumErr 1 w) := by
  obtain ⟨w1, hw1⟩ : ∃ w1, w.alloc (.cells #[.int .i64 o.kind, .int .i64 o.born, .int .i64 o.stay, .int .i64 o.states, .int .i64 o.radius, .slice ta tn tc, .string o.turns] 24) = w1 := ⟨_, rfl⟩
  have BB := hide' (show Below w.heap.size w w1 by rw [← hw1]; exact (Below.refl _ _).alloc (Nat.le_refl _) _)
  have RX := hide' (show RBo w.heap.size o (.slice ta tn tc) w1 by rw [← hw1]; exact RBo.new w o _ _)
  have AT := hide' (show ArgR w1 o ta tn tc by rw [← hw1]; exact hR.alloc _)
  have HH := hide' h
  clear hR h
  have C0 := hide' (Below.refl w1.heap.size w1)
  obtain ⟨x0, x1, x2, x3, x4, x5, x6⟩ := RX.out
  go_enter Tryd.func69, Tryd.ntmps69
  go_wp2_with fail
  refine (ontoCheck_off o ta tn tc v _ AT.out HH.out).mono ?_
  rintro e w2 ⟨rfl, b⟩
  clear hw1
  have C1 := hide' (C0.out.trans (b.mono C0.out.size))
  clear b x0 x1 x2 x3 x4 x5 x6 C0
  obtain ⟨x0, x1, x2, x3, x4, x5, x6⟩ := RX.out.next C1.out
  go_wp2
  go_ret2
  exact ⟨rfl, BB.out.trans (C1.out.mono BB.out.size)⟩

set_option maxRecDepth 100000 in
set_option maxHeartbeats 3200000 in
theorem ontoParents_bad (S R : Nat) (T : List Int) (ta : Option Addr) (tn tc : Nat) (ws : List Int) (wa : Option Addr) (wc : Nat) (w : World) (hL : LineOk S R T) (hT : ArgP w T ta tn tc) (hW : ArgP w ws wa ws.length wc) (he : askE S R ws ≠ 0) :
    Calls Tryd.prog 69 #[.agg #[.int .i64 2, .int .i64 0, .int .i64 0, .int .i64 (S : Int), .int .i64 (R : Int), .slice ta tn tc, .string ⟨#[]⟩], .slice wa ws.length wc] w (NumErr (askE S R ws) w) := by
  obtain ⟨w1, hw1⟩ : ∃ w1, w.alloc (.cells #[.int .i64 2, .int .i64 0, .int .i64 0, .int .i64 (S : Int), .int .i64 (R : Int), .slice ta tn tc, .string ⟨#[]⟩] 24) = w1 := ⟨_, rfl⟩
  have BB := hide' (show Below w.heap.size w w1 by rw [← hw1]; exact (Below.refl _ _).alloc (Nat.le_refl _) _)
  have RX := hide' (show RB w.heap.size S R (.slice ta tn tc) w1 by rw [← hw1]; exact RB.new w S R _ _)
  have AT := hide' (hT.below BB.out)
  have AW := hide' (hW.below BB.out)
  have HL := hide' hL
  obtain ⟨f, hf⟩ : ∃ f, askE S R ws = f := ⟨_, rfl⟩
  have ER := hide' (show errOf (askE S R ws) = .iface 97 (.int .i64 (f : Int)) by rw [hf]; exact errOf_ne (by rw [← hf]; exact he))
  rw [hf]
  clear hT hW hL he hf
  have C0 := hide' (Below.refl w1.heap.size w1)
  obtain ⟨x0, x1, x2, x3, x4, x5, x6⟩ := RX.out
  go_enter Tryd.func69, Tryd.ntmps69
  go_wp2_with fail
  refine (ontoCheck_line S R T ta tn tc ws wa ws.length wc _ HL.out AT.out AW.out).mono ?_
  rw [ER.out]
  rintro e w2 ⟨rfl, b⟩
  clear hw1
  have C1 := hide' (C0.out.trans (b.mono C0.out.size))
  clear b x0 x1 x2 x3 x4 x5 x6 C0
  obtain ⟨x0, x1, x2, x3, x4, x5, x6⟩ := RX.out.next C1.out
  go_wp2
  go_ret2
  exact ⟨rfl, BB.out.trans (C1.out.mono BB.out.size)⟩

theorem LineOk.graph {S R tn n : Nat} {T : List Int} (hL : LineOk S R T) (ht : tn = T.length) (hn : S ^ (2 * R) = n) : tn / S = n ∧ tn = n * S ∧ 0 < n := by
  have s2 := hL.s2
  refine ⟨by rw [places_of hL ht, hn], by rw [ht, hL.len, Nat.pow_succ, hn], ?_⟩
  rw [← hn]
  exact Nat.pow_pos (by omega)

set_option maxRecDepth 100000 in
set_option maxHeartbeats 3200000 in
theorem ontoParents_ok (S R : Nat) (T : List Int) (ta : Option Addr) (tn tc : Nat) (ws : List Int) (wa : Option Addr) (wc : Nat) (w : World) (hL : LineOk S R T) (hT : ArgP w T ta tn tc) (hW : ArgP w ws wa ws.length wc) (he : askE S R ws = 0) (p : Int) (hp : parL S (S ^ (2 * R)) T ws = p) :
    Calls Tryd.prog 69 #[.agg #[.int .i64 2, .int .i64 0, .int .i64 0, .int .i64 (S : Int), .int .i64 (R : Int), .slice ta tn tc, .string ⟨#[]⟩], .slice wa ws.length wc] w fun e w' => if p > 1000000000000000000 then NumErr 4 w e w' else NumOk p w e w' := by
  obtain ⟨w1, hw1⟩ : ∃ w1, w.alloc (.cells #[.int .i64 2, .int .i64 0, .int .i64 0, .int .i64 (S : Int), .int .i64 (R : Int), .slice ta tn tc, .string ⟨#[]⟩] 24) = w1 := ⟨_, rfl⟩
  have BB := hide' (show Below w.heap.size w w1 by rw [← hw1]; exact (Below.refl _ _).alloc (Nat.le_refl _) _)
  have RX := hide' (show RB w.heap.size S R (.slice ta tn tc) w1 by rw [← hw1]; exact RB.new w S R _ _)
  have AT := hide' (hT.below BB.out)
  have AW := hide' (hW.below BB.out)
  have HL := hide' hL
  obtain ⟨h1, h2⟩ := askE_zero he
  obtain ⟨hl, hok⟩ := wordE_zero h1
  obtain ⟨n, hn⟩ : ∃ n, S ^ (2 * R) = n := ⟨_, rfl⟩
  obtain ⟨g1, g2, g3⟩ := hL.graph hT.len hn
  rw [hn] at h2 hp
  have t4 : tn ≤ 4096 := by rw [hT.len]; exact hL.max
  have GO := hide' (fun (wr : World) => graphOf_any S R T ta tn tc n wr hL g1 t4)
  have PA := hide' (fun (wr : World) (h : Below w1.heap.size w1 wr) => parents_any S R n T ta tn tc ws wa ws.length wc wr (AT.out.below h) (AW.out.below h) g3 h2 hL.s2 hL.s4 g2 hl)
  have PB := hide' (show 0 ≤ p ∧ p ≤ big by rw [← hp]; exact sumB_in _ (cntL_small S n T ws ws.length) n)
  rw [hp] at PA
  have HE := hide' he
  clear hT hW hL he h1 h2 hl hok hn g1 g2 g3 hp t4
  have C0 := hide' (Below.refl w1.heap.size w1)
  obtain ⟨x0, x1, x2, x3, x4, x5, x6⟩ := RX.out
  go_enter Tryd.func69, Tryd.ntmps69
  go_wp2_with fail
  refine (ontoCheck_line S R T ta tn tc ws wa ws.length wc _ HL.out AT.out AW.out).mono ?_
  rw [HE.out, show errOf 0 = .nilIface from rfl]
  rintro e w2 ⟨rfl, b⟩
  clear hw1
  have C1 := hide' (C0.out.trans (b.mono C0.out.size))
  clear b x0 x1 x2 x3 x4 x5 x6 C0
  obtain ⟨x0, x1, x2, x3, x4, x5, x6⟩ := RX.out.next C1.out
  go_wp2_with fail
  refine (GO.out _).mono ?_
  rintro e w3 ⟨rfl, b⟩
  have C2 := hide' (C1.out.trans (b.mono C1.out.size))
  clear b x0 x1 x2 x3 x4 x5 x6 C1
  obtain ⟨x0, x1, x2, x3, x4, x5, x6⟩ := RX.out.next C2.out
  go_wp2_with fail
  refine (PA.out _ C2.out).mono ?_
  rintro e w4 ⟨rfl, b⟩
  have C3 := hide' (C2.out.trans (b.mono C2.out.size))
  clear b x0 x1 x2 x3 x4 x5 x6 C2
  obtain ⟨x0, x1, x2, x3, x4, x5, x6⟩ := RX.out.next C3.out
  have p0 : 0 ≤ p := PB.out.1
  have p1 : p ≤ 1000000000000000001 := PB.out.2
  by_cases d : (1000000000000000000 : Int) < p
  · go_wp2
    go_ret2
    exact ⟨rfl, BB.out.trans (C3.out.mono BB.out.size)⟩
  · go_wp2
    go_ret2
    exact ⟨rfl, BB.out.trans (C3.out.mono BB.out.size)⟩

set_option maxRecDepth 100000 in
set_option maxHeartbeats 3200000 in
theorem asked_off (o : Out) (ta : Option Addr) (tn tc : Nat) (v : Value) (w : World) (hR : ArgR w o ta tn tc) (h : ¬ (Good o ∧ o.kind = 2)) :
    Calls Tryd.prog 60 #[.agg #[.int .i64 o.kind, .int .i64 o.born, .int .i64 o.stay, .int .i64 o.states, .int .i64 o.radius, .slice ta tn tc, .string o.turns], v] w fun e w' => e = .returned (.int .i64 1) ∧ Below w.heap.size w w' := by
  obtain ⟨w1, hw1⟩ : ∃ w1, w.alloc (.cells #[.int .i64 o.kind, .int .i64 o.born, .int .i64 o.stay, .int .i64 o.states, .int .i64 o.radius, .slice ta tn tc, .string o.turns] 24) = w1 := ⟨_, rfl⟩
  have BB := hide' (show Below w.heap.size w w1 by rw [← hw1]; exact (Below.refl _ _).alloc (Nat.le_refl _) _)
  have RX := hide' (show RBo w.heap.size o (.slice ta tn tc) w1 by rw [← hw1]; exact RBo.new w o _ _)
  have AT := hide' (show ArgR w1 o ta tn tc by rw [← hw1]; exact hR.alloc _)
  have HH := hide' h
  clear hR h
  have C0 := hide' (Below.refl w1.heap.size w1)
  obtain ⟨x0, x1, x2, x3, x4, x5, x6⟩ := RX.out
  go_enter Tryd.func60, Tryd.ntmps60
  go_wp2_with fail
  refine (lineFault_off o ta tn tc v _ AT.out HH.out).mono ?_
  rintro e w2 ⟨rfl, b⟩
  clear hw1
  have C1 := hide' (C0.out.trans (b.mono C0.out.size))
  clear b x0 x1 x2 x3 x4 x5 x6 C0
  obtain ⟨x0, x1, x2, x3, x4, x5, x6⟩ := RX.out.next C1.out
  go_wp2
  go_ret
  exact ⟨rfl, BB.out.trans (C1.out.mono BB.out.size)⟩

set_option maxRecDepth 100000 in
set_option maxHeartbeats 3200000 in
theorem asked_line (S R : Nat) (T : List Int) (ta : Option Addr) (tn tc : Nat) (ws : List Int) (wa : Option Addr) (wc : Nat) (w : World) (hL : LineOk S R T) (hT : ArgP w T ta tn tc) (hW : ArgP w ws wa ws.length wc) :
    Calls Tryd.prog 60 #[.agg #[.int .i64 2, .int .i64 0, .int .i64 0, .int .i64 (S : Int), .int .i64 (R : Int), .slice ta tn tc, .string ⟨#[]⟩], .slice wa ws.length wc] w fun e w' => e = .returned (.int .i64 ((askE S R ws : Nat) : Int)) ∧ Below w.heap.size w w' := by
  obtain ⟨w1, hw1⟩ : ∃ w1, w.alloc (.cells #[.int .i64 2, .int .i64 0, .int .i64 0, .int .i64 (S : Int), .int .i64 (R : Int), .slice ta tn tc, .string ⟨#[]⟩] 24) = w1 := ⟨_, rfl⟩
  have BB := hide' (show Below w.heap.size w w1 by rw [← hw1]; exact (Below.refl _ _).alloc (Nat.le_refl _) _)
  have RX := hide' (show RB w.heap.size S R (.slice ta tn tc) w1 by rw [← hw1]; exact RB.new w S R _ _)
  have AT := hide' (hT.below BB.out)
  have AW := hide' (hW.below BB.out)
  have HL := hide' hL
  rcases Nat.eq_zero_or_pos (wordE S ws) with he | he
  · have HE := hide' he
    obtain ⟨q, hq⟩ : ∃ q, plc S R = q := ⟨_, rfl⟩
    have AF := hide' (show (16 < q → askE S R ws = 4) ∧ (¬ 16 < q → askE S R ws = 0) by
      rw [← hq]
      unfold plc
      constructor
      · intro h
        split at h
        · omega
        · exact askE_far he (by omega)
      · intro h
        split at h
        · exact askE_ok he (by omega)
        · omega)
    have q17 : q ≤ 17 := by rw [← hq]; unfold plc; split <;> omega
    have PL := hide' (fun (wr : World) => refPlaces_any S R T ta tn tc wr hL)
    rw [hq] at PL
    clear hT hW hL he hq
    have C0 := hide' (Below.refl w1.heap.size w1)
    obtain ⟨x0, x1, x2, x3, x4, x5, x6⟩ := RX.out
    go_enter Tryd.func60, Tryd.ntmps60
    go_wp2_with fail
    refine (lineFault_line S R T ta tn tc ws wa ws.length wc _ HL.out AT.out AW.out).mono ?_
    rw [HE.out]
    rintro e w2 ⟨rfl, b⟩
    clear hw1
    have C1 := hide' (C0.out.trans (b.mono C0.out.size))
    clear b x0 x1 x2 x3 x4 x5 x6 C0
    obtain ⟨x0, x1, x2, x3, x4, x5, x6⟩ := RX.out.next C1.out
    go_wp2_with fail
    refine (PL.out _).mono ?_
    rintro e w3 ⟨rfl, b⟩
    have C2 := hide' (C1.out.trans (b.mono C1.out.size))
    clear b x0 x1 x2 x3 x4 x5 x6 C1
    obtain ⟨x0, x1, x2, x3, x4, x5, x6⟩ := RX.out.next C2.out
    by_cases d : (16 : Int) < (q : Int)
    · have E := hide' (AF.out.1 (by omega))
      go_wp2
      go_ret
      exact ⟨by rw [E.out]; rfl, BB.out.trans (C2.out.mono BB.out.size)⟩
    · have E := hide' (AF.out.2 (by omega))
      go_wp2
      go_ret
      exact ⟨by rw [E.out]; rfl, BB.out.trans (C2.out.mono BB.out.size)⟩
  · obtain ⟨f, hf⟩ : ∃ f, wordE S ws = f := ⟨_, rfl⟩
    have HF := hide' hf
    have E := hide' (show askE S R ws = f by rw [askE_word (by omega), hf])
    have k0 : ((f : Int) == 0) = false := by rw [beq_eq_false_iff_ne]; rw [hf] at he; omega
    clear hT hW hL he hf
    have C0 := hide' (Below.refl w1.heap.size w1)
    obtain ⟨x0, x1, x2, x3, x4, x5, x6⟩ := RX.out
    go_enter Tryd.func60, Tryd.ntmps60
    go_wp2_with fail
    refine (lineFault_line S R T ta tn tc ws wa ws.length wc _ HL.out AT.out AW.out).mono ?_
    rw [HF.out]
    rintro e w2 ⟨rfl, b⟩
    clear hw1
    have C1 := hide' (C0.out.trans (b.mono C0.out.size))
    clear b x0 x1 x2 x3 x4 x5 x6 C0
    obtain ⟨x0, x1, x2, x3, x4, x5, x6⟩ := RX.out.next C1.out
    go_wp2
    go_ret
    exact ⟨by rw [E.out]; rfl, BB.out.trans (C1.out.mono BB.out.size)⟩

set_option maxRecDepth 100000 in
set_option maxHeartbeats 3200000 in
theorem law_parents_off (o : Out) (ta : Option Addr) (tn tc : Nat) (ws : List Int) (wa : Option Addr) (wc : Nat) (w : World) (hR : ArgR w o ta tn tc) (h : ¬ (Good o ∧ o.kind = 2)) (hg : Handle w) :
    Calls Tryd.prog 13 #[.agg #[.int .i64 o.kind, .int .i64 o.born, .int .i64 o.stay, .int .i64 o.states, .int .i64 o.radius, .slice ta tn tc, .string o.turns], .slice wa ws.length wc] w fun e w' => e = .returned (.bool true) ∧ Below w.heap.size w w' := by
  obtain ⟨w1, hw1⟩ : ∃ w1, w.alloc (.cells #[.int .i64 o.kind, .int .i64 o.born, .int .i64 o.stay, .int .i64 o.states, .int .i64 o.radius, .slice ta tn tc, .string o.turns] 24) = w1 := ⟨_, rfl⟩
  have BB := hide' (show Below w.heap.size w w1 by rw [← hw1]; exact (Below.refl _ _).alloc (Nat.le_refl _) _)
  have RX := hide' (show RBo w.heap.size o (.slice ta tn tc) w1 by rw [← hw1]; exact RBo.new w o _ _)
  have AT := hide' (show ArgR w1 o ta tn tc by rw [← hw1]; exact hR.alloc _)
  have HH := hide' h
  clear hR h
  have HG := hide' (hg.below BB.out)
  clear hg
  have C0 := hide' (Below.refl w1.heap.size w1)
  obtain ⟨x0, x1, x2, x3, x4, x5, x6⟩ := RX.out
  go_enter Tryd.func13, Tryd.ntmps13
  go_wp2_with fail
  refine (asked_off o ta tn tc (.slice wa ws.length wc) _ (AT.out.below C0.out) HH.out).mono ?_
  rintro e w2 ⟨rfl, b⟩
  clear hw1
  have C1 := hide' (C0.out.trans (b.mono C0.out.size))
  clear b x0 x1 x2 x3 x4 x5 x6 C0
  obtain ⟨x0, x1, x2, x3, x4, x5, x6⟩ := RX.out.next C1.out
  go_wp2_with fail
  refine (ontoParents_off o ta tn tc (.slice wa ws.length wc) _ (AT.out.below C1.out) HH.out).mono ?_
  unfold NumErr
  rintro e w3 ⟨rfl, b⟩
  have C2 := hide' (C1.out.trans (b.mono C1.out.size))
  clear b x0 x1 x2 x3 x4 x5 x6 C1
  obtain ⟨x0, x1, x2, x3, x4, x5, x6⟩ := RX.out.next C2.out
  go_wp2_with fail
  refine (err_some_true 1 _ (HG.out.below C2.out)).mono ?_
  rintro e w4 ⟨rfl, b⟩
  have C3 := hide' (C2.out.trans (b.mono C2.out.size))
  clear b x0 x1 x2 x3 x4 x5 x6 C2
  obtain ⟨x0, x1, x2, x3, x4, x5, x6⟩ := RX.out.next C3.out
  go_wp2
  go_ret
  exact ⟨rfl, BB.out.trans (C3.out.mono BB.out.size)⟩

set_option maxRecDepth 100000 in
set_option maxHeartbeats 3200000 in
theorem law_parents_bad (S R : Nat) (T : List Int) (ta : Option Addr) (tn tc : Nat) (ws : List Int) (wa : Option Addr) (wc : Nat) (w : World) (hL : LineOk S R T) (hT : ArgP w T ta tn tc) (hW : ArgP w ws wa ws.length wc) (hg : Handle w) (he : askE S R ws ≠ 0) :
    Calls Tryd.prog 13 #[.agg #[.int .i64 2, .int .i64 0, .int .i64 0, .int .i64 (S : Int), .int .i64 (R : Int), .slice ta tn tc, .string ⟨#[]⟩], .slice wa ws.length wc] w fun e w' => e = .returned (.bool true) ∧ Below w.heap.size w w' := by
  obtain ⟨w1, hw1⟩ : ∃ w1, w.alloc (.cells #[.int .i64 2, .int .i64 0, .int .i64 0, .int .i64 (S : Int), .int .i64 (R : Int), .slice ta tn tc, .string ⟨#[]⟩] 24) = w1 := ⟨_, rfl⟩
  have BB := hide' (show Below w.heap.size w w1 by rw [← hw1]; exact (Below.refl _ _).alloc (Nat.le_refl _) _)
  have RX := hide' (show RB w.heap.size S R (.slice ta tn tc) w1 by rw [← hw1]; exact RB.new w S R _ _)
  have AT := hide' (hT.below BB.out)
  have AW := hide' (hW.below BB.out)
  have HL := hide' hL
  have HE := hide' he
  obtain ⟨f, hf⟩ : ∃ f, askE S R ws = f := ⟨_, rfl⟩
  have HF := hide' hf
  have k0 : ((f : Int) == 0) = false := by rw [beq_eq_false_iff_ne]; rw [hf] at he; omega
  clear hf hT hW hL he
  have HG := hide' (hg.below BB.out)
  clear hg
  have C0 := hide' (Below.refl w1.heap.size w1)
  obtain ⟨x0, x1, x2, x3, x4, x5, x6⟩ := RX.out
  go_enter Tryd.func13, Tryd.ntmps13
  go_wp2_with fail
  refine (asked_line S R T ta tn tc ws wa wc _ HL.out (AT.out.below C0.out) (AW.out.below C0.out)).mono ?_
  rw [HF.out]
  rintro e w2 ⟨rfl, b⟩
  clear hw1
  have C1 := hide' (C0.out.trans (b.mono C0.out.size))
  clear b x0 x1 x2 x3 x4 x5 x6 C0
  obtain ⟨x0, x1, x2, x3, x4, x5, x6⟩ := RX.out.next C1.out
  go_wp2_with fail
  refine (ontoParents_bad S R T ta tn tc ws wa wc _ HL.out (AT.out.below C1.out) (AW.out.below C1.out) HE.out).mono ?_
  rw [HF.out]
  unfold NumErr
  rintro e w3 ⟨rfl, b⟩
  have C2 := hide' (C1.out.trans (b.mono C1.out.size))
  clear b x0 x1 x2 x3 x4 x5 x6 C1
  obtain ⟨x0, x1, x2, x3, x4, x5, x6⟩ := RX.out.next C2.out
  go_wp2_with fail
  refine (err_some_true (f : Int) _ (HG.out.below C2.out)).mono ?_
  rintro e w4 ⟨rfl, b⟩
  have C3 := hide' (C2.out.trans (b.mono C2.out.size))
  clear b x0 x1 x2 x3 x4 x5 x6 C2
  obtain ⟨x0, x1, x2, x3, x4, x5, x6⟩ := RX.out.next C3.out
  go_wp2
  go_ret
  exact ⟨rfl, BB.out.trans (C3.out.mono BB.out.size)⟩

set_option maxRecDepth 100000 in
set_option maxHeartbeats 3200000 in
theorem law_parents_ok (S R : Nat) (T : List Int) (ta : Option Addr) (tn tc : Nat) (ws : List Int) (wa : Option Addr) (wc : Nat) (w : World) (hL : LineOk S R T) (hT : ArgP w T ta tn tc) (hW : ArgP w ws wa ws.length wc) (hg : Handle w) (he : askE S R ws = 0) :
    Calls Tryd.prog 13 #[.agg #[.int .i64 2, .int .i64 0, .int .i64 0, .int .i64 (S : Int), .int .i64 (R : Int), .slice ta tn tc, .string ⟨#[]⟩], .slice wa ws.length wc] w fun e w' => e = .returned (.bool true) ∧ Below w.heap.size w w' := by
  obtain ⟨w1, hw1⟩ : ∃ w1, w.alloc (.cells #[.int .i64 2, .int .i64 0, .int .i64 0, .int .i64 (S : Int), .int .i64 (R : Int), .slice ta tn tc, .string ⟨#[]⟩] 24) = w1 := ⟨_, rfl⟩
  have BB := hide' (show Below w.heap.size w w1 by rw [← hw1]; exact (Below.refl _ _).alloc (Nat.le_refl _) _)
  have RX := hide' (show RB w.heap.size S R (.slice ta tn tc) w1 by rw [← hw1]; exact RB.new w S R _ _)
  have AT := hide' (hT.below BB.out)
  have AW := hide' (hW.below BB.out)
  have HL := hide' hL
  have HE := hide' he
  obtain ⟨h1, h2⟩ := askE_zero he
  obtain ⟨hl, hok⟩ := wordE_zero h1
  obtain ⟨n, hn⟩ : ∃ n, S ^ (2 * R) = n := ⟨_, rfl⟩
  obtain ⟨g1, g2, g3⟩ := hL.graph hT.len hn
  have PN := hide' (show plc S R = n by rw [plc_end h2, hn])
  rw [hn] at h2
  obtain ⟨p, hp⟩ : ∃ p, parL S n T ws = p := ⟨_, rfl⟩
  have RP := hide' (fun (wr : World) (h : Below w1.heap.size w1 wr) => refParents_any S R n T ta tn tc ws wa ws.length wc wr hL (AT.out.below h) (AW.out.below h) PN.out g3 h2 g2 hl)
  have PP := hide' (fun (wr : World) (h : Below w1.heap.size w1 wr) => ontoParents_ok S R T ta tn tc ws wa wc wr hL (AT.out.below h) (AW.out.below h) he p (by rw [hn]; exact hp))
  have PB := hide' (show 0 ≤ p ∧ p ≤ big by rw [← hp]; exact sumB_in _ (cntL_small S n T ws ws.length) n)
  rw [hp] at RP
  clear hT hW hL he h1 h2 hl hok hn g1 g2 g3 hp PN
  have HG := hide' (hg.below BB.out)
  clear hg
  have p0 : 0 ≤ p := PB.out.1
  have p1 : p ≤ 1000000000000000001 := PB.out.2
  by_cases d : (1000000000000000000 : Int) < p
  · have P4 := hide' (fun (wr : World) (h : Below w1.heap.size w1 wr) => (PP.out wr h).mono (R' := NumErr 4 wr) (fun e w' q => by rw [if_pos (show p > 1000000000000000000 from d)] at q; exact q))
    clear PP
    have C0 := hide' (Below.refl w1.heap.size w1)
    obtain ⟨x0, x1, x2, x3, x4, x5, x6⟩ := RX.out
    go_enter Tryd.func13, Tryd.ntmps13
    go_wp2_with fail
    refine (asked_line S R T ta tn tc ws wa wc _ HL.out (AT.out.below C0.out) (AW.out.below C0.out)).mono ?_
    rw [HE.out]
    rintro e w2 ⟨rfl, b⟩
    clear hw1
    have C1 := hide' (C0.out.trans (b.mono C0.out.size))
    clear b x0 x1 x2 x3 x4 x5 x6 C0
    obtain ⟨x0, x1, x2, x3, x4, x5, x6⟩ := RX.out.next C1.out
    go_wp2_with fail
    refine (P4.out _ C1.out).mono ?_
    unfold NumErr
    rintro e w3 ⟨rfl, b⟩
    have C2 := hide' (C1.out.trans (b.mono C1.out.size))
    clear b x0 x1 x2 x3 x4 x5 x6 C1
    obtain ⟨x0, x1, x2, x3, x4, x5, x6⟩ := RX.out.next C2.out
    go_wp2_with fail
    refine (RP.out _ C2.out).mono ?_
    rintro e w4 ⟨rfl, b⟩
    have C3 := hide' (C2.out.trans (b.mono C2.out.size))
    clear b x0 x1 x2 x3 x4 x5 x6 C2
    obtain ⟨x0, x1, x2, x3, x4, x5, x6⟩ := RX.out.next C3.out
    go_wp2_with fail
    refine (err_some_true 4 _ (HG.out.below C3.out)).mono ?_
    rintro e w5 ⟨rfl, b⟩
    have C4 := hide' (C3.out.trans (b.mono C3.out.size))
    clear b x0 x1 x2 x3 x4 x5 x6 C3
    obtain ⟨x0, x1, x2, x3, x4, x5, x6⟩ := RX.out.next C4.out
    go_wp2
    go_ret
    exact ⟨rfl, BB.out.trans (C4.out.mono BB.out.size)⟩
  · have P4 := hide' (fun (wr : World) (h : Below w1.heap.size w1 wr) => (PP.out wr h).mono (R' := NumOk p wr) (fun e w' q => by rw [if_neg (show ¬ p > 1000000000000000000 from d)] at q; exact q))
    clear PP
    have C0 := hide' (Below.refl w1.heap.size w1)
    obtain ⟨x0, x1, x2, x3, x4, x5, x6⟩ := RX.out
    go_enter Tryd.func13, Tryd.ntmps13
    go_wp2_with fail
    refine (asked_line S R T ta tn tc ws wa wc _ HL.out (AT.out.below C0.out) (AW.out.below C0.out)).mono ?_
    rw [HE.out]
    rintro e w2 ⟨rfl, b⟩
    clear hw1
    have C1 := hide' (C0.out.trans (b.mono C0.out.size))
    clear b x0 x1 x2 x3 x4 x5 x6 C0
    obtain ⟨x0, x1, x2, x3, x4, x5, x6⟩ := RX.out.next C1.out
    go_wp2_with fail
    refine (P4.out _ C1.out).mono ?_
    unfold NumOk
    rintro e w3 ⟨rfl, b⟩
    have C2 := hide' (C1.out.trans (b.mono C1.out.size))
    clear b x0 x1 x2 x3 x4 x5 x6 C1
    obtain ⟨x0, x1, x2, x3, x4, x5, x6⟩ := RX.out.next C2.out
    go_wp2_with fail
    refine (RP.out _ C2.out).mono ?_
    rintro e w4 ⟨rfl, b⟩
    have C3 := hide' (C2.out.trans (b.mono C2.out.size))
    clear b x0 x1 x2 x3 x4 x5 x6 C2
    obtain ⟨x0, x1, x2, x3, x4, x5, x6⟩ := RX.out.next C3.out
    go_wp2_with fail
    refine (err_nil_true _).mono ?_
    rintro e w5 ⟨rfl, b⟩
    have C4 := hide' (C3.out.trans (b.mono C3.out.size))
    clear b x0 x1 x2 x3 x4 x5 x6 C3
    obtain ⟨x0, x1, x2, x3, x4, x5, x6⟩ := RX.out.next C4.out
    go_wp2
    go_ret
    exact ⟨rfl, BB.out.trans (C4.out.mono BB.out.size)⟩

/-- At every rule and word. -/
theorem law_parents_all (o : Out) (ta : Option Addr) (tn tc : Nat) (ws : List Int) (wa : Option Addr) (wc : Nat) (w : World) (hR : ArgR w o ta tn tc) (hW : ArgP w ws wa ws.length wc) (hg : Handle w) :
    Calls Tryd.prog 13 #[.agg #[.int .i64 o.kind, .int .i64 o.born, .int .i64 o.stay, .int .i64 o.states, .int .i64 o.radius, .slice ta tn tc, .string o.turns], .slice wa ws.length wc] w fun e w' => e = .returned (.bool true) ∧ Below w.heap.size w w' := by
  by_cases h : Good o ∧ o.kind = 2
  · obtain ⟨S, R, e, hL⟩ := good_line o h.1 h.2
    have hT : ArgP w o.table ta tn tc := ⟨hR.len, hR.max, hR.cells⟩
    obtain ⟨T, hTe⟩ : ∃ T, o.table = T := ⟨_, rfl⟩
    rw [hTe] at e hL hT
    subst e
    by_cases he : askE S R ws = 0
    · exact law_parents_ok S R T ta tn tc ws wa wc w hL hT hW hg he
    · exact law_parents_bad S R T ta tn tc ws wa wc w hL hT hW hg he
  · exact law_parents_off o ta tn tc ws wa wc w hR h hg
end Go.Proofs.YtljdidimoagnhaaDoor

