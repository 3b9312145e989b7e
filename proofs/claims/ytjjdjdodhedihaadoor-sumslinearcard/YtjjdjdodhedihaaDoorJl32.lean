/-
  What the last text of this claim leans on, part 32: Sb2, Gh2.
-/
import Derived.Test.YtjjdjdodhedihaaDoorJl30
import Derived.Test.YtjjdjdodhedihaaDoorJl10
import Derived.Test.YtjjdjdodhedihaaDoorJl26
import Derived.Test.YtjjdjdodhedihaaDoorJl28
import Derived.Test.YtjjdjdodhedihaaDoorJl31
import Derived.Test.YtjjdjdodhedihaaDoorJl14
namespace Go.Proofs.YtjjdjdodhedihaaDoor
open Go.RowKit
set_option linter.unusedVariables false

def KeepsErr (f : Nat) (w : World) (e : Ending) (w' : World) : Prop := e = .returned (.tuple #[.bool false, .iface 85 (.int .i64 (f : Int))]) ∧ Below w.heap.size w w'
def KeepsOk (S n : Nat) (T wt : List Int) (w : World) (e : Ending) (w' : World) : Prop := (∃ b : Bool, e = .returned (.tuple #[.bool b, .nilIface]) ∧ (b = true ↔ KeepsP S n T wt)) ∧ Below w.heap.size w w'
/-- What is wrong with weights. -/
def wtE (S : Nat) (wt : List Int) : Nat := if wt.length ≠ S then 3 else if wt.all (fun x => decide (-1000 ≤ x) && decide (x ≤ 1000)) then 0 else 1
theorem wtE_shape {S : Nat} {wt : List Int} (h : wt.length ≠ S) : wtE S wt = 3 := by unfold wtE; rw [if_pos h]
theorem wtE_ok {S : Nat} {wt : List Int} (h : wt.length = S) (hk : ∀ j, j < wt.length → -1000 ≤ wt.getD j 0 ∧ wt.getD j 0 ≤ 1000) : wtE S wt = 0 := by
  unfold wtE
  rw [if_neg (by simp [h]), if_pos]
  rw [List.all_eq_true]
  intro x hx
  obtain ⟨k, hk', rfl⟩ := List.getElem_of_mem hx
  have := hk k hk'
  simpa [List.getD, hk'] using this
theorem wtE_bad {S : Nat} {wt : List Int} (h : wt.length = S) {k : Nat} (hk : k < wt.length) (hb : wt.getD k 0 < -1000 ∨ 1000 < wt.getD k 0) : wtE S wt = 1 := by
  unfold wtE
  rw [if_neg (by simp [h]), if_neg]
  intro q
  rw [List.all_eq_true] at q
  have := q wt[k] (List.getElem_mem hk)
  simp [List.getD, hk] at this hb
  omega
theorem wtE_wts {S : Nat} {wt : List Int} (h : wtE S wt = 0) : wt.length = S ∧ Wts wt := by
  unfold wtE at h
  split at h
  · cases h
  · rename_i q
    split at h
    · rename_i r
      rw [List.all_eq_true] at r
      refine ⟨by simpa using q, fun i => ?_⟩
      by_cases hi : i < wt.length
      · have := r wt[i] (List.getElem_mem hi)
        simpa [List.getD, hi] using this
      · simp [List.getD, show wt[i]? = none by simp; omega]
    · cases h

set_option maxRecDepth 100000 in
set_option maxHeartbeats 6400000 in
theorem keepsT_off (o : Out) (ta : Option Addr) (tn tc : Nat) (v : Value) (w : World) (hR : ArgR w o ta tn tc) (h : ¬ (Good o ∧ o.kind = 2)) :
    Calls Tryd.prog 23 #[.agg #[.int .i64 o.kind, .int .i64 o.born, .int .i64 o.stay, .int .i64 o.states, .int .i64 o.radius, .slice ta tn tc, .string o.turns], v] w (KeepsErr 1 w) := by
  obtain ⟨w1, hw1⟩ : ∃ w1, w.alloc (.cells #[.int .i64 o.kind, .int .i64 o.born, .int .i64 o.stay, .int .i64 o.states, .int .i64 o.radius, .slice ta tn tc, .string o.turns] 24) = w1 := ⟨_, rfl⟩
  have BB := hide' (show Below w.heap.size w w1 by rw [← hw1]; exact (Below.refl _ _).alloc (Nat.le_refl _) _)
  have RX := hide' (show RBo w.heap.size o (.slice ta tn tc) w1 by rw [← hw1]; exact RBo.new w o _ _)
  have AT := hide' (show ArgR w1 o ta tn tc by rw [← hw1]; exact hR.alloc _)
  have HH := hide' h
  clear hR h
  obtain ⟨x0, x1, x2, x3, x4, x5, x6⟩ := RX.out
  go_enter Tryd.func23, Tryd.ntmps23
  go_wp2_with fail
  refine (lineCheck_off o ta tn tc (.slice none 0 0) _ AT.out HH.out).mono ?_
  rintro e w2 ⟨rfl, b⟩
  clear hw1 x0 x1 x2 x3 x4 x5 x6
  go_wp2
  refine bodyPost_ret (v := .tuple #[.bool false, .iface 85 (.int .i64 1)]) (by simp [results, Tryd.results23, go_sem]) rfl ?_
  exact ⟨rfl, BB.out.trans (b.mono BB.out.size)⟩

set_option maxRecDepth 100000 in
set_option maxHeartbeats 6400000 in
theorem keepsT_line (S R n : Nat) (T wt : List Int) (ta : Option Addr) (tn tc : Nat) (wa : Option Addr) (wc : Nat) (w : World) (hL : LineOk S R T) (hT : ArgP w T ta tn tc) (hA : ArgP w wt wa wt.length wc) (hn : S ^ (2 * R) = n) :
    Calls Tryd.prog 23 #[.agg #[.int .i64 2, .int .i64 0, .int .i64 0, .int .i64 (S : Int), .int .i64 (R : Int), .slice ta tn tc, .string ⟨#[]⟩], .slice wa wt.length wc] w fun e w' => (wtE S wt ≠ 0 ∧ KeepsErr (wtE S wt) w e w') ∨ (wtE S wt = 0 ∧ KeepsOk S n T wt w e w') := by
  obtain ⟨w1, hw1⟩ : ∃ w1, w.alloc (.cells #[.int .i64 2, .int .i64 0, .int .i64 0, .int .i64 (S : Int), .int .i64 (R : Int), .slice ta tn tc, .string ⟨#[]⟩] 24) = w1 := ⟨_, rfl⟩
  have BB := hide' (show Below w.heap.size w w1 by rw [← hw1]; exact (Below.refl _ _).alloc (Nat.le_refl _) _)
  have RX := hide' (show RB w.heap.size S R (.slice ta tn tc) w1 by rw [← hw1]; exact RB.new w S R _ _)
  have AT := hide' (hT.below BB.out)
  have AA := hide' (hA.below BB.out)
  have HL := hide' hL
  have s2 := hL.s2
  have s4 := hL.s4
  have hmx := hA.max
  unfold maxLen at hmx
  have W0 := hide' (show errOf (wordE S []) = .nilIface by rw [wordE_ok (by simp) (fun x hx => by simp at hx)]; rfl)
  obtain ⟨m, hm⟩ : ∃ m, wt.length = m := ⟨_, rfl⟩
  have HM := hide' hm
  have KA := hide' (fun (W : World) (h : ArgP W T ta tn tc) (h2 : ArgP W wt wa m wc) (hs : m = S) (hw : Wts wt) => keeps_any S R n T wt ta tn tc wa m wc W hL h h2 hs hw hn)
  have WS := hide' (show wt.length ≠ S → wtE S wt = 3 from wtE_shape)
  have WO := hide' (show wt.length = S → (∀ j, j < wt.length → -1000 ≤ wt.getD j 0 ∧ wt.getD j 0 ≤ 1000) → wtE S wt = 0 from wtE_ok)
  have WB := hide' (show wt.length = S → ∀ k, k < wt.length → (wt.getD k 0 < -1000 ∨ 1000 < wt.getD k 0) → wtE S wt = 1 from fun h k hk hb => wtE_bad h hk hb)
  have WW := hide' (show wtE S wt = 0 → Wts wt from fun h => (wtE_wts h).2)
  rw [hm] at AA hmx WS WO WB ⊢
  obtain ⟨f, hf⟩ : ∃ f, wtE S wt = f := ⟨_, rfl⟩
  rw [hf] at WS WO WB WW ⊢
  clear hT hA hL hn hm hf
  obtain ⟨x0, x1, x2, x3, x4, x5, x6⟩ := RX.out
  go_enter Tryd.func23, Tryd.ntmps23
  go_wp2_with fail
  refine (lineCheck_line S R T ta tn tc [] none 0 0 _ HL.out AT.out (argP_nil _)).mono ?_
  rw [W0.out]
  rintro e w2 ⟨rfl, b2⟩
  have B2 := hide' b2
  clear hw1 x0 x1 x2 x3 x4 x5 x6 b2
  obtain ⟨x0, x1, x2, x3, x4, x5, x6⟩ := RX.out.next B2.out
  by_cases d : m = S
  · have q : ((m : Int) != (S : Int)) = false := by simp [d]
    have HD := hide' d
    clear d
    go_wp2
    go_loop [22] (fun kv => ∃ k : Nat, kv = .int .i64 (k : Int) ∧ k ≤ m ∧ Hid (∀ j, j < k → -1000 ≤ wt.getD j 0 ∧ wt.getD j 0 ≤ 1000)) (fun kv => m - (intOf kv).toNat)
    case atStart => exact ⟨0, rfl, by omega, fun j hj => by omega⟩
    case round =>
      obtain ⟨k, rfl, hk, HK⟩ := hrel
      by_cases dk : (k : Int) < (m : Int)
      · obtain ⟨g, off, rfl, hc⟩ := (AA.out.below B2.out).at (k := k) (by omega)
        obtain ⟨x, hx⟩ : ∃ x, wt.getD k 0 = x := ⟨_, rfl⟩
        rw [hx] at hc
        have HX := hide' hx
        clear hx
        by_cases d1 : x < -1000
        · have F1 := hide' (WB.out HD.out k (by omega) (by rw [HX.out]; exact Or.inl d1))
          go_wp2
          refine bodyPost_ret (v := .tuple #[.bool false, .iface 85 (.int .i64 1)]) (by simp [results, Tryd.results23, go_sem]) rfl ?_
          exact Or.inl ⟨by rw [F1.out]; omega, by rw [F1.out]; exact ⟨rfl, BB.out.trans (B2.out.mono BB.out.size)⟩⟩
        · skip
          by_cases d2 : 1000 < x
          · have F1 := hide' (WB.out HD.out k (by omega) (by rw [HX.out]; exact Or.inr d2))
            go_wp2
            refine bodyPost_ret (v := .tuple #[.bool false, .iface 85 (.int .i64 1)]) (by simp [results, Tryd.results23, go_sem]) rfl ?_
            exact Or.inl ⟨by rw [F1.out]; omega, by rw [F1.out]; exact ⟨rfl, BB.out.trans (B2.out.mono BB.out.size)⟩⟩
          · go_wp2
            refine ⟨⟨k + 1, by go_num, by omega, fun j hj => ?_⟩, by simp [intOf]; omega⟩
            by_cases ej : j = k
            · subst ej; rw [HX.out]; omega
            · exact HK.out j (by omega)
      · have F1 := hide' (WO.out HD.out (fun j hj => HK.out j (by omega)))
        have KK := hide' (KA.out w2 (AT.out.below B2.out) (AA.out.below B2.out) HD.out (WW.out F1.out))
        go_wp2_with fail
        refine (show Calls Tryd.prog _ _ _ _ from KK.out).mono ?_
        unfold KeepsPost
        rintro e w3 ⟨⟨b, rfl, hb⟩, b3⟩
        have HB := hide' hb
        have B3 := hide' (B2.out.trans (b3.mono B2.out.size))
        clear hb b3 x0 x1 x2 x3 x4 x5 x6
        go_wp2
        refine bodyPost_ret (v := .tuple #[.bool b, .nilIface]) (by simp [results, Tryd.results23, go_sem]) rfl ?_
        exact Or.inr ⟨F1.out, ⟨b, rfl, HB.out⟩, BB.out.trans (B3.out.mono BB.out.size)⟩
  · have q : ((m : Int) != (S : Int)) = true := by simp; omega
    have F1 := hide' (WS.out d)
    clear d
    go_wp2
    refine bodyPost_ret (v := .tuple #[.bool false, .iface 85 (.int .i64 3)]) (by simp [results, Tryd.results23, go_sem]) rfl ?_
    exact Or.inl ⟨by rw [F1.out]; omega, by rw [F1.out]; exact ⟨rfl, BB.out.trans (B2.out.mono BB.out.size)⟩⟩
end Go.Proofs.YtjjdjdodhedihaaDoor

namespace Go.Proofs.YtjjdjdodhedihaaDoor
open Go.RowKit
set_option linter.unusedVariables false

set_option maxRecDepth 100000 in
set_option maxHeartbeats 12800000 in
theorem law_slin_off (o : Out) (ta : Option Addr) (tn tc : Nat) (v : Value) (k : Int) (wt : List Int) (ua : Option Addr) (uc : Nat) (w : World) (hR : ArgR w o ta tn tc) (h : ¬ (Good o ∧ o.kind = 2)) (hg : Handle w) :
    Calls Tryd.prog 4 #[.agg #[.int .i64 o.kind, .int .i64 o.born, .int .i64 o.stay, .int .i64 o.states, .int .i64 o.radius, .slice ta tn tc, .string o.turns], v, .int .i64 k, .slice ua wt.length uc] w fun e w' => e = .returned (.bool true) ∧ Below w.heap.size w w' := by
  obtain ⟨w1, hw1⟩ : ∃ w1, w.alloc (.cells #[.int .i64 o.kind, .int .i64 o.born, .int .i64 o.stay, .int .i64 o.states, .int .i64 o.radius, .slice ta tn tc, .string o.turns] 24) = w1 := ⟨_, rfl⟩
  have BB := hide' (show Below w.heap.size w w1 by rw [← hw1]; exact (Below.refl _ _).alloc (Nat.le_refl _) _)
  have RX := hide' (show RBo w.heap.size o (.slice ta tn tc) w1 by rw [← hw1]; exact RBo.new w o _ _)
  have AT := hide' (show ArgR w1 o ta tn tc by rw [← hw1]; exact hR.alloc _)
  have HG := hide' (hg.below BB.out)
  have FA := hide' (fun (v : Value) (W : World) (h' : ArgR W o ta tn tc) => lineFault_off o ta tn tc v W h' h)
  have LI := hide' (fun (W : World) (h' : ArgR W o ta tn tc) => linear_off o ta tn tc W h' h)
  have JU := hide' (fun (v : Value) (W : World) (h' : ArgR W o ta tn tc) => jump_off o ta tn tc v k W h' h)
  have KE := hide' (fun (v : Value) (W : World) (h' : ArgR W o ta tn tc) => keepsT_off o ta tn tc v W h' h)
  clear hR h hg
  have C0 := hide' (Below.refl w1.heap.size w1)
  obtain ⟨x0, x1, x2, x3, x4, x5, x6⟩ := RX.out
  go_enter Tryd.func4, Tryd.ntmps4
  go_wp2_with fail
  refine (FA.out _ _ (AT.out.below C0.out)).mono ?_
  rintro e w2 ⟨rfl, b⟩
  clear hw1
  have C1 := hide' (C0.out.trans (b.mono C0.out.size))
  clear b x0 x1 x2 x3 x4 x5 x6 C0
  obtain ⟨x0, x1, x2, x3, x4, x5, x6⟩ := RX.out.next C1.out
  go_wp2_with fail
  refine (LI.out _ (AT.out.below C1.out)).mono ?_
  unfold ListErr
  rintro e w3 ⟨rfl, b⟩
  have C2 := hide' (C1.out.trans (b.mono C1.out.size))
  clear b x0 x1 x2 x3 x4 x5 x6 C1
  obtain ⟨x0, x1, x2, x3, x4, x5, x6⟩ := RX.out.next C2.out
  go_wp2_with fail
  refine (err_some_true 1 _ (HG.out.below C2.out)).mono ?_
  rintro e w4 ⟨rfl, b⟩
  have C3 := hide' (C2.out.trans (b.mono C2.out.size))
  clear b x0 x1 x2 x3 x4 x5 x6 C2
  obtain ⟨x0, x1, x2, x3, x4, x5, x6⟩ := RX.out.next C3.out
  go_wp2_with fail
  refine (Ints_both [] none none 0 0 0 0 _ (argP_nil' _) (argP_nil' _)).mono ?_
  rintro e w5 ⟨rfl, b⟩
  have C4 := hide' (C3.out.trans (b.mono C3.out.size))
  clear b x0 x1 x2 x3 x4 x5 x6 C3
  obtain ⟨x0, x1, x2, x3, x4, x5, x6⟩ := RX.out.next C4.out
  go_wp2_with fail
  refine (FA.out _ _ (AT.out.below C4.out)).mono ?_
  rintro e w6 ⟨rfl, b⟩
  have C5 := hide' (C4.out.trans (b.mono C4.out.size))
  clear b x0 x1 x2 x3 x4 x5 x6 C4
  obtain ⟨x0, x1, x2, x3, x4, x5, x6⟩ := RX.out.next C5.out
  go_wp2_with fail
  refine (JU.out _ _ (AT.out.below C5.out)).mono ?_
  unfold ListErr
  rintro e w7 ⟨rfl, b⟩
  have C6 := hide' (C5.out.trans (b.mono C5.out.size))
  clear b x0 x1 x2 x3 x4 x5 x6 C5
  obtain ⟨x0, x1, x2, x3, x4, x5, x6⟩ := RX.out.next C6.out
  go_wp2_with fail
  refine (err_some_true 1 _ (HG.out.below C6.out)).mono ?_
  rintro e w8 ⟨rfl, b⟩
  have C7 := hide' (C6.out.trans (b.mono C6.out.size))
  clear b x0 x1 x2 x3 x4 x5 x6 C6
  obtain ⟨x0, x1, x2, x3, x4, x5, x6⟩ := RX.out.next C7.out
  go_wp2_with fail
  refine (Ints_both [] none none 0 0 0 0 _ (argP_nil' _) (argP_nil' _)).mono ?_
  rintro e w9 ⟨rfl, b⟩
  have C8 := hide' (C7.out.trans (b.mono C7.out.size))
  clear b x0 x1 x2 x3 x4 x5 x6 C7
  obtain ⟨x0, x1, x2, x3, x4, x5, x6⟩ := RX.out.next C8.out
  obtain ⟨L, hLw⟩ : ∃ L, wt.length = L := ⟨_, rfl⟩
  go_wp2
  go_loopw [9, 19] (fun ev iv wr => ev = .int .i64 1 ∧ iv = .int .i64 0 ∧ wr = w9) (fun _ _ _ => 0)
  case atStart => exact ⟨rfl, rfl, rfl⟩
  case round =>
    obtain ⟨rfl, rfl, rfl⟩ := hrel
    by_cases dl : (0 : Int) < (wt.length : Int)
    · go_wp2_with fail
      refine (KE.out _ _ (AT.out.below C8.out)).mono ?_
      unfold KeepsErr
      rintro e w10 ⟨rfl, b⟩
      have C9 := hide' (C8.out.trans (b.mono C8.out.size))
      clear b x0 x1 x2 x3 x4 x5 x6 C8
      obtain ⟨x0, x1, x2, x3, x4, x5, x6⟩ := RX.out.next C9.out
      go_wp2_with fail
      refine (err_some_true 1 _ (HG.out.below C9.out)).mono ?_
      rintro e w11 ⟨rfl, b⟩
      have C10 := hide' (C9.out.trans (b.mono C9.out.size))
      clear b x0 x1 x2 x3 x4 x5 x6 C9
      obtain ⟨x0, x1, x2, x3, x4, x5, x6⟩ := RX.out.next C10.out
      go_wp2
      go_ret
      exact ⟨rfl, BB.out.trans (C10.out.mono BB.out.size)⟩
    · go_wp2_with fail
      refine (KE.out _ _ (AT.out.below C8.out)).mono ?_
      unfold KeepsErr
      rintro e w10 ⟨rfl, b⟩
      have C9 := hide' (C8.out.trans (b.mono C8.out.size))
      clear b x0 x1 x2 x3 x4 x5 x6 C8
      obtain ⟨x0, x1, x2, x3, x4, x5, x6⟩ := RX.out.next C9.out
      go_wp2_with fail
      refine (err_some_true 1 _ (HG.out.below C9.out)).mono ?_
      rintro e w11 ⟨rfl, b⟩
      have C10 := hide' (C9.out.trans (b.mono C9.out.size))
      clear b x0 x1 x2 x3 x4 x5 x6 C9
      obtain ⟨x0, x1, x2, x3, x4, x5, x6⟩ := RX.out.next C10.out
      go_wp2
      go_ret
      exact ⟨rfl, BB.out.trans (C10.out.mono BB.out.size)⟩
end Go.Proofs.YtjjdjdodhedihaaDoor

