/-
  What the last text of this claim leans on, part 8: Ob1, Ob2, Ob3, Ob4.
-/
import Derived.Test.YtjjdjdodhedihaaDoorJs1
import Derived.Test.YtjjdjdodhedihaaDoorJs7
import Derived.Deep.RegionHeld3
namespace Go.Proofs.YtjjdjdodhedihaaDoor
open Go.RowKit
set_option linter.unusedVariables false

set_option maxRecDepth 100000 in
set_option maxHeartbeats 1600000 in
theorem placesOf_any (S R : Nat) (ta : Option Addr) (tn tc n : Nat) (w : World) (hS : 2 ≤ S) (hS4 : S ≤ 4) (hn : tn / S = n) (ht : tn ≤ 4096) :
    Calls Tryd.prog 73 #[.agg #[.int .i64 2, .int .i64 0, .int .i64 0, .int .i64 (S : Int), .int .i64 (R : Int), .slice ta tn tc, .string ⟨#[]⟩]] w fun e w' => e = .returned (.int .i64 (n : Int)) ∧ Below w.heap.size w w' := by
  obtain ⟨w1, hw1⟩ : ∃ w1, w.alloc (.cells #[.int .i64 2, .int .i64 0, .int .i64 0, .int .i64 (S : Int), .int .i64 (R : Int), .slice ta tn tc, .string ⟨#[]⟩] 24) = w1 := ⟨_, rfl⟩
  have BB := hide' (show Below w.heap.size w w1 by rw [← hw1]; exact (Below.refl _ _).alloc (Nat.le_refl _) _)
  have RX := hide' (show RB w.heap.size S R (.slice ta tn tc) w1 by rw [← hw1]; exact RB.new w S R _ _)
  have q1 : (tn : Int).tdiv (S : Int) = (n : Int) := by rw [Int.tdiv_eq_ediv_of_nonneg (by omega), ← hn]; simp
  have q0 : ¬ (S : Int) = 0 := by omega
  have n1 : n ≤ 4096 := by rw [← hn]; exact Nat.le_trans (Nat.div_le_self _ _) ht
  clear hn
  obtain ⟨x0, x1, x2, x3, x4, x5, x6⟩ := RX.out
  go_enter Tryd.func73, Tryd.ntmps73
  go_wp2
  go_ret
  exact ⟨rfl, BB.out⟩

theorem places_of {S R : Nat} {T : List Int} {tn : Nat} (hL : LineOk S R T) (ht : tn = T.length) : tn / S = S ^ (2 * R) := by
  rw [ht]; exact places_div hL.s2 hL.len

/-- What is wrong with a rule that is looked at by pairs, or with a word. -/
def askE (S R : Nat) (ws : List Int) : Nat := if wordE S ws ≠ 0 then wordE S ws else if 16 < S ^ (2 * R) then 4 else 0
theorem askE_word {S R : Nat} {ws : List Int} (h : wordE S ws ≠ 0) : askE S R ws = wordE S ws := if_pos h
theorem askE_far {S R : Nat} {ws : List Int} (h : wordE S ws = 0) (h2 : 16 < S ^ (2 * R)) : askE S R ws = 4 := by unfold askE; rw [if_neg (by simpa using h), if_pos h2]
theorem askE_ok {S R : Nat} {ws : List Int} (h : wordE S ws = 0) (h2 : ¬ 16 < S ^ (2 * R)) : askE S R ws = 0 := by unfold askE; rw [if_neg (by simpa using h), if_neg h2]
theorem askE_zero {S R : Nat} {ws : List Int} (h : askE S R ws = 0) : wordE S ws = 0 ∧ S ^ (2 * R) ≤ 16 := by
  unfold askE at h
  split at h
  · contradiction
  · split at h
    · omega
    · exact ⟨by simpa using ‹¬ wordE S ws ≠ 0›, by omega⟩

set_option maxRecDepth 100000 in
set_option maxHeartbeats 1600000 in
theorem ontoCheck_line (S R : Nat) (T : List Int) (ta : Option Addr) (tn tc : Nat) (ws : List Int) (wa : Option Addr) (wn wc : Nat) (w : World) (hL : LineOk S R T) (hT : ArgP w T ta tn tc) (hW : ArgP w ws wa wn wc) :
    Calls Tryd.prog 40 #[.agg #[.int .i64 2, .int .i64 0, .int .i64 0, .int .i64 (S : Int), .int .i64 (R : Int), .slice ta tn tc, .string ⟨#[]⟩], .slice wa wn wc] w fun e w' => e = .returned (errOf (askE S R ws)) ∧ Below w.heap.size w w' := by
  obtain ⟨w1, hw1⟩ : ∃ w1, w.alloc (.cells #[.int .i64 2, .int .i64 0, .int .i64 0, .int .i64 (S : Int), .int .i64 (R : Int), .slice ta tn tc, .string ⟨#[]⟩] 24) = w1 := ⟨_, rfl⟩
  have BB := hide' (show Below w.heap.size w w1 by rw [← hw1]; exact (Below.refl _ _).alloc (Nat.le_refl _) _)
  have RX := hide' (show RB w.heap.size S R (.slice ta tn tc) w1 by rw [← hw1]; exact RB.new w S R _ _)
  have AT := hide' (hT.below BB.out)
  have AW := hide' (hW.below BB.out)
  have HL := hide' hL
  obtain ⟨n, hn⟩ : ∃ n, tn / S = n := ⟨_, rfl⟩
  have HN := hide' hn
  have PN := hide' (show S ^ (2 * R) = n by rw [← hn]; exact (places_of hL hT.len).symm)
  have t4 : tn ≤ 4096 := by rw [hT.len]; exact hL.max
  have HP := hide' (fun (wr : World) => placesOf_any S R ta tn tc n wr hL.s2 hL.s4 hn t4)
  clear hn
  rcases Nat.eq_zero_or_pos (wordE S ws) with he | he
  · have HE := hide' he
    clear hT hW hL he
    obtain ⟨x0, x1, x2, x3, x4, x5, x6⟩ := RX.out
    go_enter Tryd.func40, Tryd.ntmps40
    go_wp2_with fail
    refine (lineCheck_line S R T ta tn tc ws wa wn wc _ HL.out AT.out AW.out).mono ?_
    rw [HE.out, show errOf 0 = .nilIface from rfl]
    rintro e w2 ⟨rfl, b2⟩
    have C2 := hide' b2
    have B2 := hide' (BB.out.trans (b2.mono BB.out.size))
    clear x0 x1 x2 x3 x4 x5 x6 b2 hw1
    obtain ⟨x0, x1, x2, x3, x4, x5, x6⟩ := RX.out.next C2.out
    go_wp2_with fail
    refine (HP.out _).mono ?_
    rintro e w3 ⟨rfl, b3⟩
    have B3 := hide' (B2.out.trans (b3.mono B2.out.size))
    clear x0 x1 x2 x3 x4 x5 x6 b3
    by_cases d : (16 : Int) < (n : Int)
    · have Q := hide' (askE_far (R := R) HE.out (by rw [PN.out]; omega))
      go_wp2
      go_ret
      exact ⟨by rw [Q.out]; rfl, B3.out⟩
    · have Q := hide' (askE_ok (R := R) HE.out (by rw [PN.out]; omega))
      go_wp2
      go_ret
      exact ⟨by rw [Q.out]; rfl, B3.out⟩
  · have Q := hide' (askE_word (R := R) (show wordE S ws ≠ 0 by omega))
    obtain ⟨f, hf⟩ : ∃ f, wordE S ws = f := ⟨_, rfl⟩
    have HF := hide' hf
    have ER := hide' (show errOf (wordE S ws) = .iface 85 (.int .i64 (f : Int)) by rw [hf]; exact errOf_ne (by omega))
    have ER' := hide' (show errOf (askE S R ws) = .iface 85 (.int .i64 (f : Int)) by rw [Q.out]; exact ER.out)
    rw [ER'.out]
    clear hf hT hW hL he Q
    obtain ⟨x0, x1, x2, x3, x4, x5, x6⟩ := RX.out
    go_enter Tryd.func40, Tryd.ntmps40
    go_wp2_with fail
    refine (lineCheck_line S R T ta tn tc ws wa wn wc _ HL.out AT.out AW.out).mono ?_
    rw [ER.out]
    rintro e w2 ⟨rfl, b2⟩
    have B2 := hide' (BB.out.trans (b2.mono BB.out.size))
    clear x0 x1 x2 x3 x4 x5 x6 b2 hw1
    go_wp2
    go_ret
    exact ⟨rfl, B2.out⟩

/-- A graph in a box of its own. -/
structure GB (p S R n : Nat) (v : Value) (w : World) : Prop where
  c0 : w.cell? ⟨p, 0, none⟩ = some (.int .i64 (S : Int))
  c1 : w.cell? ⟨p, 1, none⟩ = some (.int .i64 (2 * (R : Int)))
  c2 : w.cell? ⟨p, 2, none⟩ = some (.int .i64 (n : Int))
  c3 : w.cell? ⟨p, 3, none⟩ = some v
theorem GB.lt {p S R n : Nat} {v : Value} {w : World} (h : GB p S R n v w) : p < w.heap.size := by
  have h0 := h.c0
  unfold World.cell? at h0
  by_cases hp : p < w.heap.size
  · exact hp
  · simp only [Array.getElem?_eq_none (Nat.le_of_not_lt hp)] at h0
    cases h0
theorem GB.block {p S R n : Nat} {v : Value} {w w' : World} (h : GB p S R n v w) (e : w'.heap[p]? = w.heap[p]?) : GB p S R n v w' :=
  ⟨(World.cell?_of_block (w := w) (a := ⟨p, 0, none⟩) e).trans h.c0, (World.cell?_of_block (w := w) (a := ⟨p, 1, none⟩) e).trans h.c1, (World.cell?_of_block (w := w) (a := ⟨p, 2, none⟩) e).trans h.c2, (World.cell?_of_block (w := w) (a := ⟨p, 3, none⟩) e).trans h.c3⟩
theorem GB.next {p S R n : Nat} {v : Value} {w w' : World} (h : GB p S R n v w) (hb : Below w.heap.size w w') : GB p S R n v w' := h.block (hb.block p h.lt)
theorem GB.new (w : World) (S R n : Nat) (v : Value) (t : TypeId) : GB w.heap.size S R n v (w.alloc (.cells #[.int .i64 (S : Int), .int .i64 (2 * (R : Int)), .int .i64 (n : Int), v] t)) :=
  ⟨by rw [World.cell?_alloc_at _ _ _ _ rfl]; rfl, by rw [World.cell?_alloc_at _ _ _ _ rfl]; rfl, by rw [World.cell?_alloc_at _ _ _ _ rfl]; rfl, by rw [World.cell?_alloc_at _ _ _ _ rfl]; rfl⟩

set_option maxRecDepth 100000 in
set_option maxHeartbeats 1600000 in
theorem on_any (S R n : Nat) (T : List Int) (ta : Option Addr) (tn tc p c : Nat) (w : World) (hT : ArgP w T ta tn tc) (hn : 0 < n) (hw : p * S + c < tn) (ht : tn ≤ 4096) (hS4 : S ≤ 4) (hp : p ≤ 4096) (hc : c ≤ 4096) :
    Calls Tryd.prog 84 #[.agg #[.int .i64 (S : Int), .int .i64 (2 * (R : Int)), .int .i64 (n : Int), .slice ta tn tc], .int .i64 (p : Int), .int .i64 (c : Int)] w fun e w' => e = .returned (.tuple #[.int .i64 (((p * S + c) % n : Nat) : Int), .int .i64 (T.getD (p * S + c) 0)]) ∧ Below w.heap.size w w' := by
  obtain ⟨w1, hw1⟩ : ∃ w1, w.alloc (.cells #[.int .i64 (S : Int), .int .i64 (2 * (R : Int)), .int .i64 (n : Int), .slice ta tn tc] 79) = w1 := ⟨_, rfl⟩
  have BB := hide' (show Below w.heap.size w w1 by rw [← hw1]; exact (Below.refl _ _).alloc (Nat.le_refl _) _)
  have GX := hide' (show GB w.heap.size S R n (.slice ta tn tc) w1 by rw [← hw1]; exact GB.new w S R n _ _)
  have AT := hide' (hT.below BB.out)
  obtain ⟨j, hj⟩ : ∃ j, p * S + c = j := ⟨_, rfl⟩
  have q1 : (p : Int) * (S : Int) + (c : Int) = (j : Int) := by rw [← hj]; simp
  obtain ⟨k, hk⟩ : ∃ k, p * S = k := ⟨_, rfl⟩
  have q2 : (p : Int) * (S : Int) = (k : Int) := by rw [← hk]; simp
  have k4 : k ≤ 4096 := by omega
  have q3 : (k : Int) + (c : Int) = (j : Int) := by omega
  rw [hj] at hw ⊢
  obtain ⟨m, hm⟩ : ∃ m, j % n = m := ⟨_, rfl⟩
  have q4 : (j : Int).tmod (n : Int) = (m : Int) := by rw [Int.tmod_eq_emod_of_nonneg (by omega), ← hm]; simp
  have q5 : ¬ (n : Int) = 0 := by omega
  rw [hm]
  obtain ⟨g, off, rfl, hc'⟩ := AT.out.at hw
  obtain ⟨x, hx⟩ : ∃ x, T.getD j 0 = x := ⟨_, rfl⟩
  rw [hx] at hc' ⊢
  clear hj hk hm hx hT
  obtain ⟨y0, y1, y2, y3⟩ := GX.out
  go_enter Tryd.func84, Tryd.ntmps84
  go_wp2
  go_region
  go_wp2
  go_ret2
  exact ⟨rfl, by first | exact BB.out | (rw [hw1]; exact BB.out) | exact BB.out.drew⟩
end Go.Proofs.YtjjdjdodhedihaaDoor

namespace Go.Proofs.YtjjdjdodhedihaaDoor
open Go.RowKit
set_option linter.unusedVariables false

/-- The graph's box and a list of the call's own. -/
structure PS (w wr : World) (S R n : Nat) (v : Value) (g : Nat) (xs : List Int) : Prop where
  gb : GB w.heap.size S R n v wr
  bl : Below w.heap.size w wr
  cl : Cel wr g xs
  lt : w.heap.size < g
theorem PS.below {w wr w' : World} {S R n g : Nat} {v : Value} {xs : List Int} (h : PS w wr S R n v g xs) (hb : Below wr.heap.size wr w') : PS w w' S R n v g xs :=
  ⟨h.gb.next hb, h.bl.trans (hb.mono h.bl.size), h.cl.below hb, h.lt⟩
theorem heap_setCell_other (w : World) (g i k : Nat) (v : Value) (h : k ≠ g) : (w.setCell ⟨g, i, none⟩ v).heap[k]? = w.heap[k]? := RowKit.Below.heap_setCell _ _ _ _ h
theorem PS.set {w wr : World} {S R n g : Nat} {v : Value} {xs : List Int} (h : PS w wr S R n v g xs) (i : Nat) (x : Int) (hi : i < xs.length) : PS w (wr.setCell ⟨g, i, none⟩ (.int .i64 x)) S R n v g (xs.set i x) :=
  ⟨h.gb.block (heap_setCell_other _ _ _ _ _ (by have := h.lt; omega)), h.bl.setCell (Nat.le_of_lt h.lt) _, h.cl.set i x hi, h.lt⟩
theorem PS.setOther {w wr : World} {S R n g f : Nat} {v : Value} {xs : List Int} (h : PS w wr S R n v g xs) (hf : w.heap.size < f) (hne : g ≠ f) (i : Nat) (u : Value) : PS w (wr.setCell ⟨f, i, none⟩ u) S R n v g xs :=
  ⟨h.gb.block (heap_setCell_other _ _ _ _ _ (by omega)), h.bl.setCell (Nat.le_of_lt hf) _, h.cl.block (by simp) (heap_setCell_other _ _ _ _ _ hne), h.lt⟩
theorem PS.drew {w wr : World} {S R n g : Nat} {v : Value} {xs : List Int} (h : PS w wr S R n v g xs) : PS w wr.drew S R n v g xs :=
  ⟨⟨h.gb.c0, h.gb.c1, h.gb.c2, h.gb.c3⟩, h.bl.drew, ⟨h.cl.lt, h.cl.cells, h.cl.fz⟩, h.lt⟩
theorem PS.at {w wr : World} {S R n g : Nat} {v : Value} {xs : List Int} (h : PS w wr S R n v g xs) {i : Nat} (hi : i < xs.length) : wr.cell? ⟨g, i, none⟩ = some (.int .i64 (xs.getD i 0)) := h.cl.cells i hi
theorem PS.new {w wr : World} {S R n g : Nat} {v : Value} {xs : List Int} (h : PS w wr S R n v g xs) (N : Nat) (t : TypeId) : PS w (wr.alloc (.cells (madeCells #[.int .i64 0] N) t)) S R n v wr.heap.size (List.replicate N 0) :=
  ⟨h.gb.block (Below.heap_alloc _ _ _ h.gb.lt), h.bl.alloc h.bl.size _, Cel.made wr N t, Nat.lt_of_lt_of_le h.gb.lt (Nat.le_refl _)⟩
theorem PS.start (w : World) (S R n : Nat) (v : Value) (t t' : TypeId) : PS w ((w.alloc (.cells #[.int .i64 (S : Int), .int .i64 (2 * (R : Int)), .int .i64 (n : Int), v] t)).alloc (.cells (madeCells #[.int .i64 0] n) t')) S R n v (w.heap.size + 1) (List.replicate n 0) := by
  have b := GB.new w S R n v t
  have c := Cel.made (w.alloc (.cells #[.int .i64 (S : Int), .int .i64 (2 * (R : Int)), .int .i64 (n : Int), v] t)) n t'
  rw [World.size_alloc] at c
  exact ⟨b.block (Below.heap_alloc _ _ _ b.lt), ((Below.refl _ _).alloc (Nat.le_refl _) _).alloc (by simp) _, c, by omega⟩

end Go.Proofs.YtjjdjdodhedihaaDoor

namespace Go.Proofs.YtjjdjdodhedihaaDoor
open Go.RowKit
set_option linter.unusedVariables false

/-- The rule's box and a list of the call's own. -/
structure QS (w wr : World) (S R : Nat) (v : Value) (g : Nat) (xs : List Int) : Prop where
  rb : RB w.heap.size S R v wr
  bl : Below w.heap.size w wr
  cl : Cel wr g xs
  lt : w.heap.size < g
theorem QS.below {w wr w' : World} {S R g : Nat} {v : Value} {xs : List Int} (h : QS w wr S R v g xs) (hb : Below wr.heap.size wr w') : QS w w' S R v g xs :=
  ⟨h.rb.next hb, h.bl.trans (hb.mono h.bl.size), h.cl.below hb, h.lt⟩
theorem QS.set {w wr : World} {S R g : Nat} {v : Value} {xs : List Int} (h : QS w wr S R v g xs) (i : Nat) (x : Int) (hi : i < xs.length) : QS w (wr.setCell ⟨g, i, none⟩ (.int .i64 x)) S R v g (xs.set i x) :=
  ⟨h.rb.block (heap_setCell_other _ _ _ _ _ (by have := h.lt; omega)), h.bl.setCell (Nat.le_of_lt h.lt) _, h.cl.set i x hi, h.lt⟩
theorem QS.setOther {w wr : World} {S R g f : Nat} {v : Value} {xs : List Int} (h : QS w wr S R v g xs) (hf : w.heap.size < f) (hne : g ≠ f) (i : Nat) (u : Value) : QS w (wr.setCell ⟨f, i, none⟩ u) S R v g xs :=
  ⟨h.rb.block (heap_setCell_other _ _ _ _ _ (by omega)), h.bl.setCell (Nat.le_of_lt hf) _, h.cl.block (by simp) (heap_setCell_other _ _ _ _ _ hne), h.lt⟩
theorem QS.drew {w wr : World} {S R g : Nat} {v : Value} {xs : List Int} (h : QS w wr S R v g xs) : QS w wr.drew S R v g xs :=
  ⟨h.rb.block rfl, h.bl.drew, ⟨h.cl.lt, h.cl.cells, h.cl.fz⟩, h.lt⟩
theorem QS.new {w wr : World} {S R g : Nat} {v : Value} {xs : List Int} (h : QS w wr S R v g xs) (N : Nat) (t : TypeId) : QS w (wr.alloc (.cells (madeCells #[.int .i64 0] N) t)) S R v wr.heap.size (List.replicate N 0) :=
  ⟨h.rb.alloc _, h.bl.alloc h.bl.size _, Cel.made wr N t, Nat.lt_of_lt_of_le h.rb.lt (Nat.le_refl _)⟩

end Go.Proofs.YtjjdjdodhedihaaDoor

namespace Go.Proofs.YtjjdjdodhedihaaDoor
open Go.RowKit
set_option linter.unusedVariables false

def SMg (w : World) (S R : Nat) (ta : Option Addr) (tn tc : Nat) (w' : World) : Prop := w'.cell? ⟨w.heap.size, 0, none⟩ = some (.int .i64 2) ∧ w'.cell? ⟨w.heap.size, 1, none⟩ = some (.int .i64 0) ∧ w'.cell? ⟨w.heap.size, 2, none⟩ = some (.int .i64 0) ∧ w'.cell? ⟨w.heap.size, 3, none⟩ = some (.int .i64 (S : Int)) ∧ w'.cell? ⟨w.heap.size, 4, none⟩ = some (.int .i64 (R : Int)) ∧ w'.cell? ⟨w.heap.size, 5, none⟩ = some (.slice ta tn tc) ∧ w'.cell? ⟨w.heap.size, 6, none⟩ = some (.string ⟨#[]⟩)
theorem SMg.of {w w' : World} {S R : Nat} {ta : Option Addr} {tn tc : Nat} (h : RB w.heap.size S R (.slice ta tn tc) w') : SMg w S R ta tn tc w' := by
  obtain ⟨x0, x1, x2, x3, x4, x5, x6⟩ := h
  exact ⟨x0, x1, x2, x3, x4, x5, x6⟩

theorem SMg.stored {w w2 : World} {S R : Nat} {ta : Option Addr} {tn tc : Nat} (h : RB w.heap.size S R (.slice ta tn tc) w2) (a b c d : Value) :
    SMg w S R ta tn tc ((((w2.setCell ⟨w.heap.size + 1, 0, none⟩ a).setCell ⟨w.heap.size + 1, 1, none⟩ b).setCell ⟨w.heap.size + 1, 2, none⟩ c).setCell ⟨w.heap.size + 1, 3, none⟩ d) :=
  SMg.of (h.block (by rw [heap_setCell_other _ _ _ _ _ (by omega), heap_setCell_other _ _ _ _ _ (by omega), heap_setCell_other _ _ _ _ _ (by omega), heap_setCell_other _ _ _ _ _ (by omega)]))

theorem stored4 {w2 : World} {p : Nat} {z0 z1 z2 z3 : Value} (h0 : w2.cell? ⟨p, 0, none⟩ = some z0) (h1 : w2.cell? ⟨p, 1, none⟩ = some z1) (h2 : w2.cell? ⟨p, 2, none⟩ = some z2) (h3 : w2.cell? ⟨p, 3, none⟩ = some z3) (a b c d : Value) {W : World}
    (e : W = ((((w2.setCell ⟨p, 0, none⟩ a).setCell ⟨p, 1, none⟩ b).setCell ⟨p, 2, none⟩ c).setCell ⟨p, 3, none⟩ d)) :
    W.cell? ⟨p, 0, none⟩ = some a ∧ W.cell? ⟨p, 1, none⟩ = some b ∧ W.cell? ⟨p, 2, none⟩ = some c ∧ W.cell? ⟨p, 3, none⟩ = some d := by
  subst e
  have o : ∀ (W : World) (i j : Nat) (u : Value), i ≠ j → (W.setCell ⟨p, i, none⟩ u).cell? ⟨p, j, none⟩ = W.cell? ⟨p, j, none⟩ := fun W i j u h => World.cell?_setCell_other _ ⟨p, i, none⟩ ⟨p, j, none⟩ _ (fun q => h (congrArg Addr.off q))
  refine ⟨?_, ?_, ?_, ?_⟩
  · rw [o _ 3 0 _ (by decide), o _ 2 0 _ (by decide), o _ 1 0 _ (by decide)]; exact World.cell?_setCell_same _ _ _ h0
  · rw [o _ 3 1 _ (by decide), o _ 2 1 _ (by decide)]; exact World.cell?_setCell_same _ _ _ (by rw [o _ 0 1 _ (by decide)]; exact h1)
  · rw [o _ 3 2 _ (by decide)]; exact World.cell?_setCell_same _ _ _ (by rw [o _ 1 2 _ (by decide), o _ 0 2 _ (by decide)]; exact h2)
  · exact World.cell?_setCell_same _ _ _ (by rw [o _ 2 3 _ (by decide), o _ 1 3 _ (by decide), o _ 0 3 _ (by decide)]; exact h3)
theorem below4 {w w2 : World} {p : Nat} (h : Below w.heap.size w w2) (hp : w.heap.size ≤ p) (a b c d : Value) : Below w.heap.size w ((((w2.setCell ⟨p, 0, none⟩ a).setCell ⟨p, 1, none⟩ b).setCell ⟨p, 2, none⟩ c).setCell ⟨p, 3, none⟩ d) :=
  (((h.setCell (p := ⟨p, 0, none⟩) hp _).setCell (p := ⟨p, 1, none⟩) hp _).setCell (p := ⟨p, 2, none⟩) hp _).setCell (p := ⟨p, 3, none⟩) hp _

set_option maxRecDepth 100000 in
set_option maxHeartbeats 3200000 in
theorem graphOf_any (S R : Nat) (T : List Int) (ta : Option Addr) (tn tc n : Nat) (w : World) (hL : LineOk S R T) (hn : tn / S = n) (ht : tn ≤ 4096) :
    Calls Tryd.prog 41 #[.agg #[.int .i64 2, .int .i64 0, .int .i64 0, .int .i64 (S : Int), .int .i64 (R : Int), .slice ta tn tc, .string ⟨#[]⟩]] w fun e w' => e = .returned (.agg #[.int .i64 (S : Int), .int .i64 (2 * (R : Int)), .int .i64 (n : Int), .slice ta tn tc]) ∧ Below w.heap.size w w' := by
  obtain ⟨w1, hw1⟩ : ∃ w1, (w.alloc (.cells #[.int .i64 2, .int .i64 0, .int .i64 0, .int .i64 (S : Int), .int .i64 (R : Int), .slice ta tn tc, .string ⟨#[]⟩] 24)).alloc (.cells #[.int .i64 0, .int .i64 0, .int .i64 0, .slice none 0 0] 79) = w1 := ⟨_, rfl⟩
  have BB := hide' (show Below w.heap.size w w1 by rw [← hw1]; exact ((Below.refl _ _).alloc (Nat.le_refl _) _).alloc (by simp) _)
  have RX := hide' (show RB w.heap.size S R (.slice ta tn tc) w1.drew by rw [← hw1]; exact ((RB.new w S R _ _).alloc _).block rfl)
  have s1 : w1.heap.size = w.heap.size + 2 := by rw [← hw1]; simp
  have ZC0 := hide' (show w1.cell? ⟨w.heap.size + 1, 0, none⟩ = some (.int .i64 0) by rw [← hw1, World.cell?_alloc_at _ _ _ _ (by simp)]; rfl)
  have ZC1 := hide' (show w1.cell? ⟨w.heap.size + 1, 1, none⟩ = some (.int .i64 0) by rw [← hw1, World.cell?_alloc_at _ _ _ _ (by simp)]; rfl)
  have ZC2 := hide' (show w1.cell? ⟨w.heap.size + 1, 2, none⟩ = some (.int .i64 0) by rw [← hw1, World.cell?_alloc_at _ _ _ _ (by simp)]; rfl)
  have ZC3 := hide' (show w1.cell? ⟨w.heap.size + 1, 3, none⟩ = some (.slice none 0 0) by rw [← hw1, World.cell?_alloc_at _ _ _ _ (by simp)]; rfl)
  have ZF := hide' (show ∀ k, w1.frozen? ⟨w.heap.size + 1, k, none⟩ = false by
    intro k
    rw [← hw1]; simp)
  have HP := hide' (fun (wr : World) => placesOf_any S R ta tn tc n wr hL.s2 hL.s4 hn ht)
  have r10 := hL.r10
  have S0 := hide' (SMg.of RX.out)
  clear hL hn
  go_enter Tryd.func41, Tryd.ntmps41
  go_upto_region 1 with fail
  go_region_held3 (fun w' => w'.cell? ⟨w.heap.size, 0, none⟩ = some (.int .i64 2) ∧ w'.cell? ⟨w.heap.size, 1, none⟩ = some (.int .i64 0) ∧ w'.cell? ⟨w.heap.size, 2, none⟩ = some (.int .i64 0) ∧ w'.cell? ⟨w.heap.size, 3, none⟩ = some (.int .i64 (S : Int)) ∧ w'.cell? ⟨w.heap.size, 4, none⟩ = some (.int .i64 (R : Int)) ∧ w'.cell? ⟨w.heap.size, 5, none⟩ = some (.slice ta tn tc) ∧ w'.cell? ⟨w.heap.size, 6, none⟩ = some (.string ⟨#[]⟩)) (first | exact S0.out | exact S2.out | exact SMg.stored R2.out _ _ _ _)
    ((go_at_call 73; refine (HP.out _).mono ?_; rintro e w2 ⟨rfl, b2⟩; have B2 := hide' b2; have R2 := hide' (RX.out.next b2); have S2 := hide' (SMg.of R2.out); clear b2; have hb := B2.out.block (w.heap.size + 1) (show w.heap.size + 1 < w1.heap.size by omega); have z0 := (World.cell?_of_block (w := w1) (a := ⟨w.heap.size + 1, 0, none⟩) hb).trans ZC0.out; have z1 := (World.cell?_of_block (w := w1) (a := ⟨w.heap.size + 1, 1, none⟩) hb).trans ZC1.out; have z2 := (World.cell?_of_block (w := w1) (a := ⟨w.heap.size + 1, 2, none⟩) hb).trans ZC2.out; have z3 := (World.cell?_of_block (w := w1) (a := ⟨w.heap.size + 1, 3, none⟩) hb).trans ZC3.out; have f0 := (World.frozen?_of_block (w := w1) (a := ⟨w.heap.size + 1, 0, none⟩) hb).trans (ZF.out 0); have f1 := (World.frozen?_of_block (w := w1) (a := ⟨w.heap.size + 1, 1, none⟩) hb).trans (ZF.out 1); have f2 := (World.frozen?_of_block (w := w1) (a := ⟨w.heap.size + 1, 2, none⟩) hb).trans (ZF.out 2); have f3 := (World.frozen?_of_block (w := w1) (a := ⟨w.heap.size + 1, 3, none⟩) hb).trans (ZF.out 3); clear hb))
  have WR : IntKind.i64.wrap (2 * (R : Int)) = 2 * (R : Int) := by simp [IntKind.wrap, IntKind.bits, IntKind.signed]; omega
  have BF := hide' (below4 (p := w.heap.size + 1) (BB.out.drew.trans (B2.out.mono (by show w.heap.size ≤ w1.heap.size; omega))) (by omega) (.int .i64 (S : Int)) (.int .i64 (2 * (R : Int))) (.int .i64 (n : Int)) (.slice ta tn tc))
  obtain ⟨W, hW⟩ : ∃ W, W = ((((w2.setCell ⟨w.heap.size + 1, 0, none⟩ (.int .i64 (S : Int))).setCell ⟨w.heap.size + 1, 1, none⟩ (.int .i64 (2 * (R : Int)))).setCell ⟨w.heap.size + 1, 2, none⟩ (.int .i64 (n : Int))).setCell ⟨w.heap.size + 1, 3, none⟩ (.slice ta tn tc)) := ⟨_, rfl⟩
  obtain ⟨g0, g1, g2, g3⟩ := stored4 z0 z1 z2 z3 _ _ _ _ hW
  rw [← hW] at BF
  simp only [WR]
  rw [← hW]
  clear z0 z1 z2 z3
  go_wp2
  refine bodyPost_ret (v := .agg #[.int .i64 (S : Int), .int .i64 (2 * (R : Int)), .int .i64 (n : Int), .slice ta tn tc]) (by simp [results, Tryd.results41, go_sem, g0, g1, g2, g3]) rfl ?_
  exact ⟨rfl, BF.out⟩
end Go.Proofs.YtjjdjdodhedihaaDoor

