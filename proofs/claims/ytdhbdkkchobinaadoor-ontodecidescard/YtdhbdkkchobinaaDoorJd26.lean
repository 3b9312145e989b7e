/-
  What the last text of this claim leans on, part 26: Lk3, Lk4, LawN.
-/
import Derived.Test.YtdhbdkkchobinaaDoorJd25
import Derived.Test.YtdhbdkkchobinaaDoorJd10
import Derived.Test.YtdhbdkkchobinaaDoorJd24
import Derived.Maps.AppendAt
import Derived.OneCell
namespace Go.Proofs.YtdhbdkkchobinaaDoor
open Go.RowKit
set_option linter.unusedVariables false

theorem ownsRow_keepB {w w' : World} {base : Nat} {e : TypeId} {v : Value} {n : Nat} {xs : List Value} (h : w.ownsRow base e 1 v n xs) (hb : ∀ k, base ≤ k → k < w.heap.size → w'.heap[k]? = w.heap[k]?) : w'.ownsRow base e 1 v n xs := by
  refine ⟨h.1, ?_⟩
  rcases h.2 with h0 | ⟨g, cap, cur, hv, hg, hh, rest⟩
  · exact Or.inl h0
  · exact Or.inr ⟨g, cap, cur, hv, hg, (hb g hg (Array.getElem?_eq_some_iff.1 hh).1).trans hh, rest⟩
theorem ownsRow_lt {w : World} {base : Nat} {e : TypeId} {v : Value} {n : Nat} {xs : List Value} (h : w.ownsRow base e 1 v n xs) : ∀ k, v.ownBlock = some k → base ≤ k ∧ k < w.heap.size := by
  intro k hk
  rcases h.2 with ⟨h0, -⟩ | ⟨g, cap, cur, hv, hg, hh, -⟩
  · subst h0; cases hk
  · subst hv
    injection hk with e
    have e' : g = k := e
    subst e'
    exact ⟨hg, (Array.getElem?_eq_some_iff.1 hh).1⟩
/-- Between the rounds: the counter in its box, the list that grows; all else as it was. -/
structure LS (w0 wr : World) (p i : Nat) (v : Value) (xs : List Int) : Prop where
  below : Below w0.heap.size w0 wr
  ci : wr.cell? ⟨p, 0, none⟩ = some (.int .i64 (i : Int))
  fi : wr.frozen? ⟨p, 0, none⟩ = false
  pge : w0.heap.size ≤ p
  own : wr.ownsRow w0.heap.size 3 1 v xs.length (xs.map fun x => .int .i64 x)
  ne : v.ownBlock ≠ some p
theorem LS.start (w0 : World) (i : Nat) (t : TypeId) : LS w0 (w0.alloc (.cells #[.int .i64 (i : Int)] t)) w0.heap.size i (.slice none 0 0) [] :=
  ⟨(Below.refl _ _).alloc (Nat.le_refl _) _, by rw [World.cell?_alloc_at _ _ _ _ rfl]; rfl, by simp, Nat.le_refl _, ⟨by simp, Or.inl ⟨rfl, by simp⟩⟩, by intro h; cases h⟩
theorem LS.next {w0 wr w' : World} {p i : Nat} {v : Value} {xs : List Int} (h : LS w0 wr p i v xs) (hb : Below wr.heap.size wr w') : LS w0 w' p i v xs :=
  ⟨h.below.trans (hb.mono h.below.size), cell_next h.ci hb, (World.frozen?_of_block (w := wr) (a := ⟨p, 0, none⟩) (hb.block p (cell_lt h.ci))).trans h.fi, h.pge, ownsRow_keepB h.own fun k _ hk => hb.block k hk, h.ne⟩
theorem LS.grown {w0 wr w' : World} {p i : Nat} {v : Value} {xs : List Int} (h : LS w0 wr p i v xs) (x : Int) (hg : (wr.alloc (.cells #[.int .i64 x] 3)).grownBy w' v.ownBlock) : w'.cell? ⟨p, 0, none⟩ = some (.int .i64 (i : Int)) ∧ Below w0.heap.size w0 w' := by
  have hz := h.below.size
  have e : ∀ k, k < wr.heap.size → v.ownBlock ≠ some k → w'.heap[k]? = wr.heap[k]? := fun k hk hn => by
    rw [hg.block k (by rw [World.size_alloc]; omega) (fun q => hn q.symm)]
    exact Below.heap_alloc _ _ _ hk
  have hsz : wr.heap.size + 1 ≤ w'.heap.size := by have := hg.size; rw [World.size_alloc] at this; exact this
  refine ⟨(World.cell?_of_block (w := wr) (a := ⟨p, 0, none⟩) (e p (cell_lt h.ci) h.ne)).trans h.ci, h.below.trans ⟨hg.os, hg.tape, hg.output, by omega, fun k hk => e k (by omega) fun q => ?_⟩⟩
  have := (ownsRow_lt h.own k q).1
  omega
theorem LS.push {w0 wr w' : World} {p i : Nat} {v v' : Value} {xs : List Int} (h : LS w0 wr p i v xs) (x : Int) (t : TypeId) (k : Int) (hk : k = ((i + 1 : Nat) : Int)) (hg : (wr.alloc (.cells #[.int .i64 x] 3)).grownBy w' v.ownBlock) (ho : w'.ownsRow w0.heap.size 3 1 v' (xs.length + 1) ((xs.map fun x => .int .i64 x) ++ [.int .i64 x])) :
    LS w0 (w'.alloc (.cells #[.int .i64 k] t)) w'.heap.size (i + 1) v' (xs ++ [x]) := by
  have hb := (h.grown x hg).2
  have hz := hb.size
  have hl := ownsRow_lt ho
  have hne : v'.ownBlock ≠ some w'.heap.size := fun q => by have := (hl _ q).2; omega
  subst hk
  refine ⟨hb.alloc hz _, by rw [World.cell?_alloc_at _ _ _ _ rfl]; rfl, by simp, hz, ?_, hne⟩
  have h1 := ownsRow_keepB (w' := w'.alloc (.cells #[.int .i64 ((i + 1 : Nat) : Int)] t)) ho fun k _ hk => Below.heap_alloc _ _ _ hk
  simpa using h1
theorem fresh_ownL {w0 w : World} {base : Nat} {e : TypeId} {v : Value} {n : Nat} {xs : List Value} (h : w.ownsRow base e 1 v n xs) (hb : w0.heap.size ≤ base) : FreshL w0 v := fun g k c hv => by
  rcases h.2 with ⟨h0, -⟩ | ⟨g', cap, cur, hv', hg, hh, h3, h4, -⟩
  · rw [h0] at hv; cases hv
  · rw [hv'] at hv
    injection hv with q1 q2 q3
    injection q1 with q4
    injection q4 with q5
    subst q2 q3 q5
    exact ⟨by omega, h3, h4⟩
def lenV : Value → Nat
  | .slice _ n _ => n
  | _ => 0
theorem ownsRow_len {w : World} {base : Nat} {e : TypeId} {v : Value} {n : Nat} {xs : List Value} (h : w.ownsRow base e 1 v n xs) : ∃ a c, v = .slice a n c := by
  rcases h.2 with ⟨h0, h1⟩ | ⟨g, cap, cur, hv, -⟩
  · subst h0 h1; exact ⟨none, 0, rfl⟩
  · exact ⟨_, cap, hv⟩
/-- A list that is answered by the document's side. -/
def ListRef (xs : List Int) (w : World) (e : Ending) (w' : World) : Prop :=
  ∃ v, e = .returned v ∧ Tab w' v xs ∧ FreshL w v ∧ Below w.heap.size w w'
theorem take_next {xs : List Int} {i : Nat} (h : i < xs.length) {x : Int} (hx : xs.getD i 0 = x) : xs.take (i + 1) = xs.take i ++ [x] := by
  rw [List.take_succ_eq_append_getElem h, ← hx]
  simp [List.getD, h]
theorem stepL_at (S : Int) (R : Nat) (T xs : List Int) {i : Nat} (h : i < xs.length) : (stepL S R T xs).getD i 0 = T.getD (wn S (fun d => rat xs ((i : Int) + d - R)) 0 (2 * R + 1)).toNat 0 := by
  simp [stepL, List.getD, h]

set_option maxRecDepth 100000 in
set_option maxHeartbeats 3200000 in
theorem refStep_any (S R : Nat) (T : List Int) (ta : Option Addr) (tn tc : Nat) (ws : List Int) (wa : Option Addr) (wc : Nat) (w : World)
    (hL : LineOk S R T) (hT : ArgP w T ta tn tc) (hW : ArgP w ws wa ws.length wc) (hok : cellsOk S ws) (hl : ws.length ≤ 1000) :
    Calls Tryd.prog 52 #[.agg #[.int .i64 2, .int .i64 0, .int .i64 0, .int .i64 (S : Int), .int .i64 (R : Int), .slice ta tn tc, .string ⟨#[]⟩], .slice wa ws.length wc] w (ListRef (stepL S R T ws) w) := by
  have hmf : ∀ (fn : Fn) (first cap : Array Value) (w : World), (Instr.makeFunc fn first cap).run Tryd.prog w = .ok (.func fn first cap) w := fun _ _ _ _ => rfl
  obtain ⟨i0, hi, hz0, hz1, hz2⟩ := info_parts info_int
  obtain ⟨w0, hw0⟩ : ∃ w0, ((w.alloc (.cells #[.int .i64 2, .int .i64 0, .int .i64 0, .int .i64 (S : Int), .int .i64 (R : Int), .slice ta tn tc, .string ⟨#[]⟩] 24)).alloc (.cells #[.slice wa ws.length wc] 22)).alloc (.cells #[.int .i64 (ws.length : Int)] 3) = w0 := ⟨_, rfl⟩
  have B0 := hide' (show Below w.heap.size w w0 by rw [← hw0]; exact (((Below.refl _ _).alloc (Nat.le_refl _) _).alloc (by simp) _).alloc (by simp; omega) _)
  have z0 : w0.heap.size = w.heap.size + 3 := by rw [← hw0]; simp
  have RX := hide' (show RB w.heap.size S R (.slice ta tn tc) w0 by rw [← hw0]; exact ((RB.new w S R _ _).alloc _).alloc _)
  have CW := hide' (show w0.cell? ⟨w.heap.size + 1, 0, none⟩ = some (.slice wa ws.length wc) by rw [← hw0]; rw [World.cell?_alloc_past _ _ _ (by simp)]; rw [World.cell?_alloc_at _ _ _ _ (by simp)]; rfl)
  have CN := hide' (show w0.cell? ⟨w.heap.size + 2, 0, none⟩ = some (.int .i64 (ws.length : Int)) by rw [← hw0, World.cell?_alloc_at _ _ _ _ (by simp)]; rfl)
  have AT := hide' (hT.below B0.out)
  have AW := hide' (hW.below B0.out)
  have S0 := hide' (LS.start w0 0 3)
  have HL := hide' hL
  have HO := hide' hok
  have r10 := hL.r10
  have hlw := hl
  obtain ⟨out, hout⟩ : ∃ out, stepL S R T ws = out := ⟨_, rfl⟩
  have OUT := hide' hout
  have OL := hide' (show out.length = ws.length by rw [← hout]; simp [stepL])
  rw [hout]
  clear hT hW hL hok hl hout
  obtain ⟨x0, x1, x2, x3, x4, x5, x6⟩ := RX.out
  have y0 := CW.out
  have y1 := CN.out
  go_enter Tryd.func52, Tryd.ntmps52
  go_wp2
  clear x0 x1 x2 x3 x4 x5 x6 y0 y1
  go_loopw [5, 7] (fun ov pv wr => ∃ i p : Nat, pv = .pointer (some ⟨p, 0, none⟩) ∧ i ≤ out.length ∧ LS w0 wr p i ov (out.take i)) (fun ov _ _ => out.length - lenV ov)
  case atStart => exact ⟨0, w0.heap.size, by rw [z0], by omega, S0.out⟩
  case round =>
    obtain ⟨i, p, rfl, hi', ls⟩ := hrel
    have LI := hide' ls
    have hle : (out.take i).length = i := by rw [List.length_take]; omega
    obtain ⟨sa, sc, e0⟩ := ownsRow_len ls.own
    rw [hle] at e0
    subst e0
    have c1 := ls.ci
    obtain ⟨x0, x1, x2, x3, x4, x5, x6⟩ := RX.out.next ls.below
    have y0 := cell_next CW.out ls.below
    have y1 := cell_next CN.out ls.below
    have AT1 := hide' (AT.out.below ls.below)
    have CC := hide' (show CloS wr p (w.heap.size + 2) (w.heap.size + 1) i ws wa wc from ⟨c1, y1, y0, AW.out.below ls.below⟩)
    have HLE := hide' hle
    have hol : out.length ≤ 1000 := by have := OL.out; omega
    clear ls S0 hle
    by_cases d : i < out.length
    · have d' : (i : Int) < (ws.length : Int) := by have := OL.out; omega
      obtain ⟨x, hx⟩ : ∃ x, out.getD i 0 = x := ⟨_, rfl⟩
      have VAL := hide' (show T.getD (wn S (fun d => rat ws ((i : Int) + d - R)) 0 (2 * R + 1)).toNat 0 = x by rw [← hx, ← OUT.out, stepL_at _ _ _ _ (by have := OL.out; omega)])
      have TN := hide' (take_next d hx)
      clear hx
      go_wp2_with fail
      refine (cellS_any S R T ta tn tc p (w.heap.size + 2) (w.heap.size + 1) i ws wa wc _ HL.out AT1.out CC.out HO.out (by have := OL.out; omega) hlw).mono ?_
      rw [VAL.out]
      rintro e w2 ⟨rfl, b2⟩
      have L2 := hide' (LI.out.next b2)
      have OW := hide' L2.out.own
      have z2 := L2.out.below.size
      clear b2 x0 x1 x2 x3 x4 x5 x6 y0 y1 c1
      go_wp2_with (at_builtin; refine wpList_append_own _ rfl _ _ 22 rfl w0.heap.size 3 i0 (.int .i64 0) 1 8 Tryd.underlying22 hi hz0 hz1 hz2 rfl (by decide) (.slice sa i sc) _ _ rfl (OW.out.alloc _) ⟨w2.heap.size, 0, none⟩ 1 1 [.int .i64 x] rfl rfl (cell_one_new _ _ _) (fun x hx => by simp at hx; subst hx; rfl) (by rw [HLE.out]; unfold maxLen; omega) (by rw [HLE.out]; omega) (by simp; omega) ?_; intro v' w3 hown' hgrow3 hnil3; obtain ⟨k1, k2⟩ := L2.out.grown x hgrow3; have G3 := hide' hgrow3; have O3 := hide' hown'; have K2 := hide' k2; obtain ⟨va, vc, e1⟩ := ownsRow_len hown'; rw [HLE.out] at e1; subst e1; clear hgrow3 hown' hnil3 k2)
      refine ⟨⟨i + 1, w3.heap.size, rfl, by omega, ?_⟩, by simp [lenV]; omega⟩
      rw [TN.out]
      exact L2.out.push x _ _ (by omega) G3.out O3.out
    · have d' : ¬ (i : Int) < (ws.length : Int) := by have := OL.out; omega
      have TK := hide' (show out.take i = out by rw [show i = out.length by omega, List.take_length])
      have BF := hide' (B0.out.trans (LI.out.below.mono (by omega)))
      go_wp2
      go_ret
      have ho := LI.out.own
      rw [TK.out] at ho
      exact ⟨_, rfl, ownsRow_tab ho, fresh_ownL ho (by omega), BF.out⟩

set_option maxRecDepth 100000 in
set_option maxHeartbeats 3200000 in
theorem refApply_any (S R : Nat) (T : List Int) (ta : Option Addr) (tn tc : Nat) (ws : List Int) (wa : Option Addr) (wc : Nat) (w : World)
    (hL : LineOk S R T) (hT : ArgP w T ta tn tc) (hW : ArgP w ws wa ws.length wc) (hok : cellsOk S ws) (hl : ws.length ≤ 5000) :
    Calls Tryd.prog 53 #[.agg #[.int .i64 2, .int .i64 0, .int .i64 0, .int .i64 (S : Int), .int .i64 (R : Int), .slice ta tn tc, .string ⟨#[]⟩], .slice wa ws.length wc] w (ListRef (applyL S R T ws) w) := by
  have hmf : ∀ (fn : Fn) (first cap : Array Value) (w : World), (Instr.makeFunc fn first cap).run Tryd.prog w = .ok (.func fn first cap) w := fun _ _ _ _ => rfl
  obtain ⟨i0, hi, hz0, hz1, hz2⟩ := info_parts info_int
  obtain ⟨w0, hw0⟩ : ∃ w0, (w.alloc (.cells #[.int .i64 2, .int .i64 0, .int .i64 0, .int .i64 (S : Int), .int .i64 (R : Int), .slice ta tn tc, .string ⟨#[]⟩] 24)).alloc (.cells #[.slice wa ws.length wc] 22) = w0 := ⟨_, rfl⟩
  have B0 := hide' (show Below w.heap.size w w0 by rw [← hw0]; exact ((Below.refl _ _).alloc (Nat.le_refl _) _).alloc (by simp) _)
  have z0 : w0.heap.size = w.heap.size + 2 := by rw [← hw0]; simp
  have RX := hide' (show RB w.heap.size S R (.slice ta tn tc) w0 by rw [← hw0]; exact (RB.new w S R _ _).alloc _)
  have CW := hide' (show w0.cell? ⟨w.heap.size + 1, 0, none⟩ = some (.slice wa ws.length wc) by rw [← hw0]; rw [World.cell?_alloc_at _ _ _ _ (by simp)]; rfl)
  have AT := hide' (hT.below B0.out)
  have AW := hide' (hW.below B0.out)
  have S0 := hide' (LS.start w0 R 3)
  have HL := hide' hL
  have HO := hide' hok
  have r10 := hL.r10
  have hlw := hl
  obtain ⟨out, hout⟩ : ∃ out, applyL S R T ws = out := ⟨_, rfl⟩
  have OUT := hide' hout
  have OL := hide' (show out.length = ws.length - 2 * R by rw [← hout]; simp [applyL])
  rw [hout]
  clear hT hW hL hok hl hout
  obtain ⟨x0, x1, x2, x3, x4, x5, x6⟩ := RX.out
  have y0 := CW.out

  go_enter Tryd.func53, Tryd.ntmps53
  go_wp2
  clear x0 x1 x2 x3 x4 x5 x6 y0
  go_loopw [5, 6] (fun ov pv wr => ∃ i p : Nat, pv = .pointer (some ⟨p, 0, none⟩) ∧ i ≤ out.length ∧ LS w0 wr p (R + i) ov (out.take i)) (fun ov _ _ => out.length - lenV ov)
  case atStart => exact ⟨0, w0.heap.size, by rw [z0], by omega, S0.out⟩
  case round =>
    obtain ⟨i, p, rfl, hi', ls⟩ := hrel
    have LI := hide' ls
    have hle : (out.take i).length = i := by rw [List.length_take]; omega
    obtain ⟨sa, sc, e0⟩ := ownsRow_len ls.own
    rw [hle] at e0
    subst e0
    have c1 := ls.ci
    obtain ⟨x0, x1, x2, x3, x4, x5, x6⟩ := RX.out.next ls.below
    have y0 := cell_next CW.out ls.below

    have AT1 := hide' (AT.out.below ls.below)
    have CC := hide' (show CloA wr (w.heap.size + 1) p (R + i) ws wa wc from ⟨y0, c1, AW.out.below ls.below⟩)
    have HLE := hide' hle
    have hol : out.length ≤ 5000 := by have := OL.out; omega
    clear ls S0 hle
    by_cases d : i < out.length
    · have d' : (R : Int) + (i : Int) + (R : Int) < (ws.length : Int) := by have := OL.out; omega
      obtain ⟨x, hx⟩ : ∃ x, out.getD i 0 = x := ⟨_, rfl⟩
      have VAL := hide' (show T.getD (wn S (fun t => ws.getD t 0) (R + i - R) (2 * R + 1)).toNat 0 = x by rw [← hx, ← OUT.out, applyL_at _ _ _ _ (by have := OL.out; omega), show R + i - R = i by omega])
      have TN := hide' (take_next d hx)
      clear hx
      go_wp2_with fail
      refine (cellA_any S R T ta tn tc (w.heap.size + 1) p (R + i) ws wa wc _ HL.out AT1.out CC.out HO.out (by omega) (by have := OL.out; omega) hlw).mono ?_
      rw [VAL.out]
      rintro e w2 ⟨rfl, b2⟩
      have L2 := hide' (LI.out.next b2)
      have OW := hide' L2.out.own
      have z2 := L2.out.below.size
      clear b2 x0 x1 x2 x3 x4 x5 x6 y0 c1
      go_wp2_with (at_builtin; refine wpList_append_own _ rfl _ _ 22 rfl w0.heap.size 3 i0 (.int .i64 0) 1 8 Tryd.underlying22 hi hz0 hz1 hz2 rfl (by decide) (.slice sa i sc) _ _ rfl (OW.out.alloc _) ⟨w2.heap.size, 0, none⟩ 1 1 [.int .i64 x] rfl rfl (cell_one_new _ _ _) (fun x hx => by simp at hx; subst hx; rfl) (by rw [HLE.out]; unfold maxLen; omega) (by rw [HLE.out]; omega) (by simp; omega) ?_; intro v' w3 hown' hgrow3 hnil3; obtain ⟨k1, k2⟩ := L2.out.grown x hgrow3; have G3 := hide' hgrow3; have O3 := hide' hown'; have K2 := hide' k2; obtain ⟨va, vc, e1⟩ := ownsRow_len hown'; rw [HLE.out] at e1; subst e1; clear hgrow3 hown' hnil3 k2)
      refine ⟨⟨i + 1, w3.heap.size, rfl, by omega, ?_⟩, by simp [lenV]; omega⟩
      rw [TN.out, show R + (i + 1) = R + i + 1 by omega]
      exact L2.out.push x _ _ (by omega) G3.out O3.out
    · have d' : ¬ (R : Int) + (i : Int) + (R : Int) < (ws.length : Int) := by have := OL.out; omega
      have TK := hide' (show out.take i = out by rw [show i = out.length by omega, List.take_length])
      have BF := hide' (B0.out.trans (LI.out.below.mono (by omega)))
      go_wp2
      go_ret
      have ho := LI.out.own
      rw [TK.out] at ho
      exact ⟨_, rfl, ownsRow_tab ho, fresh_ownL ho (by omega), BF.out⟩
end Go.Proofs.YtdhbdkkchobinaaDoor

namespace Go.Proofs.YtdhbdkkchobinaaDoor
open Go.RowKit
set_option linter.unusedVariables false

end Go.Proofs.YtdhbdkkchobinaaDoor

namespace Go.Proofs.YtdhbdkkchobinaaDoor
open Go.RowKit
set_option linter.unusedVariables false

end Go.Proofs.YtdhbdkkchobinaaDoor

