/-
  What the last text of this claim leans on, part 28: Lk1, Lk2, Lk3, Lk4, LawN, Ob5, Od4.
-/
import Derived.Test.YtdhbdkkchobinaaJz6
import Derived.Test.YtdhbdkkchobinaaJz15
import Derived.Test.YtdhbdkkchobinaaJz27
import Derived.Test.YtdhbdkkchobinaaJz17
import Derived.Maps.AppendAt
import Derived.OneCell
namespace Go.Proofs.Ytdhbdkkchobinaa
open Go.RowKit
set_option linter.unusedVariables false

/-- Go's remainder of what is below nothing. -/
theorem tmod_neg (a : Int) (n : Nat) (hn : 0 < n) (ha : a < 0) : (a.tmod (n : Int) = 0 ∧ a % (n : Int) = 0) ∨ (a.tmod (n : Int) < 0 ∧ -(n : Int) < a.tmod (n : Int) ∧ a % (n : Int) = a.tmod (n : Int) + n) := by
  obtain ⟨b, rfl⟩ : ∃ b : Int, a = -b := ⟨-a, by omega⟩
  rw [Int.neg_tmod, Int.tmod_eq_emod_of_nonneg (by omega)]
  have h1 := Int.emod_nonneg b (show (n : Int) ≠ 0 by omega)
  have h2 := Int.emod_lt_of_pos b (show (0 : Int) < n by omega)
  have h3 := Int.emod_add_mul_ediv b (n : Int)
  by_cases h : b % (n : Int) = 0
  · left
    refine ⟨by omega, ?_⟩
    rw [show -b = 0 + (n : Int) * (-(b / (n : Int))) by rw [Int.mul_neg]; omega, Int.add_mul_emod_self_left]
    rfl
  · right
    refine ⟨by omega, by omega, ?_⟩
    rw [show -b = ((n : Int) - b % (n : Int)) + (n : Int) * (-(b / (n : Int)) - 1) by rw [Int.mul_sub, Int.mul_neg]; omega, Int.add_mul_emod_self_left, Int.emod_eq_of_lt (by omega) (by omega)]
    omega

/-- What Step's function sees: its own place, the length, the word. -/
structure CloS (w : World) (pi pn pw : Nat) (i : Nat) (ws : List Int) (wa : Option Addr) (wc : Nat) : Prop where
  ci : w.cell? ⟨pi, 0, none⟩ = some (.int .i64 (i : Int))
  cn : w.cell? ⟨pn, 0, none⟩ = some (.int .i64 (ws.length : Int))
  cw : w.cell? ⟨pw, 0, none⟩ = some (.slice wa ws.length wc)
  arg : ArgP w ws wa ws.length wc
theorem cell_lt {w : World} {p o : Nat} {v : Value} (h : w.cell? ⟨p, o, none⟩ = some v) : p < w.heap.size := by
  rcases Nat.lt_or_ge p w.heap.size with k | k
  · exact k
  · simp [World.cell?, Array.getElem?_eq_none k] at h
theorem cell_next {w w' : World} {p o : Nat} {v : Value} (h : w.cell? ⟨p, o, none⟩ = some v) (hb : Below w.heap.size w w') : w'.cell? ⟨p, o, none⟩ = some v :=
  (World.cell?_of_block (w := w) (a := ⟨p, o, none⟩) (hb.block p (cell_lt h))).trans h
theorem CloS.below {w w' : World} {pi pn pw i : Nat} {ws : List Int} {wa : Option Addr} {wc : Nat} (h : CloS w pi pn pw i ws wa wc) (hb : Below w.heap.size w w') : CloS w' pi pn pw i ws wa wc :=
  ⟨cell_next h.ci hb, cell_next h.cn hb, cell_next h.cw hb, h.arg.below hb⟩

/-- What Apply's function sees. -/
structure CloA (w : World) (pw pi : Nat) (i : Nat) (ws : List Int) (wa : Option Addr) (wc : Nat) : Prop where
  cw : w.cell? ⟨pw, 0, none⟩ = some (.slice wa ws.length wc)
  ci : w.cell? ⟨pi, 0, none⟩ = some (.int .i64 (i : Int))
  arg : ArgP w ws wa ws.length wc
theorem CloA.below {w w' : World} {pw pi i : Nat} {ws : List Int} {wa : Option Addr} {wc : Nat} (h : CloA w pw pi i ws wa wc) (hb : Below w.heap.size w w') : CloA w' pw pi i ws wa wc :=
  ⟨cell_next h.cw hb, cell_next h.ci hb, h.arg.below hb⟩

end Go.Proofs.Ytdhbdkkchobinaa

namespace Go.Proofs.Ytdhbdkkchobinaa
open Go.RowKit
set_option linter.unusedVariables false

end Go.Proofs.Ytdhbdkkchobinaa

namespace Go.Proofs.Ytdhbdkkchobinaa
open Go.RowKit
set_option linter.unusedVariables false

theorem ownsRow_keepB {w w' : World} {base : Nat} {e : TypeId} {v : Value} {n : Nat} {xs : List Value} (h : w.ownsRow base e 1 v n xs) (hb : ∀ k, base ≤ k → k < w.heap.size → w'.heap[k]? = w.heap[k]?) : w'.ownsRow base e 1 v n xs := by
  refine ⟨h.1, ?_⟩
  rcases h.2 with h0 | ⟨g, cap, cur, hv, hg, hh, rest⟩
  · exact Or.inl h0
  · exact Or.inr ⟨g, cap, cur, hv, hg, (hb g hg (Array.getElem?_eq_some_iff.1 hh).1).trans hh, rest⟩
theorem ownsRow_lt {w : World} {base : Nat} {e : TypeId} {v : Value} {n : Nat} {xs : List Value} (h : w.ownsRow base e 1 v n xs) : ∀ k, v.ownBlock = some k → base ≤ k ∧ k < w.heap.size := by
  intro k hk
  rcases h.2 with ⟨h0, -⟩ | ⟨g, cap, cur, hv, hg, hh, -⟩
  · subst h0; cases hk
  · subst hv
    injection hk with e
    have e' : g = k := e
    subst e'
    exact ⟨hg, (Array.getElem?_eq_some_iff.1 hh).1⟩
/-- Between the rounds: the counter in its box, the list that grows; all else as it was. -/
structure LS (w0 wr : World) (p i : Nat) (v : Value) (xs : List Int) : Prop where
  below : Below w0.heap.size w0 wr
  ci : wr.cell? ⟨p, 0, none⟩ = some (.int .i64 (i : Int))
  fi : wr.frozen? ⟨p, 0, none⟩ = false
  pge : w0.heap.size ≤ p
  own : wr.ownsRow w0.heap.size 3 1 v xs.length (xs.map fun x => .int .i64 x)
  ne : v.ownBlock ≠ some p
theorem LS.start (w0 : World) (i : Nat) (t : TypeId) : LS w0 (w0.alloc (.cells #[.int .i64 (i : Int)] t)) w0.heap.size i (.slice none 0 0) [] :=
  ⟨(Below.refl _ _).alloc (Nat.le_refl _) _, by rw [World.cell?_alloc_at _ _ _ _ rfl]; rfl, by simp, Nat.le_refl _, ⟨by simp, Or.inl ⟨rfl, by simp⟩⟩, by intro h; cases h⟩
theorem LS.next {w0 wr w' : World} {p i : Nat} {v : Value} {xs : List Int} (h : LS w0 wr p i v xs) (hb : Below wr.heap.size wr w') : LS w0 w' p i v xs :=
  ⟨h.below.trans (hb.mono h.below.size), cell_next h.ci hb, (World.frozen?_of_block (w := wr) (a := ⟨p, 0, none⟩) (hb.block p (cell_lt h.ci))).trans h.fi, h.pge, ownsRow_keepB h.own fun k _ hk => hb.block k hk, h.ne⟩
theorem LS.grown {w0 wr w' : World} {p i : Nat} {v : Value} {xs : List Int} (h : LS w0 wr p i v xs) (x : Int) (hg : (wr.alloc (.cells #[.int .i64 x] 3)).grownBy w' v.ownBlock) : w'.cell? ⟨p, 0, none⟩ = some (.int .i64 (i : Int)) ∧ Below w0.heap.size w0 w' := by
  have hz := h.below.size
  have e : ∀ k, k < wr.heap.size → v.ownBlock ≠ some k → w'.heap[k]? = wr.heap[k]? := fun k hk hn => by
    rw [hg.block k (by rw [World.size_alloc]; omega) (fun q => hn q.symm)]
    exact Below.heap_alloc _ _ _ hk
  have hsz : wr.heap.size + 1 ≤ w'.heap.size := by have := hg.size; rw [World.size_alloc] at this; exact this
  refine ⟨(World.cell?_of_block (w := wr) (a := ⟨p, 0, none⟩) (e p (cell_lt h.ci) h.ne)).trans h.ci, h.below.trans ⟨hg.os, hg.tape, hg.output, by omega, fun k hk => e k (by omega) fun q => ?_⟩⟩
  have := (ownsRow_lt h.own k q).1
  omega
theorem LS.push {w0 wr w' : World} {p i : Nat} {v v' : Value} {xs : List Int} (h : LS w0 wr p i v xs) (x : Int) (t : TypeId) (k : Int) (hk : k = ((i + 1 : Nat) : Int)) (hg : (wr.alloc (.cells #[.int .i64 x] 3)).grownBy w' v.ownBlock) (ho : w'.ownsRow w0.heap.size 3 1 v' (xs.length + 1) ((xs.map fun x => .int .i64 x) ++ [.int .i64 x])) :
    LS w0 (w'.alloc (.cells #[.int .i64 k] t)) w'.heap.size (i + 1) v' (xs ++ [x]) := by
  have hb := (h.grown x hg).2
  have hz := hb.size
  have hl := ownsRow_lt ho
  have hne : v'.ownBlock ≠ some w'.heap.size := fun q => by have := (hl _ q).2; omega
  subst hk
  refine ⟨hb.alloc hz _, by rw [World.cell?_alloc_at _ _ _ _ rfl]; rfl, by simp, hz, ?_, hne⟩
  have h1 := ownsRow_keepB (w' := w'.alloc (.cells #[.int .i64 ((i + 1 : Nat) : Int)] t)) ho fun k _ hk => Below.heap_alloc _ _ _ hk
  simpa using h1
theorem fresh_ownL {w0 w : World} {base : Nat} {e : TypeId} {v : Value} {n : Nat} {xs : List Value} (h : w.ownsRow base e 1 v n xs) (hb : w0.heap.size ≤ base) : FreshL w0 v := fun g k c hv => by
  rcases h.2 with ⟨h0, -⟩ | ⟨g', cap, cur, hv', hg, hh, h3, h4, -⟩
  · rw [h0] at hv; cases hv
  · rw [hv'] at hv
    injection hv with q1 q2 q3
    injection q1 with q4
    injection q4 with q5
    subst q2 q3 q5
    exact ⟨by omega, h3, h4⟩
def lenV : Value → Nat
  | .slice _ n _ => n
  | _ => 0
theorem ownsRow_len {w : World} {base : Nat} {e : TypeId} {v : Value} {n : Nat} {xs : List Value} (h : w.ownsRow base e 1 v n xs) : ∃ a c, v = .slice a n c := by
  rcases h.2 with ⟨h0, h1⟩ | ⟨g, cap, cur, hv, -⟩
  · subst h0 h1; exact ⟨none, 0, rfl⟩
  · exact ⟨_, cap, hv⟩
/-- A list that is answered by the document's side. -/
def ListRef (xs : List Int) (w : World) (e : Ending) (w' : World) : Prop :=
  ∃ v, e = .returned v ∧ Tab w' v xs ∧ FreshL w v ∧ Below w.heap.size w w'
theorem take_next {xs : List Int} {i : Nat} (h : i < xs.length) {x : Int} (hx : xs.getD i 0 = x) : xs.take (i + 1) = xs.take i ++ [x] := by
  rw [List.take_succ_eq_append_getElem h, ← hx]
  simp [List.getD, h]
theorem stepL_at (S : Int) (R : Nat) (T xs : List Int) {i : Nat} (h : i < xs.length) : (stepL S R T xs).getD i 0 = T.getD (wn S (fun d => rat xs ((i : Int) + d - R)) 0 (2 * R + 1)).toNat 0 := by
  simp [stepL, List.getD, h]

end Go.Proofs.Ytdhbdkkchobinaa

namespace Go.Proofs.Ytdhbdkkchobinaa
open Go.RowKit
set_option linter.unusedVariables false

theorem Tab.argL {w : World} {v : Value} {xs : List Int} (h : Tab w v xs) (hm : xs.length ≤ maxLen) : ∃ a c, v = .slice a xs.length c ∧ ArgP w xs a xs.length c := by
  rcases h with ⟨h1, h2⟩ | ⟨g, cap, h1, h2, h3⟩
  · subst h1
    exact ⟨none, 0, h2, rfl, hm, fun k hk => by simp at hk⟩
  · exact ⟨some ⟨g, 0, none⟩, cap, h1, rfl, hm, fun k hk => ⟨g, 0, rfl, h2, by rw [Nat.zero_add]; exact h3 k hk⟩⟩
/-- A list that lies anywhere. -/
def ListAny (xs : List Int) (w : World) (e : Ending) (w' : World) : Prop :=
  ∃ a c, e = .returned (.slice a xs.length c) ∧ ArgP w' xs a xs.length c ∧ Below w.heap.size w w'

end Go.Proofs.Ytdhbdkkchobinaa

namespace Go.Proofs.Ytdhbdkkchobinaa
open Go.RowKit
set_option linter.unusedVariables false

/-- Two lists that are the same. -/
theorem Ints_both (xs : List Int) (a b : Option Addr) (n c m d : Nat) (w : World) (hA : ArgP w xs a n c) (hB : ArgP w xs b m d) :
    Calls Try.prog 11 #[.slice a n c, .slice b m d] w fun e w' => e = .returned (.bool true) ∧ Below w.heap.size w w' :=
  (Ints_any xs xs a b n c m d w hA hB).mono fun e w' ⟨h1, q, h2⟩ => ⟨by rw [h1]; simp, by rw [h2]; exact below_drewN (Below.refl _ _) q⟩

end Go.Proofs.Ytdhbdkkchobinaa

namespace Go.Proofs.Ytdhbdkkchobinaa
open Go.RowKit
set_option linter.unusedVariables false

def NumErr (f : Nat) (w : World) (e : Ending) (w' : World) : Prop := e = .returned (.tuple #[.int .i64 0, .iface 23 (.int .i64 (f : Int))]) ∧ Below w.heap.size w w'
def NumOk (x : Int) (w : World) (e : Ending) (w' : World) : Prop := e = .returned (.tuple #[.int .i64 x, .nilIface]) ∧ Below w.heap.size w w'

theorem LineOk.graph {S R tn n : Nat} {T : List Int} (hL : LineOk S R T) (ht : tn = T.length) (hn : S ^ (2 * R) = n) : tn / S = n ∧ tn = n * S ∧ 0 < n := by
  have s2 := hL.s2
  refine ⟨by rw [places_of hL ht, hn], by rw [ht, hL.len, Nat.pow_succ, hn], ?_⟩
  rw [← hn]
  exact Nat.pow_pos (by omega)

end Go.Proofs.Ytdhbdkkchobinaa

namespace Go.Proofs.Ytdhbdkkchobinaa
open Go.RowKit
set_option linter.unusedVariables false

def OneErr (f : Nat) (w : World) (e : Ending) (w' : World) : Prop := e = .returned (.tuple #[.bool false, .slice none 0 0, .slice none 0 0, .iface 23 (.int .i64 (f : Int))]) ∧ Below w.heap.size w w'
def OnePost (S n : Nat) (T : List Int) (w : World) (e : Ending) (w' : World) : Prop :=
  ((∃ u full v1 v2, e = .returned (.tuple #[.bool false, v1, v2, .nilIface]) ∧ w'.ownsRow w.heap.size 3 1 v1 full.length (full.map fun y => .int .i64 (y.1 : Int)) ∧ w'.ownsRow w.heap.size 3 1 v2 full.length (full.map fun y => .int .i64 (y.2 : Int)) ∧ IsRing S n T u full) ∨
   (e = .returned (.tuple #[.bool true, .slice none 0 0, .slice none 0 0, .nilIface]) ∧ ∀ u : Nat × Nat, u.1 ≤ u.2 → u.2 < n → NoRing S n T u)) ∧ Below w.heap.size w w'
theorem argP_nil (w : World) : ArgP w [] none 0 0 := ⟨rfl, by simp, fun k hk => by simp at hk⟩

set_option maxRecDepth 100000 in
set_option maxHeartbeats 3200000 in
theorem one_off (o : Out) (ta : Option Addr) (tn tc : Nat) (w : World) (hR : ArgR w o ta tn tc) (h : ¬ (Good o ∧ o.kind = 2)) :
    Calls Try.prog 24 #[.agg #[.int .i64 o.kind, .int .i64 o.born, .int .i64 o.stay, .int .i64 o.states, .int .i64 o.radius, .slice ta tn tc, .string o.turns]] w (OneErr 1 w) := by
  obtain ⟨w1, hw1⟩ : ∃ w1, w.alloc (.cells #[.int .i64 o.kind, .int .i64 o.born, .int .i64 o.stay, .int .i64 o.states, .int .i64 o.radius, .slice ta tn tc, .string o.turns] 28) = w1 := ⟨_, rfl⟩
  have BB := hide' (show Below w.heap.size w w1 by rw [← hw1]; exact (Below.refl _ _).alloc (Nat.le_refl _) _)
  have RX := hide' (show RBo w.heap.size o (.slice ta tn tc) w1 by rw [← hw1]; exact RBo.new w o _ _)
  have AT := hide' (show ArgR w1 o ta tn tc by rw [← hw1]; exact hR.alloc _)
  have HH := hide' h
  clear hR h
  have C0 := hide' (Below.refl w1.heap.size w1)
  obtain ⟨x0, x1, x2, x3, x4, x5, x6⟩ := RX.out
  go_enter Try.func24, Try.ntmps24
  go_wp2_with fail
  refine (ontoCheck_off o ta tn tc (.slice none 0 0) _ AT.out HH.out).mono ?_
  rintro e w2 ⟨rfl, b⟩
  clear hw1
  have C1 := hide' (C0.out.trans (b.mono C0.out.size))
  clear b x0 x1 x2 x3 x4 x5 x6 C0
  obtain ⟨x0, x1, x2, x3, x4, x5, x6⟩ := RX.out.next C1.out
  go_wp2
  refine bodyPost_ret (v := .tuple #[.bool false, .slice none 0 0, .slice none 0 0, .iface 23 (.int .i64 1)]) (by simp [results, Try.results24, go_sem]) rfl ?_
  exact ⟨rfl, BB.out.trans (C1.out.mono BB.out.size)⟩

set_option maxRecDepth 100000 in
set_option maxHeartbeats 3200000 in
theorem one_bad (S R : Nat) (T : List Int) (ta : Option Addr) (tn tc : Nat) (w : World) (hL : LineOk S R T) (hT : ArgP w T ta tn tc) (he : askE S R [] ≠ 0) :
    Calls Try.prog 24 #[.agg #[.int .i64 2, .int .i64 0, .int .i64 0, .int .i64 (S : Int), .int .i64 (R : Int), .slice ta tn tc, .string ⟨#[]⟩]] w (OneErr (askE S R []) w) := by
  obtain ⟨w1, hw1⟩ : ∃ w1, w.alloc (.cells #[.int .i64 2, .int .i64 0, .int .i64 0, .int .i64 (S : Int), .int .i64 (R : Int), .slice ta tn tc, .string ⟨#[]⟩] 28) = w1 := ⟨_, rfl⟩
  have BB := hide' (show Below w.heap.size w w1 by rw [← hw1]; exact (Below.refl _ _).alloc (Nat.le_refl _) _)
  have RX := hide' (show RB w.heap.size S R (.slice ta tn tc) w1 by rw [← hw1]; exact RB.new w S R _ _)
  have AT := hide' (hT.below BB.out)
  have HL := hide' hL
  obtain ⟨f, hf⟩ : ∃ f, askE S R [] = f := ⟨_, rfl⟩
  have ER := hide' (show errOf (askE S R []) = .iface 23 (.int .i64 (f : Int)) by rw [hf]; exact errOf_ne (by rw [← hf]; exact he))
  rw [hf]
  clear hT hL he hf
  have C0 := hide' (Below.refl w1.heap.size w1)
  obtain ⟨x0, x1, x2, x3, x4, x5, x6⟩ := RX.out
  go_enter Try.func24, Try.ntmps24
  go_wp2_with fail
  refine (ontoCheck_line S R T ta tn tc [] none 0 0 _ HL.out AT.out (argP_nil _)).mono ?_
  rw [ER.out]
  rintro e w2 ⟨rfl, b⟩
  clear hw1
  have C1 := hide' (C0.out.trans (b.mono C0.out.size))
  clear b x0 x1 x2 x3 x4 x5 x6 C0
  obtain ⟨x0, x1, x2, x3, x4, x5, x6⟩ := RX.out.next C1.out
  go_wp2
  refine bodyPost_ret (v := .tuple #[.bool false, .slice none 0 0, .slice none 0 0, .iface 23 (.int .i64 (f : Int))]) (by simp [results, Try.results24, go_sem]) rfl ?_
  exact ⟨rfl, BB.out.trans (C1.out.mono BB.out.size)⟩

set_option maxRecDepth 100000 in
set_option maxHeartbeats 3200000 in
theorem one_ok (S R n : Nat) (T : List Int) (ta : Option Addr) (tn tc : Nat) (w : World) (hL : LineOk S R T) (hT : ArgP w T ta tn tc) (he : askE S R [] = 0) (hn : S ^ (2 * R) = n) :
    Calls Try.prog 24 #[.agg #[.int .i64 2, .int .i64 0, .int .i64 0, .int .i64 (S : Int), .int .i64 (R : Int), .slice ta tn tc, .string ⟨#[]⟩]] w (OnePost S n T w) := by
  obtain ⟨w1, hw1⟩ : ∃ w1, w.alloc (.cells #[.int .i64 2, .int .i64 0, .int .i64 0, .int .i64 (S : Int), .int .i64 (R : Int), .slice ta tn tc, .string ⟨#[]⟩] 28) = w1 := ⟨_, rfl⟩
  have BB := hide' (show Below w.heap.size w w1 by rw [← hw1]; exact (Below.refl _ _).alloc (Nat.le_refl _) _)
  have RX := hide' (show RB w.heap.size S R (.slice ta tn tc) w1 by rw [← hw1]; exact RB.new w S R _ _)
  have AT := hide' (hT.below BB.out)
  have HL := hide' hL
  obtain ⟨h1, h2⟩ := askE_zero he
  obtain ⟨g1, g2, g3⟩ := hL.graph hT.len hn
  rw [hn] at h2
  have t4 : tn ≤ 4096 := by rw [hT.len]; exact hL.max
  have TBK := hide' (hT.blk (by have := hT.len; have := hL.pos; omega))
  have GO := hide' (fun (wr : World) => graphOf_any S R T ta tn tc n wr hL g1 t4)
  have RI' := hide' (fun (wr : World) (h : Below w1.heap.size w1 wr) => rings_any S R n T ta tn tc wr g3 h2 hL.s2 hL.s4 g2 (AT.out.below h) (fun g off e => by have := TBK.out g off e; have := BB.out.size; have := h.size; omega))
  have HE := hide' he
  clear hT hL he h1 h2 hn g1 g2 g3 t4
  have C0 := hide' (Below.refl w1.heap.size w1)
  obtain ⟨x0, x1, x2, x3, x4, x5, x6⟩ := RX.out
  go_enter Try.func24, Try.ntmps24
  go_wp2_with fail
  refine (ontoCheck_line S R T ta tn tc [] none 0 0 _ HL.out AT.out (argP_nil _)).mono ?_
  rw [HE.out, show errOf 0 = .nilIface from rfl]
  rintro e w2 ⟨rfl, b⟩
  clear hw1
  have C1 := hide' (C0.out.trans (b.mono C0.out.size))
  clear b x0 x1 x2 x3 x4 x5 x6 C0
  obtain ⟨x0, x1, x2, x3, x4, x5, x6⟩ := RX.out.next C1.out
  go_wp2_with fail
  refine (GO.out _).mono ?_
  rintro e w3 ⟨rfl, b⟩
  have C2 := hide' (C1.out.trans (b.mono C1.out.size))
  clear b x0 x1 x2 x3 x4 x5 x6 C1
  obtain ⟨x0, x1, x2, x3, x4, x5, x6⟩ := RX.out.next C2.out
  have sz3 := C2.out.size
  have szw := BB.out.size
  go_wp2_with fail
  refine (RI'.out _ C2.out).mono ?_
  unfold RingsPost
  rintro e w4 ⟨hor, b⟩
  rcases hor with ⟨u, full, v1, v2, rfl, o1, o2, ir⟩ | ⟨rfl, hno⟩
  · have h0 : 0 < full.length := by obtain ⟨_, _, _, ⟨cs, d, e, _⟩, _⟩ := ir; rw [e]; simp
    obtain ⟨g8, c8, rfl⟩ := row_form o1 h0
    obtain ⟨g9, c9, rfl⟩ := row_form o2 h0
    have O1 := hide' (row_base_mono o1 (show w.heap.size ≤ w3.heap.size by omega))
    have O2 := hide' (row_base_mono o2 (show w.heap.size ≤ w3.heap.size by omega))
    have IR := hide' ir
    have k0 : ((full.length : Int) == 0) = false := by rw [beq_eq_false_iff_ne]; omega
    clear o1 o2 ir
    have C3 := hide' (C2.out.trans (b.mono C2.out.size))
    clear b x0 x1 x2 x3 x4 x5 x6 C2
    obtain ⟨x0, x1, x2, x3, x4, x5, x6⟩ := RX.out.next C3.out
    go_wp2
    refine bodyPost_ret (v := .tuple #[.bool false, .slice (some ⟨g8, 0, none⟩) full.length c8, .slice (some ⟨g9, 0, none⟩) full.length c9, .nilIface]) (by simp [results, Try.results24, go_sem]) rfl ?_
    exact ⟨Or.inl ⟨u, full, _, _, rfl, O1.out, O2.out, IR.out⟩, BB.out.trans (C3.out.mono BB.out.size)⟩
  · have NO := hide' hno
    clear hno
    have C3 := hide' (C2.out.trans (b.mono C2.out.size))
    clear b x0 x1 x2 x3 x4 x5 x6 C2
    obtain ⟨x0, x1, x2, x3, x4, x5, x6⟩ := RX.out.next C3.out
    go_wp2
    refine bodyPost_ret (v := .tuple #[.bool true, .slice none 0 0, .slice none 0 0, .nilIface]) (by simp [results, Try.results24, go_sem]) rfl ?_
    exact ⟨Or.inr ⟨rfl, NO.out⟩, BB.out.trans (C3.out.mono BB.out.size)⟩
end Go.Proofs.Ytdhbdkkchobinaa

