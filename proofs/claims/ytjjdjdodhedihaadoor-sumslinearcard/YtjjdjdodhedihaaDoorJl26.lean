/-
  What the last text of this claim leans on, part 26: Sf7, Gh1, Gd1, Oc9, Oj7, Oj8, Ok1, Og6, Ok5.
-/
import Derived.Test.YtjjdjdodhedihaaDoorJl24
import Derived.Test.YtjjdjdodhedihaaDoorJl19
import Derived.Test.YtjjdjdodhedihaaDoorJl25
import Derived.Test.YtjjdjdodhedihaaDoorJl1
import Derived.Test.YtjjdjdodhedihaaDoorJl21
import Derived.Test.YtjjdjdodhedihaaDoorJl12
import Derived.Test.YtjjdjdodhedihaaDoorJl13
import Derived.Test.YtjjdjdodhedihaaDoorJl16
import Derived.Test.YtjjdjdodhedihaaDoorJl11
import Derived.Test.YtjjdjdodhedihaaDoorJl15
import Derived.Deep.RegionWith
namespace Go.Proofs.YtjjdjdodhedihaaDoor
open Go.RowKit
set_option linter.unusedVariables false

theorem prm_of {S R : Nat} {T : List Int} (h : LineOk S R T) : ∃ p, Prm S p := by
  have h1 := h.s2
  have h2 := h.s4
  rcases (show S = 2 ∨ S = 3 ∨ S = 4 by omega) with q | q | q
  · exact ⟨2, Or.inl ⟨q, rfl⟩⟩
  · exact ⟨3, Or.inr (Or.inl ⟨q, rfl⟩)⟩
  · exact ⟨2, Or.inr (Or.inr ⟨q, rfl⟩)⟩
/-- What Jump answers at a rule of a line. -/
def JumpPost (S R : Nat) (T ws : List Int) (k : Int) (w : World) (e : Ending) (w' : World) : Prop :=
  (wordE S ws ≠ 0 ∧ ListErr (wordE S ws) w e w') ∨ (wordE S ws = 0 ∧ ¬ LinP S R T ∧ ListErr 5 w e w') ∨ (wordE S ws = 0 ∧ LinP S R T ∧ ¬ (0 ≤ k ∧ k ≤ 1000000000000000000) ∧ ListErr 1 w e w') ∨ (wordE S ws = 0 ∧ LinP S R T ∧ 0 ≤ k ∧ k ≤ 1000000000000000000 ∧ ListPost (runL S R T k.toNat ws) w e w')

set_option maxRecDepth 100000 in
set_option maxHeartbeats 6400000 in
theorem jump_off (o : Out) (ta : Option Addr) (tn tc : Nat) (v : Value) (k : Int) (w : World) (hR : ArgR w o ta tn tc) (h : ¬ (Good o ∧ o.kind = 2)) :
    Calls Tryd.prog 21 #[.agg #[.int .i64 o.kind, .int .i64 o.born, .int .i64 o.stay, .int .i64 o.states, .int .i64 o.radius, .slice ta tn tc, .string o.turns], v, .int .i64 k] w (ListErr 1 w) := by
  obtain ⟨w1, hw1⟩ : ∃ w1, w.alloc (.cells #[.int .i64 o.kind, .int .i64 o.born, .int .i64 o.stay, .int .i64 o.states, .int .i64 o.radius, .slice ta tn tc, .string o.turns] 24) = w1 := ⟨_, rfl⟩
  have BB := hide' (show Below w.heap.size w w1 by rw [← hw1]; exact (Below.refl _ _).alloc (Nat.le_refl _) _)
  have RX := hide' (show RBo w.heap.size o (.slice ta tn tc) w1 by rw [← hw1]; exact RBo.new w o _ _)
  have AT := hide' (show ArgR w1 o ta tn tc by rw [← hw1]; exact hR.alloc _)
  have HH := hide' h
  clear hR h
  obtain ⟨x0, x1, x2, x3, x4, x5, x6⟩ := RX.out
  go_enter Tryd.func21, Tryd.ntmps21
  go_wp2_with fail
  refine (lineCheck_off o ta tn tc v _ AT.out HH.out).mono ?_
  rintro e w2 ⟨rfl, b⟩
  clear hw1 x0 x1 x2 x3 x4 x5 x6
  go_wp2
  go_ret2
  exact ⟨rfl, BB.out.trans (b.mono BB.out.size)⟩

set_option maxRecDepth 100000 in
set_option maxHeartbeats 6400000 in
theorem jump_line (S R : Nat) (T : List Int) (ta : Option Addr) (tn tc : Nat) (ws : List Int) (wa : Option Addr) (wc : Nat) (k : Int) (w : World) (hL : LineOk S R T) (hT : ArgP w T ta tn tc) (hW : ArgP w ws wa ws.length wc) :
    Calls Tryd.prog 21 #[.agg #[.int .i64 2, .int .i64 0, .int .i64 0, .int .i64 (S : Int), .int .i64 (R : Int), .slice ta tn tc, .string ⟨#[]⟩], .slice wa ws.length wc, .int .i64 k] w (JumpPost S R T ws k w) := by
  obtain ⟨w1, hw1⟩ : ∃ w1, w.alloc (.cells #[.int .i64 2, .int .i64 0, .int .i64 0, .int .i64 (S : Int), .int .i64 (R : Int), .slice ta tn tc, .string ⟨#[]⟩] 24) = w1 := ⟨_, rfl⟩
  have BB := hide' (show Below w.heap.size w w1 by rw [← hw1]; exact (Below.refl _ _).alloc (Nat.le_refl _) _)
  have RX := hide' (show RB w.heap.size S R (.slice ta tn tc) w1 by rw [← hw1]; exact RB.new w S R _ _)
  have AT := hide' (hT.below BB.out)
  have AW := hide' (hW.below BB.out)
  have HL := hide' hL
  have r10 := hL.r10
  obtain ⟨PP, hPP⟩ : ∃ PP, JumpPost S R T ws k w = PP := ⟨_, rfl⟩
  have HPP := hide' hPP
  rw [hPP]
  obtain ⟨p, hp⟩ := prm_of hL
  have HP := hide' hp
  obtain ⟨L, hLn⟩ : ∃ L, ws.length = L := ⟨_, rfl⟩
  have HLN := hide' hLn
  have JP := hide' (fun (W : World) (g m n0 : Nat) (hm : 2 * R + 1 = m) (h1 : Cel W g (numL S R T)) (h2 : ArgP W ws wa ws.length wc) (he : wordE S ws = 0) (hn : n0 ≤ 1000000000000000000) => jumped_any S R p (numL S R T) ws (some ⟨g, 0, none⟩) m m wa wc n0 W hp (h1.argP (by rw [numL_length]; exact hm) (by unfold maxLen; omega)) h2 (wordE_zero he).1 (wordE_zero he).2 (numL_ok hL) hm.symm r10 hn)
  have RUN := hide' (fun (he : wordE S ws = 0) (h : LinP S R T) (n : Nat) => run_sum (R := R) hL (wordE_zero he).2 h n)
  rw [hLn] at AW JP ⊢
  clear hT hW hL hPP hp hLn
  obtain ⟨x0, x1, x2, x3, x4, x5, x6⟩ := RX.out
  go_enter Tryd.func21, Tryd.ntmps21
  go_wp2_with fail
  refine (lineCheck_line S R T ta tn tc ws wa L wc _ HL.out AT.out AW.out).mono ?_
  rintro e w2 ⟨rfl, b⟩
  have C1 := hide' b
  clear hw1 x0 x1 x2 x3 x4 x5 x6 b
  obtain ⟨x0, x1, x2, x3, x4, x5, x6⟩ := RX.out.next C1.out
  by_cases he : wordE S ws = 0
  · have HE := hide' he
    rw [he, show errOf 0 = .nilIface from rfl]
    clear he
    go_wp2_with fail
    refine (linear_line S R T ta tn tc _ HL.out (AT.out.below C1.out)).mono ?_
    rintro e w3 ⟨h, b⟩
    have C2 := hide' (C1.out.trans (b.mono C1.out.size))
    have AW2 := hide' ((AW.out.below C1.out).below b)
    clear x0 x1 x2 x3 x4 x5 x6 b
    obtain ⟨x0, x1, x2, x3, x4, x5, x6⟩ := RX.out.next C2.out
    rcases h with ⟨hl, g, rfl, cl, hg⟩ | ⟨hl, rfl⟩
    · have HLP := hide' hl
      have CL := hide' cl
      obtain ⟨m, hm⟩ : ∃ m, 2 * R + 1 = m := ⟨_, rfl⟩
      rw [hm]
      have HM := hide' hm
      clear hl cl hm
      by_cases k0 : k < 0
      · go_wp2
        rw [← HPP.out]
        exact Or.inr (Or.inr (Or.inl ⟨HE.out, HLP.out, by omega, rfl, BB.out.trans (C2.out.mono BB.out.size)⟩))
      · by_cases k1 : (1000000000000000000 : Int) < k
        · go_wp2
          rw [← HPP.out]
          exact Or.inr (Or.inr (Or.inl ⟨HE.out, HLP.out, by omega, rfl, BB.out.trans (C2.out.mono BB.out.size)⟩))
        · obtain ⟨n, rfl⟩ : ∃ n : Nat, k = n := ⟨k.toNat, by omega⟩
          go_wp2_with fail
          refine (JP.out _ g m n HM.out CL.out AW2.out HE.out (by omega)).mono ?_
          rintro e w4 ⟨v, rfl, tb, fr, b⟩
          rw [← RUN.out HE.out HLP.out] at tb
          have TB := hide' tb
          have C3 := hide' (BB.out.trans ((C2.out.trans (b.mono C2.out.size)).mono BB.out.size))
          have FR := hide' (show FreshL w v from fun g k c e => by have := fr g k c e; have := BB.out.size; have := C2.out.size; omega)
          clear tb fr b x0 x1 x2 x3 x4 x5 x6
          go_wp2
          rw [← HPP.out]
          exact Or.inr (Or.inr (Or.inr ⟨HE.out, HLP.out, by omega, by omega, v, rfl, by rw [Int.toNat_natCast]; exact TB.out, FR.out, C3.out⟩))
    · have NL := hide' hl
      clear hl
      go_wp2
      rw [← HPP.out]
      exact Or.inr (Or.inl ⟨HE.out, NL.out, rfl, BB.out.trans (C2.out.mono BB.out.size)⟩)
  · obtain ⟨f, hf⟩ : ∃ f, wordE S ws = f := ⟨_, rfl⟩
    rw [hf] at he ⊢
    rw [show errOf f = .iface 85 (.int .i64 (f : Int)) from by unfold errOf; rw [if_neg he]]
    have HF := hide' hf
    have HE := hide' he
    clear hf he
    go_wp2
    rw [← HPP.out]
    exact Or.inl ⟨by rw [HF.out]; exact HE.out, by rw [HF.out]; exact ⟨rfl, BB.out.trans (C1.out.mono BB.out.size)⟩⟩
end Go.Proofs.YtjjdjdodhedihaaDoor

namespace Go.Proofs.YtjjdjdodhedihaaDoor
open Go.RowKit
set_option linter.unusedVariables false

set_option maxRecDepth 100000 in
set_option maxHeartbeats 12800000 in
theorem far_nil (S R : Nat) (ta : Option Addr) (tn tc : Nat) (v : Value) (wa : Option Addr) (wc : Nat) (k : Int) (w : World) :
    Calls Tryd.prog 22 #[.agg #[.int .i64 2, .int .i64 0, .int .i64 0, .int .i64 (S : Int), .int .i64 (R : Int), .slice ta tn tc, .string ⟨#[]⟩], v, .slice wa 0 wc, .int .i64 k] w fun e w' => e = .returned (.slice none 0 0) ∧ Below w.heap.size w w' := by
  obtain ⟨w1, hw1⟩ : ∃ w1, w.alloc (.cells #[.int .i64 2, .int .i64 0, .int .i64 0, .int .i64 (S : Int), .int .i64 (R : Int), .slice ta tn tc, .string ⟨#[]⟩] 24) = w1 := ⟨_, rfl⟩
  have BB := hide' (show Below w.heap.size w w1 by rw [← hw1]; exact (Below.refl _ _).alloc (Nat.le_refl _) _)
  go_enter Tryd.func22, Tryd.ntmps22
  go_wp2
  go_ret
  exact ⟨rfl, BB.out⟩
def FarAns (xs : List Int) (w : World) (e : Ending) (w' : World) : Prop := (∃ a c, e = .returned (.slice a xs.length c) ∧ ArgP w' xs a xs.length c) ∧ Below w.heap.size w w'
theorem far_any (S R n0 : Nat) (T ws : List Int) (ta : Option Addr) (tn tc : Nat) (ca : Option Addr) (cc : Nat) (wa : Option Addr) (wc : Nat) (w : World) (hL : LineOk S R T) (hlin : LinP S R T) (hC : ArgP w (numL S R T) ca (2 * R + 1) cc) (hW : ArgP w ws wa ws.length wc) (he : wordE S ws = 0) (hn : n0 ≤ 1000000000000000000) :
    Calls Tryd.prog 22 #[.agg #[.int .i64 2, .int .i64 0, .int .i64 0, .int .i64 (S : Int), .int .i64 (R : Int), .slice ta tn tc, .string ⟨#[]⟩], .slice ca (2 * R + 1) cc, .slice wa ws.length wc, .int .i64 (n0 : Int)] w (FarAns (runL S R T n0 ws) w) := by
  obtain ⟨hl, hok⟩ := wordE_zero he
  have s2 := hL.s2
  have e1 : (runL S R T n0 ws).length = ws.length := runL_length S R T ws n0
  rcases Nat.eq_zero_or_pos ws.length with h0 | h0
  · rw [h0]
    refine (far_nil S R ta tn tc _ wa wc _ w).mono ?_
    rintro e w' ⟨h, b⟩
    have z : runL S R T n0 ws = [] := List.length_eq_zero_iff.1 (by rw [e1, h0])
    rw [z]
    exact ⟨⟨none, 0, h, ⟨rfl, by simp, fun k hk => by simp at hk⟩⟩, b⟩
  · obtain ⟨g, off, rfl, _, _⟩ := hW.cells 0 h0
    refine (far_full S R ws.length (2 * R + 1) n0 (numL S R T) ws ta tn tc ca cc ⟨g, off, none⟩ wc w s2 hL.s4 hL.r10 rfl hC (numL_ok hL) hW hok h0 (by omega) hn).mono ?_
    rintro e w' ⟨⟨g', h1, h2⟩, b⟩
    rw [run_sum hL hok hlin n0]
    have e2 : (manyA S R 1 (numL S R T) n0 ws).length = ws.length := manyA_length _ _ _ _ _ _
    refine ⟨⟨some ⟨g', 0, none⟩, ws.length, by rw [e2]; exact h1, ?_⟩, b⟩
    rw [e2]
    exact h2.argP e2 (by unfold maxLen; omega)
end Go.Proofs.YtjjdjdodhedihaaDoor

namespace Go.Proofs.YtjjdjdodhedihaaDoor
set_option linter.unusedVariables false

def sumN (f : Nat → Nat) : Nat → Nat
  | 0 => 0
  | m + 1 => sumN f m + f m
theorem sumN_ext {f g : Nat → Nat} : ∀ m, (∀ i, i < m → f i = g i) → sumN f m = sumN g m
  | 0, _ => rfl
  | m + 1, h => by rw [sumN, sumN, sumN_ext m (fun i hi => h i (by omega)), h m (by omega)]
theorem sumN_const (x : Nat) : ∀ m, sumN (fun _ => x) m = m * x
  | 0 => by simp [sumN]
  | m + 1 => by rw [sumN, sumN_const x m, Nat.add_mul, Nat.one_mul]
theorem sumN_zero : ∀ m, sumN (fun _ => 0) m = 0 := fun m => by rw [sumN_const, Nat.mul_zero]
theorem sumN_term {f : Nat → Nat} : ∀ m j, j < m → f j ≤ sumN f m
  | 0, j, h => by omega
  | m + 1, j, h => by
    rw [sumN]
    rcases Nat.lt_or_ge j m with c | c
    · have := sumN_term (f := f) m j c; omega
    · obtain rfl : j = m := by omega
      omega
theorem sumN_two {f : Nat → Nat} : ∀ m i j, i < j → j < m → f i + f j ≤ sumN f m
  | 0, i, j, _, h => by omega
  | m + 1, i, j, hij, h => by
    rw [sumN]
    rcases Nat.lt_or_ge j m with c | c
    · have := sumN_two (f := f) m i j hij c; omega
    · obtain rfl : j = m := by omega
      have := sumN_term (f := f) j i hij
      omega
theorem sumN_pos {f : Nat → Nat} : ∀ m, 0 < sumN f m → ∃ j, j < m ∧ 0 < f j
  | 0, h => by simp [sumN] at h
  | m + 1, h => by
    rw [sumN] at h
    by_cases c : 0 < f m
    · exact ⟨m, by omega, c⟩
    · obtain ⟨j, h1, h2⟩ := sumN_pos m (show 0 < sumN f m by omega)
      exact ⟨j, by omega, h2⟩
theorem least {P : Nat → Prop} (h : ∃ m, P m) : ∃ m, P m ∧ ∀ k, P k → m ≤ k := by
  obtain ⟨m, hm⟩ := h
  induction m using Nat.strongRecOn with
  | ind m ih =>
    by_cases c : ∃ k, k < m ∧ P k
    · obtain ⟨k, hk, pk⟩ := c
      exact ih k hk pk
    · exact ⟨m, hm, fun k pk => by
        rcases Nat.lt_or_ge k m with q | q
        · exact absurd ⟨k, q, pk⟩ c
        · exact q⟩
theorem most {P : Nat → Prop} (B : Nat) (h : ∃ m, P m) (hb : ∀ m, P m → m ≤ B) : ∃ m, P m ∧ ∀ k, P k → k ≤ m := by
  obtain ⟨d, ⟨m, hm, e⟩, hl⟩ := least (P := fun d => ∃ m, P m ∧ d = B - m) (by obtain ⟨m, hm⟩ := h; exact ⟨B - m, m, hm, rfl⟩)
  refine ⟨m, hm, fun k hk => ?_⟩
  have := hl (B - k) ⟨k, hk, rfl⟩
  have := hb k hk
  have := hb m hm
  omega

/-- How much comes to each place by a letter. -/
def stp (S n : Nat) (T : List Int) (a : Int) (v : Nat → Nat) (q : Nat) : Nat := sumN (fun j => if T.getD j 0 = a ∧ j % n = q then v (j / S) else 0) (n * S)
def act (S n : Nat) (T : List Int) : List Int → (Nat → Nat) → Nat → Nat
  | [], v => v
  | a :: w, v => act S n T w (stp S n T a v)
def one1 : Nat → Nat := fun _ => 1
/-- Of how many words a word comes. -/
def cntN (S n : Nat) (T w : List Int) : Nat := sumN (act S n T w one1) n
theorem act_append (S n : Nat) (T : List Int) : ∀ (a b : List Int) (v : Nat → Nat), act S n T (a ++ b) v = act S n T b (act S n T a v)
  | [], b, v => rfl
  | x :: a, b, v => act_append S n T a b _
theorem cells_nil (S : Int) : cellsOk S [] := fun x hx => by cases hx
theorem cells_app {S : Int} {a b : List Int} (ha : cellsOk S a) (hb : cellsOk S b) : cellsOk S (a ++ b) := fun x hx => by
  rcases List.mem_append.1 hx with h | h
  · exact ha x h
  · exact hb x h
theorem cells_one {S c : Nat} (h : c < S) : cellsOk S [(c : Int)] := fun x hx => by
  rw [List.mem_singleton.1 hx]
  omega
end Go.Proofs.YtjjdjdodhedihaaDoor

namespace Go.Proofs.YtjjdjdodhedihaaDoor
open Go.RowKit Go.Shelf
set_option linter.unusedVariables false
attribute [local go_sem] Oper.semAt_some
attribute [local go_sem] run_store_func

end Go.Proofs.YtjjdjdodhedihaaDoor

namespace Go.Proofs.YtjjdjdodhedihaaDoor
open Go.RowKit
set_option linter.unusedVariables false

def valsI (xs : List Int) : Array Value := (xs.map fun y => Value.int .i64 y).toArray
end Go.Proofs.YtjjdjdodhedihaaDoor

namespace Go.Proofs.YtjjdjdodhedihaaDoor
open Go.RowKit
set_option linter.unusedVariables false

theorem row_of_blk {X : World} {base g m : Nat} {xs : List Int} (h : Blk X g (valsI xs) 3) (hg : base ≤ g) (hm : xs.length = m) (hx : m ≤ maxLen) : X.ownsRow base 3 1 (.slice (some ⟨g, 0, none⟩) m m) m (xs.map fun y => Value.int .i64 y) := by
  refine ⟨by simp [hm], Or.inr ⟨g, m, valsI xs, rfl, hg, h, Nat.le_refl _, hx, by simp [valsI, hm], ?_⟩⟩
  rw [Nat.mul_one]
  show ((xs.map fun y => Value.int .i64 y).toArray.toList).take m = _
  rw [List.toList_toArray]
  exact List.take_of_length_le (by simp [hm])
end Go.Proofs.YtjjdjdodhedihaaDoor

namespace Go.Proofs.YtjjdjdodhedihaaDoor
open Go.RowKit
set_option linter.unusedVariables false

/-- To which pairs unlike cells lead from alike places, so far. -/
def GotTo (S n : Nat) (T : List Int) (p j t : Nat) : Prop := ∃ (p' : Nat) (c : Nat × Nat), (p' < p ∨ (p' = p ∧ c.1 * S + c.2 < j)) ∧ OkWay S T (p', p') c ∧ c.1 ≠ c.2 ∧ codeP S n (p' * n + p') c = t
structure GJ (W : World) (S n p : Nat) (T : List Int) (pf gf B0 j : Nat) (fl : List Bool) : Prop where
  fb : Blk W pf #[.slice (some ⟨gf, 0, none⟩) (n * n) (n * n)] 90
  fc : Blk W gf (fl.map Value.bool).toArray 4
  fl_ : fl.length = n * n
  sp : ∀ t, t < n * n → (fl.getD t false = true ↔ GotTo S n T p j t)
  b1 : B0 ≤ gf
theorem GJ.next {W W' : World} {S n p : Nat} {T : List Int} {pf gf B0 j : Nat} {fl : List Bool} (h : GJ W S n p T pf gf B0 j fl) (b : Below W.heap.size W W') : GJ W' S n p T pf gf B0 j fl :=
  ⟨h.fb.of (b.block _ h.fb.lt), h.fc.of (b.block _ h.fc.lt), h.fl_, h.sp, h.b1⟩
theorem GJ.skip {W : World} {S n p : Nat} {T : List Int} {pf gf B0 j : Nat} {fl : List Bool} (h : GJ W S n p T pf gf B0 j fl) (c : Nat × Nat) (hc : c.2 < S) (hj : j = c.1 * S + c.2) (hno : ¬ (OkWay S T (p, p) c ∧ c.1 ≠ c.2)) : GJ W S n p T pf gf B0 (j + 1) fl := by
  refine ⟨h.fb, h.fc, h.fl_, fun t ht => (h.sp t ht).trans ⟨fun ⟨p', d, q1, q2, q3, q4⟩ => ⟨p', d, by omega, q2, q3, q4⟩, fun ⟨p', d, q1, q2, q3, q4⟩ => ⟨p', d, ?_, q2, q3, q4⟩⟩, h.b1⟩
  rcases q1 with q1 | ⟨rfl, q1⟩
  · exact Or.inl q1
  · rcases Nat.lt_or_ge (d.1 * S + d.2) j with c' | c'
    · exact Or.inr ⟨rfl, c'⟩
    · exact absurd (show OkWay S T (p', p') c ∧ c.1 ≠ c.2 by rw [cell_code hc q2.2.1 (by omega : c.1 * S + c.2 = d.1 * S + d.2)]; exact ⟨q2, q3⟩) hno
theorem GJ.over {W : World} {S n p : Nat} {T : List Int} {pf gf B0 : Nat} {fl : List Bool} (h : GJ W S n p T pf gf B0 (S * S) fl) : GJ W S n (p + 1) T pf gf B0 0 fl := by
  refine ⟨h.fb, h.fc, h.fl_, fun t ht => (h.sp t ht).trans ⟨fun ⟨p', d, q1, q2, q3, q4⟩ => ⟨p', d, by omega, q2, q3, q4⟩, fun ⟨p', d, q1, q2, q3, q4⟩ => ⟨p', d, ?_, q2, q3, q4⟩⟩, h.b1⟩
  have : (d.1 + 1) * S ≤ S * S := Nat.mul_le_mul_right _ q2.1
  rw [Nat.add_mul] at this
  have := q2.2.1
  omega
end Go.Proofs.YtjjdjdodhedihaaDoor

namespace Go.Proofs.YtjjdjdodhedihaaDoor
set_option linter.unusedVariables false

end Go.Proofs.YtjjdjdodhedihaaDoor

namespace Go.Proofs.YtjjdjdodhedihaaDoor
set_option linter.unusedVariables false

end Go.Proofs.YtjjdjdodhedihaaDoor

