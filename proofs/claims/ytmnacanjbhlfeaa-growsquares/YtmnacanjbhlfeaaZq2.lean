/-
  What the last text of this claim leans on, part 2: Gy1, LawGq, Gy2, Gw3, OpenGq.
-/
import Derived.Test.YtmnacanjbhlfeaaZq1
import Derived.Test.YtmnacanjbhlfeaaRows
import Derived.WalkKit
import Derived.ProofKit
import Derived.OpenShut
import Derived.ChangeSame
import Derived.ChangeSlices
import Derived.ChangeMaps5
import Derived.SliceStrings
import Derived.ChangeVars
import Derived.RowKit
import Derived.Carry
namespace Go.Proofs.Ytmnacanjbhlfeaa
open Go.RowKit
set_option linter.unusedVariables false
set_option linter.unusedSimpArgs false
theorem cut_Y (L : List UInt8) (a b : Nat) : (⟨L.toArray⟩ : ByteArray).extract a b = ⟨((L.drop a).take (b - a)).toArray⟩ := by apply ByteArray.ext; simp
theorem wrap_natY {n : Nat} (h : n < 2 ^ 62) : IntKind.i64.wrap (n : Int) = (n : Int) := by simp [IntKind.wrap, IntKind.signed, IntKind.bits]; omega
/-- The last place below k at which two texts are unlike, or -1. -/
def luF (p q : List UInt8) : Nat → Int
  | 0 => -1
  | k + 1 => if p.getD k 0 = q.getD k 0 then luF p q k else (k : Int)
theorem luF_cases (p q : List UInt8) (k : Nat) : (luF p q k = -1 ∧ ∀ j, j < k → p.getD j 0 = q.getD j 0) ∨ ∃ u : Nat, luF p q k = (u : Int) ∧ u < k ∧ p.getD u 0 ≠ q.getD u 0 := by
  induction k with
  | zero => exact Or.inl ⟨rfl, fun j h => by omega⟩
  | succ k ih =>
    by_cases e : p.getD k 0 = q.getD k 0
    · rw [luF, if_pos e]
      rcases ih with ⟨h1, h2⟩ | ⟨u, h1, h2, h3⟩
      · refine Or.inl ⟨h1, fun j h => ?_⟩
        by_cases jk : j = k
        · rw [jk]; exact e
        · exact h2 j (by omega)
      · exact Or.inr ⟨u, h1, by omega, h3⟩
    · rw [luF, if_neg e]
      exact Or.inr ⟨k, rfl, by omega, e⟩
set_option maxRecDepth 100000 in
set_option maxHeartbeats 6400000 in
theorem lastUnlike_any (p q : List UInt8) (w : World) (hp : p.length ≤ 40000) (hq : q.length = p.length) : Calls Try.prog 30 #[.string ⟨p.toArray⟩, .string ⟨q.toArray⟩] w fun e w' => e = .returned (.int .i64 (luF p q p.length)) ∧ ∃ m, w' = w.drewN m := by
  go_enter Try.func30, Try.ntmps30
  go_wp2
  go_loopw [5] (fun iv wr => ∃ (k m : Nat), iv = .int .i64 ((k : Int) - 1) ∧ k ≤ p.length ∧ Hid (luF p q k = luF p q p.length) ∧ wr = w.drewN m) (fun iv _ => (intOf iv + 1).toNat)
  case atStart => exact ⟨p.length, 0, rfl, by omega, hide' rfl, rfl⟩
  case round =>
    obtain ⟨k, m, rfl, hk, HK, rfl⟩ := hrel
    rcases k with _ | u
    · have HM := hide' (HK.out.symm)
      clear HK
      go_wp2
      go_ret
      exact ⟨by rw [HM.out]; rfl, m, rfl⟩
    · rw [show ((u + 1 : Nat) : Int) - 1 = (u : Int) by omega]
      have u0 : (0 : Int) ≤ (u : Int) := by omega
      obtain ⟨g0, G0⟩ := byte_at p (i := u) (by omega)
      obtain ⟨g1, G1⟩ := byte_at q (i := u) (by omega)
      have YES := hide' (fun (h : p.getD u 0 = q.getD u 0) => show luF p q u = luF p q p.length by rw [← HK.out, luF, if_pos h])
      have NO := hide' (fun (h : ¬ p.getD u 0 = q.getD u 0) => show luF p q p.length = (u : Int) by rw [← HK.out, luF, if_neg h])
      obtain ⟨c, hc⟩ : ∃ c, p.getD u 0 = c := ⟨_, rfl⟩
      obtain ⟨c', hc'⟩ : ∃ c, q.getD u 0 = c := ⟨_, rfl⟩
      rw [hc, hc'] at NO YES
      rw [hc] at G0
      rw [hc'] at G1
      clear hc hc' HK
      by_cases e : c = c'
      · have YY := hide' (YES.out e)
        have q' : (c.toNat : Int) = (c'.toNat : Int) := by rw [e]
        clear e YES NO
        go_wp2
        go_quiet (fail)
        all_goals go_wp2
        all_goals exact ⟨⟨u, _, by go_num, by omega, YY, rfl⟩, by simp [intOf]⟩
      · have NN := hide' (NO.out e)
        have q' : ¬ (c.toNat : Int) = (c'.toNat : Int) := fun h => e (UInt8.toNat_inj.1 (by omega))
        clear e YES NO
        go_wp2
        go_quiet (fail)
        all_goals go_wp2
        all_goals go_ret
        all_goals exact ⟨by rw [NN.out]; rfl, _, World.drewN_drewN _ _ _⟩
theorem drewT {w wr : World} (h : ∃ m, wr = w.drewN m) (k : Nat) : ∃ m, wr.drewN k = w.drewN m := by
  obtain ⟨m, rfl⟩ := h
  exact ⟨_, World.drewN_drewN _ _ _⟩
theorem luF_pieces (l : List UInt8) (a s k u : Nat) (h1 : a + k ≤ l.length) (h2 : a + s + k ≤ l.length) (hu : u < k) : (((l.drop a).take k).getD u 0 = l.getD (a + u) 0) ∧ (((l.drop (a + s)).take k).getD u 0 = l.getD (a + s + u) 0) := by
  simp [List.getD, List.getElem?_take, hu, List.getElem?_drop]
/-- What comesAgain answers. -/
def CaO (l : List UInt8) (s k : Nat) (e : Ending) : Prop :=
  (∃ a : Nat, a + s + k ≤ l.length ∧ smL l a (a + s) k ∧ (∀ a', a' < a → ¬ smL l a' (a' + s) k) ∧ e = .returned (.tuple #[.int .i64 (a : Int), .bool true]))
  ∨ ((∀ a', a' + s + k ≤ l.length → ¬ smL l a' (a' + s) k) ∧ e = .returned (.tuple #[.int .i64 0, .bool false]))
set_option maxRecDepth 100000 in
set_option maxHeartbeats 6400000 in
theorem comesAgain_any (l : List UInt8) (s k : Nat) (w : World) (hl : l.length ≤ 40000) (hs : s ≤ 40000) (hk1 : 1 ≤ k) (hk : k ≤ 40001) : Calls Try.prog 20 #[.string ⟨l.toArray⟩, .int .i64 (s : Int), .int .i64 (k : Int)] w fun e w' => CaO l s k e ∧ ∃ m, w' = w.drewN m := by
  go_enter Try.func20, Try.ntmps20
  go_wp2
  go_loopw [8, 9] (fun av _ wr => ∃ (a : Nat), av = .int .i64 (a : Int) ∧ a ≤ l.length ∧ Hid (∀ a', a' < a → ¬ smL l a' (a' + s) k) ∧ Hid (∃ m, wr = w.drewN m)) (fun av _ _ => l.length - (intOf av).toNat)
  case atStart => exact ⟨0, rfl, by omega, hide' fun j h => by omega, hide' ⟨0, rfl⟩⟩
  case round =>
    obtain ⟨a, rfl, ha, HA, HW⟩ := hrel
    by_cases d : (a : Int) + (s : Int) + (k : Int) ≤ (l.length : Int)
    · have LU := hide' (fun (p q : List UInt8) (hp : p = (l.drop a).take k) (hq : q = (l.drop (a + s)).take k) (V : World) => lastUnlike_any p q V (by rw [hp, List.length_take]; omega) (by rw [hp, hq, List.length_take, List.length_take, List.length_drop, List.length_drop]; omega))
      have LN := hide' (show ((l.drop a).take k).length = k by rw [List.length_take, List.length_drop]; omega)
      have CS := hide' (luF_cases ((l.drop a).take k) ((l.drop (a + s)).take k) k)
      have PC := hide' (fun u (h : u < k) => luF_pieces l a s k u (by omega) (by omega) h)
      have x1 : (⟨l.toArray⟩ : ByteArray).extract a (a + k) = ⟨((l.drop a).take k).toArray⟩ := by rw [cut_Y, show a + k - a = k by omega]
      have x2 : (⟨l.toArray⟩ : ByteArray).extract (a + s) (a + s + k) = ⟨((l.drop (a + s)).take k).toArray⟩ := by rw [cut_Y, show a + s + k - (a + s) = k by omega]
      obtain ⟨p, hp⟩ : ∃ p, (l.drop a).take k = p := ⟨_, rfl⟩
      obtain ⟨q, hq⟩ : ∃ q, (l.drop (a + s)).take k = q := ⟨_, rfl⟩
      rw [hp] at x1 CS LN PC
      rw [hq] at x2 CS PC
      have LU2 := hide' (LU.out p q hp.symm hq.symm)
      rw [LN.out] at LU2
      clear LU hp hq
      obtain ⟨b, hb⟩ : ∃ b, a + k = b := ⟨_, rfl⟩
      obtain ⟨c, hc⟩ : ∃ c, a + s = c := ⟨_, rfl⟩
      obtain ⟨f, hf⟩ : ∃ f, c + k = f := ⟨_, rfl⟩
      rw [hb] at x1
      rw [hc, hf] at x2
      have e1 : (a : Int) + (k : Int) = (b : Int) := by omega
      have e2 : (a : Int) + (s : Int) = (c : Int) := by omega
      have e3 : (c : Int) + (k : Int) = (f : Int) := by omega
      have fl : f ≤ l.length := by omega
      have bl : b ≤ l.length := by omega
      have ab : a ≤ b := by omega
      have cf : c ≤ f := by omega
      have HB := hide' (And.intro hb (And.intro hc hf))
      have b4 : (b : Int) ≤ 40000 := by omega
      have c4 : (c : Int) ≤ 40000 := by omega
      have f4 : (f : Int) ≤ 40000 := by omega
      have a0 : (0 : Int) ≤ (a : Int) := by omega
      have c0 : (0 : Int) ≤ (c : Int) := by omega
      have b0 : (0 : Int) ≤ (b : Int) := by omega
      have f0 : (0 : Int) ≤ (f : Int) := by omega
      have ab' : (a : Int) ≤ (b : Int) := by omega
      have cf' : (c : Int) ≤ (f : Int) := by omega
      have bl' : (b : Int) ≤ (l.length : Int) := by omega
      have fl' : (f : Int) ≤ (l.length : Int) := by omega
      clear hb hc hf
      have wb : IntKind.i64.wrap (b : Int) = (b : Int) := wrap_natY (by omega)
      have wc : IntKind.i64.wrap (c : Int) = (c : Int) := wrap_natY (by omega)
      have wf : IntKind.i64.wrap (f : Int) = (f : Int) := wrap_natY (by omega)
      rcases CS.out with ⟨h1, h2⟩ | ⟨u, h1, h2, h3⟩
      · rw [h1] at LU2
        have YY := hide' (show smL l a (a + s) k from fun j hj => by rw [← (PC.out j hj).1, ← (PC.out j hj).2]; exact h2 j hj)
        clear h1 h2 CS
        go_wp2
        go_quiet ((go_at_call 30; exact Calls.quiet_of (LU2.out _)))
        all_goals go_wp2
        all_goals go_ret2
        all_goals exact ⟨Or.inl ⟨a, by omega, YY.out, HA.out, rfl⟩, drewT HW.out _⟩
      · rw [h1] at LU2
        have NN := hide' (show ∀ a', a' < a + u + 1 → ¬ smL l a' (a' + s) k from fun a' h' sm => by
          by_cases q : a' < a
          · exact HA.out a' q sm
          · have := sm (a + u - a') (by omega)
            rw [show a' + (a + u - a') = a + u by omega, show a' + s + (a + u - a') = a + s + u by omega] at this
            exact h3 (by rw [(PC.out u h2).1, (PC.out u h2).2]; exact this))
        clear h1 h3 CS
        go_wp2
        go_quiet ((go_at_call 30; exact Calls.quiet_of (LU2.out _)))
        all_goals go_wp2
        all_goals exact ⟨⟨a + u + 1, by go_num, by omega, NN, hide' (drewT HW.out _)⟩, by simp [intOf]; omega⟩
    · have NN := hide' (show ∀ a', a' + s + k ≤ l.length → ¬ smL l a' (a' + s) k from fun a' h' => HA.out a' (by omega))
      go_wp2
      go_ret2
      exact ⟨Or.inr ⟨NN.out, rfl⟩, HW.out⟩
end Go.Proofs.Ytmnacanjbhlfeaa

namespace Go.Proofs.Ytmnacanjbhlfeaa
open Go.RowKit
set_option linter.unusedVariables false
set_option linter.unusedSimpArgs false
theorem rpL_only {l : List UInt8} {m e n e' n' : Nat} (h1 : rpL l m e n) (h2 : noR l m e) (h3 : noS l m e n) (k1 : rpL l m e' n') (k2 : noR l m e') (k3 : noS l m e' n') : e = e' ∧ n = n' := by
  have q : e = e' := by
    rcases Nat.lt_trichotomy e e' with q | q | q
    · exact absurd h1 (k2 e n q)
    · exact q
    · exact absurd k1 (h2 e' n' q)
  subst q
  refine ⟨rfl, ?_⟩
  rcases Nat.lt_trichotomy n n' with q | q | q
  · exact absurd h1 (k3 n q)
  · exact q
  · exact absurd k1 (h3 n' q)
/-- There is one answer. -/
theorem RepOut.only {l : List UInt8} {m : Nat} {o o' : Ending} (h : RepOut l m o) (h' : RepOut l m o') : o = o' := by
  rcases h with ⟨e, n, he, h1, h2, h3, h4, rfl⟩ | ⟨h1, rfl⟩
  · rcases h' with ⟨e', n', he', k1, k2, k3, k4, rfl⟩ | ⟨k1, rfl⟩
    · obtain ⟨rfl, rfl⟩ := rpL_only h1 h2 h3 k1 k2 k3; rfl
    · rcases k1 with k | k
      · omega
      · exact absurd h1 (k e n (by omega))
  · rcases h' with ⟨e', n', he', k1, k2, k3, k4, rfl⟩ | ⟨k1, rfl⟩
    · rcases h1 with k | k
      · omega
      · exact absurd k1 (k e' n' (by omega))
    · rfl
theorem RepOut.form {l : List UInt8} {m : Nat} {o : Ending} (h : RepOut l m o) : ∃ (x y : Int) (z : Bool), o = .returned (.tuple #[.int .i64 x, .int .i64 y, .bool z]) := by
  rcases h with ⟨e, n, he, h1, h2, h3, h4, rfl⟩ | ⟨h1, rfl⟩
  · exact ⟨_, _, _, rfl⟩
  · exact ⟨_, _, _, rfl⟩
set_option maxRecDepth 100000 in
set_option maxHeartbeats 12800000 in
theorem law_squares_of (l : List UInt8) (w : World) (hl : l.length ≤ maxLen)
    (hS : ∀ V, Below w.heap.size w V → Calls Try.prog 5 #[.string ⟨l.toArray⟩] V fun e w' => RepOut l 0 e ∧ Below V.heap.size V w')
    (hO : ∀ V, Below w.heap.size w V → Calls Try.prog 7 #[.string ⟨l.toArray⟩] V fun e w' => RepOut l 1 e ∧ Below V.heap.size V w') :
    Calls Try.prog 3 #[.string ⟨l.toArray⟩] w fun e w' => e = .returned (.bool true) ∧ Below w.heap.size w w' := by
  have R0 := hide' (fun (V : World) => show Calls Try.prog 6 #[.string ⟨l.toArray⟩, .int .i64 0] V fun e w' => RepOut l 0 e ∧ Below V.heap.size V w' from refRepeat_any l 0 V hl (by omega))
  have R1 := hide' (fun (V : World) => show Calls Try.prog 6 #[.string ⟨l.toArray⟩, .int .i64 1] V fun e w' => RepOut l 1 e ∧ Below V.heap.size V w' from refRepeat_any l 1 V hl (by omega))
  have HS := hide' hS
  have HO := hide' hO
  clear hS hO
  go_enter Try.func3, Try.ntmps3
  go_wp2_with fail
  refine (HS.out w (Below.refl _ _)).mono ?_
  rintro e1 w1 ⟨r1, b1⟩
  obtain ⟨x, y, z, rfl⟩ := r1.form
  have B1 := hide' b1
  have O1 := hide' r1
  clear b1 r1
  go_wp2_with fail
  refine (R0.out w1).mono ?_
  rintro e2 w2 ⟨r2, b2⟩
  obtain rfl := O1.out.only r2
  have B2 := hide' (B1.out.trans (b2.mono B1.out.size))
  clear b2 r2 O1
  cases z <;>
  · go_wp2_with fail
    refine (HO.out w2 B2.out).mono ?_
    rintro e3 w3 ⟨r3, b3⟩
    obtain ⟨x', y', z', rfl⟩ := r3.form
    have B3 := hide' (B2.out.trans (b3.mono B2.out.size))
    have O3 := hide' r3
    clear b3 r3
    go_wp2_with fail
    refine (R1.out w3).mono ?_
    rintro e4 w4 ⟨r4, b4⟩
    obtain rfl := O3.out.only r4
    have B4 := hide' (B3.out.trans (b4.mono B3.out.size))
    clear b4 r4 O3
    cases z' <;>
    · go_wp2
      go_ret
      exact ⟨rfl, B4.out⟩
end Go.Proofs.Ytmnacanjbhlfeaa

namespace Go.Proofs.Ytmnacanjbhlfeaa
open Go.RowKit
set_option linter.unusedVariables false
set_option linter.unusedSimpArgs false
theorem smL_take {l : List UInt8} {t a b n : Nat} (ha : a + n ≤ t) (hb : b + n ≤ t) : smL (l.take t) a b n ↔ smL l a b n := by
  unfold smL
  refine forall_congr' fun j => ?_
  constructor
  · intro h hj
    have := h hj
    simpa [List.getD, List.getElem?_take, show a + j < t by omega, show b + j < t by omega] using this
  · intro h hj
    have := h hj
    simpa [List.getD, List.getElem?_take, show a + j < t by omega, show b + j < t by omega] using this
/-- How far the search is: texts cut to t letters, lengths below s tried. -/
def TwS (l : List UInt8) (m t b n s : Nat) : Prop :=
  t ≤ l.length ∧ 1 ≤ s ∧ (∀ e' n', n' < s → e' ≤ t → ¬ rpL l m e' n') ∧
  ((n = 0 ∧ b = 0 ∧ t = l.length) ∨ (1 ≤ n ∧ n < s ∧ b + 2 * n + m = t + 1 ∧ t + 1 ≤ l.length ∧ rpL l m (t + 1) n ∧ noS l m (t + 1) n))
theorem TwS.first (l : List UInt8) (m : Nat) : TwS l m l.length 0 0 1 :=
  ⟨Nat.le_refl _, Nat.le_refl _, fun e' n' h _ r => by have := r.1; omega, Or.inl ⟨rfl, rfl, rfl⟩⟩
theorem TwS.found {l : List UInt8} {m t b n s a : Nat} (h : TwS l m t b n s) (h1 : a + s + (s + m) ≤ t) (h2 : smL (l.take t) a (a + s) (s + m)) (h3 : ∀ a', a' < a → ¬ smL (l.take t) a' (a' + s) (s + m)) : TwS l m (a + 2 * s + m - 1) a s (s + 1) := by
  obtain ⟨ht, hs, hn, hc⟩ := h
  have r : rpL l m (a + 2 * s + m) s := ⟨hs, by omega, by rw [show a + 2 * s + m - 2 * s - m = a by omega]; exact (smL_take (by omega) (by omega)).1 h2⟩
  refine ⟨by omega, by omega, fun e' n' hn' he' r' => ?_, Or.inr ⟨hs, by omega, by omega, by omega, ?_, ?_⟩⟩
  · by_cases q : n' < s
    · exact hn e' n' q (by omega) r'
    · obtain rfl : n' = s := by omega
      obtain ⟨p1, p2, p3⟩ := r'
      exact h3 (e' - 2 * n' - m) (by omega) ((smL_take (by omega) (by omega)).2 p3)
  · rw [show a + 2 * s + m - 1 + 1 = a + 2 * s + m by omega]; exact r
  · rw [show a + 2 * s + m - 1 + 1 = a + 2 * s + m by omega]
    intro n' hn'
    exact hn _ n' hn' (by omega)
theorem TwS.none {l : List UInt8} {m t b n s : Nat} (h : TwS l m t b n s) (h3 : ∀ a', a' + s + (s + m) ≤ (l.take t).length → ¬ smL (l.take t) a' (a' + s) (s + m)) : TwS l m t b n (s + 1) := by
  obtain ⟨ht, hs, hn, hc⟩ := h
  have lt : (l.take t).length = t := by rw [List.length_take]; omega
  refine ⟨ht, by omega, fun e' n' hn' he' r' => ?_, ?_⟩
  · by_cases q : n' < s
    · exact hn e' n' q (by omega) r'
    · obtain rfl : n' = s := by omega
      obtain ⟨p1, p2, p3⟩ := r'
      exact h3 (e' - 2 * n' - m) (by omega) ((smL_take (by omega) (by omega)).2 p3)
  · rcases hc with c | ⟨c1, c2, c3⟩
    · exact Or.inl c
    · exact Or.inr ⟨c1, by omega, c3⟩
theorem TwS.out {l : List UInt8} {m t b n s : Nat} (h : TwS l m t b n s) (hl : l.length ≤ 40000) (hd : t < 2 * s + m) : RepOut l m (.returned (.tuple #[.int .i64 (b : Int), .int .i64 (n : Int), .bool (decide (0 < n))])) := by
  obtain ⟨ht, hs, hn, hc⟩ := h
  have no : noR l m (t + 1) := fun e' n' he' r' => by
    by_cases q : n' < s
    · exact hn e' n' q (by omega) r'
    · have := r'.2.1; omega
  rcases hc with ⟨rfl, rfl, rfl⟩ | ⟨c1, c2, c3, c4, c5, c6⟩
  · exact Or.inr ⟨Or.inr no, rfl⟩
  · refine Or.inl ⟨t + 1, n, c4, c5, no, c6, hl, ?_⟩
    rw [show t + 1 - 2 * n - m = b by omega, decide_eq_true (show 0 < n by omega)]
set_option maxRecDepth 100000 in
set_option maxHeartbeats 6400000 in
theorem twice_any (l : List UInt8) (m : Nat) (w : World) (hl : l.length ≤ maxLen) (hm : m ≤ 1) : Calls Try.prog 11 #[.string ⟨l.toArray⟩, .int .i64 (m : Int)] w fun e w' => RepOut l m e ∧ Below w.heap.size w w' := by
  have HL := hide' hl
  clear hl
  go_enter Try.func11, Try.ntmps11
  have hx := HL.out
  unfold maxLen at hx
  by_cases big : (40000 : Int) < (l.length : Int)
  · have BG := hide' (show 40000 < l.length by omega)
    go_wp2
    go_ret3
    exact ⟨Or.inr ⟨Or.inl BG.out, rfl⟩, Below.refl _ _⟩
  · have l4 : l.length ≤ 40000 := by omega
    clear hx
    go_wp2
    go_loopw [0, 7, 8, 9, 10, 11] (fun tv bv nv sv _ _ wr => ∃ (t b n s : Nat), tv = .string ⟨(l.take t).toArray⟩ ∧ bv = .int .i64 (b : Int) ∧ nv = .int .i64 (n : Int) ∧ sv = .int .i64 (s : Int) ∧ Hid (TwS l m t b n s) ∧ s ≤ 40001 ∧ b ≤ 40000 ∧ n ≤ 40000 ∧ t ≤ 40000 ∧ Hid (Below w.heap.size w wr)) (fun _ _ _ sv _ _ _ => 40001 - (intOf sv).toNat)
    case atStart => exact ⟨l.length, 0, 0, 1, by rw [List.take_length], rfl, rfl, rfl, hide' (TwS.first l m), by omega, by omega, by omega, by omega, hide' (Below.refl _ _)⟩
    case round =>
      obtain ⟨t, b, n, s, rfl, rfl, rfl, rfl, TS, s4, b4, n4, t4, BW⟩ := hrel
      have LT := hide' (show (l.take t).length = t by rw [List.length_take]; have := TS.out.1; omega)
      have CC := hide' (fun (k : Nat) (hk1 : 1 ≤ k) (hk : k ≤ 40001) (hs : s ≤ 40000) (V : World) => comesAgain_any (l.take t) s k V (by rw [LT.out]; exact t4) hs hk1 hk)
      have CU := hide' (fun a b (_ : a ≤ b) => cut_Y (l.take t) a b)
      have TT := hide' (fun u (h : u ≤ t) => show (l.take t).take u = l.take u by rw [List.take_take]; congr 1; omega)
      have FO := hide' (fun a (h : a + s + (s + m) ≤ (l.take t).length) h2 h3 => TS.out.found (a := a) (by rw [LT.out] at h; exact h) h2 h3)
      have NO := hide' (fun h3 => TS.out.none h3)
      have EN := hide' (fun h => TS.out.out l4 h)
      have s1 : 1 ≤ s := TS.out.2.1
      clear TS
      obtain ⟨q, hq⟩ : ∃ q, l.take t = q := ⟨_, rfl⟩
      rw [hq] at LT CC CU TT FO NO ⊢
      have HQ := hide' hq
      clear hq
      have lq := LT.out
      obtain ⟨k, hk⟩ : ∃ k, s + m = k := ⟨_, rfl⟩
      rw [hk] at FO NO
      have ek : (s : Int) + (m : Int) = (k : Int) := by omega
      have dd : 2 * s + m ≤ t ↔ 2 * (s : Int) + (m : Int) ≤ (q.length : Int) := by omega
      by_cases d : 2 * (s : Int) + (m : Int) ≤ (q.length : Int)
      · have CC2 := hide' (CC.out k (by omega) (by omega) (by omega))
        have kb : k ≤ 40001 := by omega
        have HK := hide' hk
        clear hk dd
        go_wp2_with fail
        refine (CC2.out _).mono ?_
        rintro o w3 ⟨r, wm⟩
        have B3 := hide' (show Below w.heap.size w w3 by obtain ⟨x, rfl⟩ := wm; exact drewG BW.out _)
        clear wm
        rcases r with ⟨a, h1, h2, h3, rfl⟩ | ⟨h1, rfl⟩
        · have TS := hide' (FO.out a h1 h2 h3)
          have a4 : a ≤ 40000 := by omega
          have ksm : k = s + m := HK.out.symm
          obtain ⟨u, hu⟩ : ∃ u, a + 2 * s + m - 1 = u := ⟨_, rfl⟩
          have eu : (a : Int) + 2 * (s : Int) + (m : Int) - 1 = (u : Int) := by omega
          have ut : u ≤ q.length := by omega
          have u0 : (0 : Int) ≤ (u : Int) := by omega
          have ul : (u : Int) ≤ (q.length : Int) := by omega
          have XC := hide' (show (⟨q.toArray⟩ : ByteArray).extract 0 u = ⟨(l.take u).toArray⟩ by rw [CU.out 0 u (by omega)]; simp only [List.drop_zero, Nat.sub_zero]; rw [TT.out u (by omega)])
          have xc := XC.out
          rw [hu] at TS
          clear h2 h3 hu ksm
          go_wp2
          exact ⟨⟨u, a, s, s + 1, by go_num, rfl, rfl, by go_num, TS, by omega, by omega, by omega, by omega, B3⟩, by simp [intOf]; omega⟩
        · have TS := hide' (NO.out h1)
          clear h1
          go_wp2
          exact ⟨⟨t, b, n, s + 1, by rw [HQ.out], rfl, rfl, by go_num, TS, by omega, by omega, by omega, by omega, B3⟩, by simp [intOf]; omega⟩
      · have E := hide' (EN.out (by omega))
        go_wp2
        go_ret3
        exact ⟨E.out, BW.out⟩
theorem Square_any (l : List UInt8) (w : World) (hl : l.length ≤ maxLen) : Calls Try.prog 5 #[.string ⟨l.toArray⟩] w fun e w' => RepOut l 0 e ∧ Below w.heap.size w w' := by
  have T := hide' (twice_any l 0 w hl (by omega))
  clear hl
  go_enter Try.func5, Try.ntmps5
  go_wp2_with fail
  refine T.out.mono ?_
  rintro o w3 ⟨r, b3⟩
  obtain ⟨x, y, z, rfl⟩ := r.form
  have R := hide' r
  clear r
  go_wp2
  go_ret3
  exact ⟨R.out, b3⟩
theorem Overlap_any (l : List UInt8) (w : World) (hl : l.length ≤ maxLen) : Calls Try.prog 7 #[.string ⟨l.toArray⟩] w fun e w' => RepOut l 1 e ∧ Below w.heap.size w w' := by
  have T := hide' (twice_any l 1 w hl (by omega))
  clear hl
  go_enter Try.func7, Try.ntmps7
  go_wp2_with fail
  refine T.out.mono ?_
  rintro o w3 ⟨r, b3⟩
  obtain ⟨x, y, z, rfl⟩ := r.form
  have R := hide' r
  clear r
  go_wp2
  go_ret3
  exact ⟨R.out, b3⟩
end Go.Proofs.Ytmnacanjbhlfeaa

namespace Go.Proofs.Ytmnacanjbhlfeaa
open Go.RowKit
set_option linter.unusedVariables false
set_option linter.unusedSimpArgs false
end Go.Proofs.Ytmnacanjbhlfeaa

namespace Go.Proofs.Ytmnacanjbhlfeaa
open Go.ChangeShapes Go.WideShapes Go.ChangeAt Go.RowKit
open Go.ChangeMaps (setBlock shut_map_nil open_string shut_string keptBut_setBlock frozen?_setBlock heap_setBlock_same)
set_option linter.unusedVariables false
theorem ownX : ownKnob Try.prog.godebug = none := by kernel_rfl
/-- A text that came in. -/
theorem open_textX {H : Type} {enc : TypeId × Value → H} {W : World} {base : Nat} {v : Value} {d : DataW H} {p : List MemPlace}
    (hv : Value.okWide Try.prog W .any base 9 v) (h : DataW.Trod enc Try.prog W 0 (fun _ => true) true 9 v d p) :
    ∃ l : List UInt8, v = .string ⟨l.toArray⟩ ∧ d = .lit (.string l) ∧ p = [] ∧ l.length ≤ maxLen := by
  obtain ⟨s, rfl, rfl, rfl, hs⟩ := open_string Try.underlying9 hv h
  exact ⟨s.data.toList, by simp, rfl, rfl, by simpa using hs⟩
theorem shut_textX {H : Type} {enc : TypeId × Value → H} {W : World} {base : Nat} {sp : Nat → Bool} {held : Bool} {l : List UInt8} (hl : l.length ≤ maxLen) : DataW.Trod enc Try.prog W base sp held 9 (.string ⟨l.toArray⟩) (.lit (.string l)) [] := by
  have := shut_string (H := H) (enc := enc) (P := Try.prog) (w := W) (base := base) (sp := sp) (held := held) (s := ⟨l.toArray⟩) Try.underlying9 (show l.toArray.size ≤ maxLen by simpa using hl)
  simpa using this
end Go.Proofs.Ytmnacanjbhlfeaa

