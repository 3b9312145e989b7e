/-
  What the last text of this claim leans on, part 3: Ha1, Hv1.
-/
import Derived.Test.YtemhcpldflcfbaaGreatDoorYf2
namespace Go.Proofs.YtemhcpldflcfbaaGreatDoor
set_option linter.unusedVariables false
structure Sq where
 a : Nat
 b : Nat
 c : Nat
 d : Nat
 k : Nat
 l : Int
def zQ : Sq := ⟨0, 0, 0, 0, 0, 0⟩
def sqA (qs : List Sq) (i : Nat) : Sq := qs.getD i zQ
def sideI (n : Nat) : Int := 8 * 2 ^ n
theorem sideI_next (n : Nat) : sideI (n + 1) = 2 * sideI n := by unfold sideI; rw [Int.pow_succ]; omega
theorem sideI_pos (n : Nat) : 8 ≤ sideI n := by
 induction n with
 | zero => decide
 | succ n ih => rw [sideI_next]; omega
def bitQ (k : Nat) (x y : Int) : Int := if 0 ≤ x ∧ x < 8 ∧ 0 ≤ y ∧ y < 8 then ((k / 2 ^ (8 * y + x).toNat % 2 : Nat) : Int) else 0
def valQ (qs : List Sq) : Nat → Nat → Int → Int → Int
 | 0, t, x, y => bitQ (sqA qs t).k x y
 | n + 1, t, x, y => valQ qs n (sqA qs t).a x y + valQ qs n (sqA qs t).b (x - sideI n) y + valQ qs n (sqA qs t).c x (y - sideI n) + valQ qs n (sqA qs t).d (x - sideI n) (y - sideI n)
def WFQ (qs : List Sq) : Nat → Nat → Prop
 | 0, t => t = 0 ∨ (t < qs.length ∧ (sqA qs t).k ≠ 0 ∧ (sqA qs t).k < 2 ^ 64)
 | n + 1, t => t = 0 ∨ (t < qs.length ∧ (sqA qs t).k = 0 ∧ ((sqA qs t).a ≠ 0 ∨ (sqA qs t).b ≠ 0 ∨ (sqA qs t).c ≠ 0 ∨ (sqA qs t).d ≠ 0) ∧ WFQ qs n (sqA qs t).a ∧ WFQ qs n (sqA qs t).b ∧ WFQ qs n (sqA qs t).c ∧ WFQ qs n (sqA qs t).d)
def StQ (qs : List Sq) : Prop := 0 < qs.length ∧ (sqA qs 0).a = 0 ∧ (sqA qs 0).b = 0 ∧ (sqA qs 0).c = 0 ∧ (sqA qs 0).d = 0 ∧ (sqA qs 0).k = 0
theorem bit_out {k : Nat} {x y : Int} (h : ¬ (0 ≤ x ∧ x < 8 ∧ 0 ≤ y ∧ y < 8)) : bitQ k x y = 0 := by unfold bitQ; rw [if_neg h]
theorem bit_nil (x y : Int) : bitQ 0 x y = 0 := by unfold bitQ; split <;> simp
theorem bit_le (k : Nat) (x y : Int) : 0 ≤ bitQ k x y ∧ bitQ k x y ≤ 1 := by unfold bitQ; split <;> omega
theorem val_nil {qs : List Sq} (h : StQ qs) : ∀ n x y, valQ qs n 0 x y = 0
 | 0, x, y => by unfold valQ; rw [h.2.2.2.2.2]; exact bit_nil x y
 | n + 1, x, y => by
  unfold valQ
  rw [h.2.1, h.2.2.1, h.2.2.2.1, h.2.2.2.2.1, val_nil h n, val_nil h n, val_nil h n, val_nil h n]; rfl
theorem val_out {qs : List Sq} : ∀ n t x y, ¬ (0 ≤ x ∧ x < sideI n ∧ 0 ≤ y ∧ y < sideI n) → valQ qs n t x y = 0
 | 0, t, x, y, h => by unfold valQ; exact bit_out (by simpa [sideI] using h)
 | n + 1, t, x, y, h => by
  have s := sideI_next n
  have p := sideI_pos n
  unfold valQ
  rw [val_out n _ x y (by omega), val_out n _ (x - sideI n) y (by omega), val_out n _ x (y - sideI n) (by omega), val_out n _ (x - sideI n) (y - sideI n) (by omega)]; rfl
theorem val_le {qs : List Sq} : ∀ n t x y, 0 ≤ valQ qs n t x y ∧ valQ qs n t x y ≤ 1
 | 0, t, x, y => by unfold valQ; exact bit_le _ _ _
 | n + 1, t, x, y => by
  have p := sideI_pos n
  unfold valQ
  have h1 := val_le (qs := qs) n (sqA qs t).a x y
  have h2 := val_le (qs := qs) n (sqA qs t).b (x - sideI n) y
  have h3 := val_le (qs := qs) n (sqA qs t).c x (y - sideI n)
  have h4 := val_le (qs := qs) n (sqA qs t).d (x - sideI n) (y - sideI n)
  by_cases a : x < sideI n <;> by_cases b : y < sideI n
  ·rw [val_out n (sqA qs t).b (x - sideI n) y (by omega), val_out n (sqA qs t).c x (y - sideI n) (by omega), val_out n (sqA qs t).d (x - sideI n) (y - sideI n) (by omega)]; omega
  ·rw [val_out n (sqA qs t).a x y (by omega), val_out n (sqA qs t).b (x - sideI n) y (by omega), val_out n (sqA qs t).d (x - sideI n) (y - sideI n) (by omega)]; omega
  ·rw [val_out n (sqA qs t).a x y (by omega), val_out n (sqA qs t).c x (y - sideI n) (by omega), val_out n (sqA qs t).d (x - sideI n) (y - sideI n) (by omega)]; omega
  ·rw [val_out n (sqA qs t).a x y (by omega), val_out n (sqA qs t).b (x - sideI n) y (by omega), val_out n (sqA qs t).c x (y - sideI n) (by omega)]; omega
theorem sqA_old {qs ms : List Sq} {t : Nat} (h : t < qs.length) : sqA (qs ++ ms) t = sqA qs t := by
 unfold sqA; rw [List.getD_eq_getElem?_getD, List.getElem?_append_left h, List.getD_eq_getElem?_getD]
theorem sqA_new {qs : List Sq} (q : Sq) : sqA (qs ++ [q]) qs.length = q := by
 unfold sqA; simp [List.getD_eq_getElem?_getD]
theorem StQ.app {qs : List Sq} (h : StQ qs) (ms : List Sq) : StQ (qs ++ ms) := by
 have e := sqA_old (ms := ms) h.1
 exact ⟨by rw [List.length_append]; have := h.1; omega, by rw [e]; exact h.2.1, by rw [e]; exact h.2.2.1, by rw [e]; exact h.2.2.2.1, by rw [e]; exact h.2.2.2.2.1, by rw [e]; exact h.2.2.2.2.2⟩
theorem WFQ.lt {qs : List Sq} (hS : StQ qs) {n t : Nat} (h : WFQ qs n t) : t < qs.length := by
 cases n with
 | zero => rcases h with rfl | h; exact hS.1; exact h.1
 | succ n => rcases h with rfl | h; exact hS.1; exact h.1
theorem WFQ.app {qs : List Sq} (ms : List Sq) : ∀ {n t : Nat}, WFQ qs n t → WFQ (qs ++ ms) n t
 | 0, t, h => by
  rcases h with h | ⟨h1, h2⟩
  ·exact Or.inl h
  ·exact Or.inr ⟨by rw [List.length_append]; omega, by rw [sqA_old h1]; exact h2⟩
 | n + 1, t, h => by
  rcases h with h | ⟨h1, h2, h3, a, b, c, d⟩
  ·exact Or.inl h
  ·refine Or.inr ⟨by rw [List.length_append]; omega, ?_⟩
   rw [sqA_old h1]
   exact ⟨h2, h3, a.app ms, b.app ms, c.app ms, d.app ms⟩
theorem WFQ.val {qs : List Sq} (hS : StQ qs) (ms : List Sq) : ∀ {n t : Nat}, WFQ qs n t → ∀ x y, valQ (qs ++ ms) n t x y = valQ qs n t x y
 | 0, t, h, x, y => by
  unfold valQ; rw [sqA_old (h.lt hS)]
 | n + 1, t, h, x, y => by
  rcases h with rfl | ⟨h1, h2, h3, a, b, c, d⟩
  ·rw [val_nil hS, val_nil (hS.app ms)]
  ·unfold valQ; rw [sqA_old h1, a.val hS ms, b.val hS ms, c.val hS ms, d.val hS ms]
theorem WFQ.level {qs : List Sq} : ∀ {n m t : Nat}, t ≠ 0 → WFQ qs n t → WFQ qs m t → n = m
 | 0, 0, t, _, _, _ => rfl
 | 0, m + 1, t, h0, h, k => by
  rcases h with h | h
  ·exact absurd h h0
  ·rcases k with k | k
   ·exact absurd k h0
   ·exact absurd k.2.1 h.2.1
 | n + 1, 0, t, h0, h, k => by
  rcases h with h | h
  ·exact absurd h h0
  ·rcases k with k | k
   ·exact absurd k h0
   ·exact absurd h.2.1 k.2.1
 | n + 1, m + 1, t, h0, h, k => by
  rcases h with h | ⟨_, _, h, a, b, c, d⟩
  ·exact absurd h h0
  ·rcases k with k | ⟨_, _, k, a', b', c', d'⟩
   ·exact absurd k h0
   ·rcases h with h | h | h | h
    ·rw [WFQ.level h a a']
    ·rw [WFQ.level h b b']
    ·rw [WFQ.level h c c']
    ·rw [WFQ.level h d d']
theorem val_step (qs : List Sq) (n t : Nat) (x y : Int) : valQ qs (n + 1) t x y = valQ qs n (sqA qs t).a x y + valQ qs n (sqA qs t).b (x - sideI n) y + valQ qs n (sqA qs t).c x (y - sideI n) + valQ qs n (sqA qs t).d (x - sideI n) (y - sideI n) := rfl
def JoinQ (qs : List Sq) (a b c d : Nat) (qs' : List Sq) (t : Nat) : Prop :=
 (a = 0 ∧ b = 0 ∧ c = 0 ∧ d = 0 ∧ t = 0 ∧ qs' = qs) ∨ (¬ (a = 0 ∧ b = 0 ∧ c = 0 ∧ d = 0) ∧ t = qs.length ∧ ∃ l, qs' = qs ++ [⟨a, b, c, d, 0, l⟩]) ∨ (¬ (a = 0 ∧ b = 0 ∧ c = 0 ∧ d = 0) ∧ t ≠ 0 ∧ t < qs.length ∧ qs' = qs ∧ ∃ l, sqA qs t = ⟨a, b, c, d, 0, l⟩)
theorem JoinQ.app {qs qs' : List Sq} {a b c d t : Nat} (h : JoinQ qs a b c d qs' t) : ∃ ms, qs' = qs ++ ms ∧ ms.length ≤ 1 := by
 rcases h with ⟨_, _, _, _, _, rfl⟩ | ⟨_, _, l, rfl⟩ | ⟨_, _, _, rfl, _⟩
 ·exact ⟨[], by simp, by simp⟩
 ·exact ⟨_, rfl, by simp⟩
 ·exact ⟨[], by simp, by simp⟩
theorem JoinQ.wf {qs qs' : List Sq} {a b c d t n : Nat} (hS : StQ qs) (h : JoinQ qs a b c d qs' t) (ha : WFQ qs n a) (hb : WFQ qs n b) (hc : WFQ qs n c) (hd : WFQ qs n d) : WFQ qs' (n + 1) t := by
 rcases h with ⟨_, _, _, _, rfl, rfl⟩ | ⟨h0, rfl, l, rfl⟩ | ⟨h0, _, hl, rfl, l, e⟩
 ·exact Or.inl rfl
 ·refine Or.inr ⟨by simp, ?_⟩
  rw [sqA_new]
  exact ⟨rfl, by simp only []; omega, ha.app _, hb.app _, hc.app _, hd.app _⟩
 ·refine Or.inr ⟨hl, ?_⟩
  rw [e]
  exact ⟨rfl, by simp only []; omega, ha, hb, hc, hd⟩
theorem JoinQ.val {qs qs' : List Sq} {a b c d t n : Nat} (hS : StQ qs) (h : JoinQ qs a b c d qs' t) (ha : WFQ qs n a) (hb : WFQ qs n b) (hc : WFQ qs n c) (hd : WFQ qs n d) (x y : Int) :
  valQ qs' (n + 1) t x y = valQ qs n a x y + valQ qs n b (x - sideI n) y + valQ qs n c x (y - sideI n) + valQ qs n d (x - sideI n) (y - sideI n) := by
 rcases h with ⟨rfl, rfl, rfl, rfl, rfl, rfl⟩ | ⟨h0, rfl, l, rfl⟩ | ⟨h0, _, hl, rfl, l, e⟩
 ·simp only [val_nil hS]; rfl
 ·rw [val_step, sqA_new]
  show valQ _ n a x y + valQ _ n b _ _ + valQ _ n c _ _ + valQ _ n d _ _ = _
  rw [ha.val hS, hb.val hS, hc.val hS, hd.val hS]
 ·rw [val_step, e]
def EightQ (qs : List Sq) (k : Nat) (qs' : List Sq) (t : Nat) : Prop :=
 (k = 0 ∧ t = 0 ∧ qs' = qs) ∨ (k ≠ 0 ∧ t = qs.length ∧ ∃ l, qs' = qs ++ [⟨0, 0, 0, 0, k, l⟩]) ∨ (k ≠ 0 ∧ t ≠ 0 ∧ t < qs.length ∧ qs' = qs ∧ ∃ l, sqA qs t = ⟨0, 0, 0, 0, k, l⟩)
theorem EightQ.app {qs qs' : List Sq} {k t : Nat} (h : EightQ qs k qs' t) : ∃ ms, qs' = qs ++ ms ∧ ms.length ≤ 1 := by
 rcases h with ⟨_, _, rfl⟩ | ⟨_, _, l, rfl⟩ | ⟨_, _, _, rfl, _⟩
 ·exact ⟨[], by simp, by simp⟩
 ·exact ⟨_, rfl, by simp⟩
 ·exact ⟨[], by simp, by simp⟩
theorem EightQ.wf {qs qs' : List Sq} {k t : Nat} (h : EightQ qs k qs' t) (hk : k < 2 ^ 64) : WFQ qs' 0 t := by
 rcases h with ⟨_, rfl, rfl⟩ | ⟨h0, rfl, l, rfl⟩ | ⟨h0, _, hl, rfl, l, e⟩
 ·exact Or.inl rfl
 ·refine Or.inr ⟨by simp, ?_⟩
  rw [sqA_new]
  exact ⟨h0, hk⟩
 ·refine Or.inr ⟨hl, ?_⟩
  rw [e]
  exact ⟨h0, hk⟩
theorem EightQ.val {qs qs' : List Sq} {k t : Nat} (hS : StQ qs) (h : EightQ qs k qs' t) (x y : Int) : valQ qs' 0 t x y = bitQ k x y := by
 rcases h with ⟨rfl, rfl, rfl⟩ | ⟨h0, rfl, l, rfl⟩ | ⟨h0, _, hl, rfl, l, e⟩
 ·rw [val_nil hS, bit_nil]
 ·unfold valQ; rw [sqA_new]
 ·unfold valQ; rw [e]
theorem WFQ.parts {qs : List Sq} (hS : StQ qs) {n t : Nat} (h : WFQ qs (n + 1) t) : WFQ qs n (sqA qs t).a ∧ WFQ qs n (sqA qs t).b ∧ WFQ qs n (sqA qs t).c ∧ WFQ qs n (sqA qs t).d := by
 have z : WFQ qs n 0 := by cases n <;> exact Or.inl rfl
 rcases h with rfl | ⟨_, _, _, h⟩
 ·rw [hS.2.1, hS.2.2.1, hS.2.2.2.1, hS.2.2.2.2.1]; exact ⟨z, z, z, z⟩
 ·exact h
theorem WFQ.nil (qs : List Sq) (n : Nat) : WFQ qs n 0 := by cases n <;> exact Or.inl rfl
abbrev inP (W H : Nat) (u v : Int) : Prop := 0 ≤ u ∧ u < W ∧ 0 ≤ v ∧ v < H
structure LayQ (W H : Nat) (f : Int → Int → Int) (qs0 : List Sq) (n t : Nat) (x y : Int) (qs : List Sq) (t' : Nat) : Prop where
 wf : WFQ qs n t'
 on : ∀ X Y, 0 ≤ X → X < sideI n → 0 ≤ Y → Y < sideI n → inP W H (x + X) (y + Y) → valQ qs n t' X Y = f (x + X) (y + Y)
 off : ∀ X Y, ¬ inP W H (x + X) (y + Y) → valQ qs n t' X Y = valQ qs0 n t X Y
theorem LayQ.app {W H : Nat} {f : Int → Int → Int} {qs0 : List Sq} {n t : Nat} {x y : Int} {qs : List Sq} {t' : Nat} (h : LayQ W H f qs0 n t x y qs t') (hS : StQ qs) (ms : List Sq) : LayQ W H f qs0 n t x y (qs ++ ms) t' :=
 ⟨h.wf.app ms, fun X Y a b c d e => by rw [h.wf.val hS ms]; exact h.on X Y a b c d e, fun X Y e => by rw [h.wf.val hS ms]; exact h.off X Y e⟩
theorem LayQ.from {W H : Nat} {f : Int → Int → Int} {qs0 ms : List Sq} {n t : Nat} {x y : Int} {qs : List Sq} {t' : Nat} (h : LayQ W H f (qs0 ++ ms) n t x y qs t') (hS : StQ qs0) (hw : WFQ qs0 n t) : LayQ W H f qs0 n t x y qs t' :=
 ⟨h.wf, h.on, fun X Y e => by rw [h.off X Y e, hw.val hS ms]⟩
theorem LayQ.apart {W H : Nat} {f : Int → Int → Int} {qs : List Sq} {n t : Nat} {x y : Int} (hw : WFQ qs n t) (h : (W : Int) ≤ x ∨ (H : Int) ≤ y ∨ x + sideI n ≤ 0 ∨ y + sideI n ≤ 0) : LayQ W H f qs n t x y qs t :=
 ⟨hw, fun X Y a b c d e => by unfold inP at e; omega, fun X Y e => rfl⟩
theorem LayQ.join {W H : Nat} {f : Int → Int → Int} {qs0 : List Sq} {n t : Nat} {x y : Int} {qs qs' : List Sq} {a b c d t' : Nat} (hS : StQ qs)
  (ha : LayQ W H f qs0 n (sqA qs0 t).a x y qs a) (hb : LayQ W H f qs0 n (sqA qs0 t).b (x + sideI n) y qs b) (hc : LayQ W H f qs0 n (sqA qs0 t).c x (y + sideI n) qs c) (hd : LayQ W H f qs0 n (sqA qs0 t).d (x + sideI n) (y + sideI n) qs d)
  (hj : JoinQ qs a b c d qs' t') : LayQ W H f qs0 (n + 1) t x y qs' t' := by
 have p := sideI_pos n
 have s := sideI_next n
 refine ⟨hj.wf hS ha.wf hb.wf hc.wf hd.wf, fun X Y h1 h2 h3 h4 hin => ?_, fun X Y hin => ?_⟩
 ·rw [hj.val hS ha.wf hb.wf hc.wf hd.wf]
  by_cases u : X < sideI n <;> by_cases v : Y < sideI n
  ·rw [val_out n b (X - sideI n) Y (by omega), val_out n c X (Y - sideI n) (by omega), val_out n d (X - sideI n) (Y - sideI n) (by omega), ha.on X Y h1 u h3 v hin]; omega
  ·rw [val_out n a X Y (by omega), val_out n b (X - sideI n) Y (by omega), val_out n d (X - sideI n) (Y - sideI n) (by omega), hc.on X (Y - sideI n) h1 u (by omega) (by omega) (by rw [show y + sideI n + (Y - sideI n) = y + Y by omega]; exact hin), show y + sideI n + (Y - sideI n) = y + Y by omega]; omega
  ·rw [val_out n a X Y (by omega), val_out n c X (Y - sideI n) (by omega), val_out n d (X - sideI n) (Y - sideI n) (by omega), hb.on (X - sideI n) Y (by omega) (by omega) h3 v (by rw [show x + sideI n + (X - sideI n) = x + X by omega]; exact hin), show x + sideI n + (X - sideI n) = x + X by omega]; omega
  ·rw [val_out n a X Y (by omega), val_out n b (X - sideI n) Y (by omega), val_out n c X (Y - sideI n) (by omega), hd.on (X - sideI n) (Y - sideI n) (by omega) (by omega) (by omega) (by omega) (by rw [show x + sideI n + (X - sideI n) = x + X by omega, show y + sideI n + (Y - sideI n) = y + Y by omega]; exact hin), show x + sideI n + (X - sideI n) = x + X by omega, show y + sideI n + (Y - sideI n) = y + Y by omega]; omega
 ·rw [hj.val hS ha.wf hb.wf hc.wf hd.wf, val_step, ha.off X Y hin, hb.off (X - sideI n) Y (by rw [show x + sideI n + (X - sideI n) = x + X by omega]; exact hin), hc.off X (Y - sideI n) (by rw [show y + sideI n + (Y - sideI n) = y + Y by omega]; exact hin), hd.off (X - sideI n) (Y - sideI n) (by rw [show x + sideI n + (X - sideI n) = x + X by omega, show y + sideI n + (Y - sideI n) = y + Y by omega]; exact hin)]
theorem LayQ.eight {W H : Nat} {f : Int → Int → Int} {qs qs' : List Sq} {t t' k : Nat} {x y : Int} (hS : StQ qs) (hk : k < 2 ^ 64) (hj : EightQ qs k qs' t')
  (on : ∀ X Y, 0 ≤ X → X < 8 → 0 ≤ Y → Y < 8 → inP W H (x + X) (y + Y) → bitQ k X Y = f (x + X) (y + Y)) (off : ∀ X Y, 0 ≤ X → X < 8 → 0 ≤ Y → Y < 8 → ¬ inP W H (x + X) (y + Y) → bitQ k X Y = bitQ (sqA qs t).k X Y) : LayQ W H f qs 0 t x y qs' t' := by
 refine ⟨hj.wf hk, fun X Y h1 h2 h3 h4 hin => ?_, fun X Y hin => ?_⟩
 ·rw [hj.val hS]; exact on X Y h1 (by simpa [sideI] using h2) h3 (by simpa [sideI] using h4) hin
 ·rw [hj.val hS]
  by_cases r : 0 ≤ X ∧ X < 8 ∧ 0 ≤ Y ∧ Y < 8
  ·exact off X Y r.1 r.2.1 r.2.2.1 r.2.2.2 hin
  ·rw [bit_out r]; unfold valQ; rw [bit_out r]
theorem pad_val {qs0 qs1 qs2 qs3 qs4 qs5 : List Sq} {n t t1 t2 t3 t4 t5 : Nat} (hS : StQ qs0) (hw : WFQ qs0 (n + 1) t)
  (j1 : JoinQ qs0 0 0 0 (sqA qs0 t).a qs1 t1) (j2 : JoinQ qs1 0 0 (sqA qs0 t).b 0 qs2 t2) (j3 : JoinQ qs2 0 (sqA qs0 t).c 0 0 qs3 t3) (j4 : JoinQ qs3 (sqA qs0 t).d 0 0 0 qs4 t4) (j5 : JoinQ qs4 t1 t2 t3 t4 qs5 t5) :
  WFQ qs5 (n + 2) t5 ∧ (∀ X Y, valQ qs5 (n + 2) t5 (X + sideI n) (Y + sideI n) = valQ qs0 (n + 1) t X Y) ∧ ∃ ms, qs5 = qs0 ++ ms ∧ ms.length ≤ 5 := by
 obtain ⟨wa, wb, wc, wd⟩ := hw.parts hS
 obtain ⟨m1, e1, l1⟩ := j1.app
 obtain ⟨m2, e2, l2⟩ := j2.app
 obtain ⟨m3, e3, l3⟩ := j3.app
 obtain ⟨m4, e4, l4⟩ := j4.app
 obtain ⟨m5, e5, l5⟩ := j5.app
 have s1 : StQ qs1 := by rw [e1]; exact hS.app _
 have s2 : StQ qs2 := by rw [e2]; exact s1.app _
 have s3 : StQ qs3 := by rw [e3]; exact s2.app _
 have s4 : StQ qs4 := by rw [e4]; exact s3.app _
 have z := fun qs => WFQ.nil qs n
 have wb1 : WFQ qs1 n (sqA qs0 t).b := by rw [e1]; exact wb.app _
 have wc2 : WFQ qs2 n (sqA qs0 t).c := by rw [e2, e1]; exact (wc.app _).app _
 have wd3 : WFQ qs3 n (sqA qs0 t).d := by rw [e3, e2, e1]; exact ((wd.app _).app _).app _
 have w1 := j1.wf hS (z _) (z _) (z _) wa
 have w2 := j2.wf s1 (z _) (z _) wb1 (z _)
 have w3 := j3.wf s2 (z _) wc2 (z _) (z _)
 have w4 := j4.wf s3 wd3 (z _) (z _) (z _)
 have w13 : WFQ qs4 (n + 1) t1 := by rw [e4, e3, e2]; exact ((w1.app _).app _).app _
 have w23 : WFQ qs4 (n + 1) t2 := by rw [e4, e3]; exact (w2.app _).app _
 have w33 : WFQ qs4 (n + 1) t3 := by rw [e4]; exact w3.app _
 refine ⟨j5.wf s4 w13 w23 w33 w4, fun X Y => ?_, m1 ++ (m2 ++ (m3 ++ (m4 ++ m5))), by rw [e5, e4, e3, e2, e1]; simp only [List.append_assoc], by simp only [List.length_append]; omega⟩
 have v1 : ∀ x y, valQ qs4 (n + 1) t1 x y = valQ qs1 (n + 1) t1 x y := fun x y => by rw [e4, (by rw [e3]; exact ((by rw [e2]; exact w1.app _ : WFQ qs2 (n+1) t1)).app _ : WFQ qs3 (n + 1) t1).val s3, e3, (by rw [e2]; exact w1.app _ : WFQ qs2 (n+1) t1).val s2, e2, w1.val s1]
 have v2 : ∀ x y, valQ qs4 (n + 1) t2 x y = valQ qs2 (n + 1) t2 x y := fun x y => by rw [e4, (by rw [e3]; exact w2.app _ : WFQ qs3 (n + 1) t2).val s3, e3, w2.val s2]
 have v3 : ∀ x y, valQ qs4 (n + 1) t3 x y = valQ qs3 (n + 1) t3 x y := fun x y => by rw [e4, w3.val s3]
 rw [j5.val s4 w13 w23 w33 w4, v1, v2, v3, j1.val hS (z _) (z _) (z _) wa, j2.val s1 (z _) (z _) wb1 (z _), j3.val s2 (z _) wc2 (z _) (z _), j4.val s3 wd3 (z _) (z _) (z _)]
 simp only [val_nil hS, val_nil s1, val_nil s2, val_nil s3, sideI_next, Int.zero_add, Int.add_zero]
 rw [val_step]
 have vb : ∀ x y, valQ qs1 n (sqA qs0 t).b x y = valQ qs0 n (sqA qs0 t).b x y := fun x y => by rw [e1, wb.val hS]
 have vc : ∀ x y, valQ qs2 n (sqA qs0 t).c x y = valQ qs0 n (sqA qs0 t).c x y := fun x y => by rw [e2, (by rw [e1]; exact wc.app _ : WFQ qs1 n (sqA qs0 t).c).val s1, e1, wc.val hS]
 have vd : ∀ x y, valQ qs3 n (sqA qs0 t).d x y = valQ qs0 n (sqA qs0 t).d x y := fun x y => by rw [e3, (by rw [e2, e1]; exact (wd.app _).app _ : WFQ qs2 n (sqA qs0 t).d).val s2, e2, (by rw [e1]; exact wd.app _ : WFQ qs1 n (sqA qs0 t).d).val s1, e1, wd.val hS]
 rw [vb, vc, vd, show X + sideI n - sideI n = X by omega, show Y + sideI n - sideI n = Y by omega, show X + sideI n - 2 * sideI n = X - sideI n by omega, show Y + sideI n - 2 * sideI n = Y - sideI n by omega]
def prt (q : Sq) (j : Nat) : Nat := if j = 0 then q.a else if j = 1 then q.b else if j = 2 then q.c else q.d
def gridQ (qs : List Sq) (t i : Nat) : Nat := prt (sqA qs (prt (sqA qs t) (i / 8 * 2 + i % 4 / 2))) (i / 4 % 2 * 2 + i % 2)
theorem grid_wf {qs : List Sq} (hS : StQ qs) {n t : Nat} (hw : WFQ qs (n + 2) t) (i : Nat) : WFQ qs n (gridQ qs t i) := by
 obtain ⟨a, b, c, d⟩ := hw.parts hS
 have h1 : WFQ qs (n + 1) (prt (sqA qs t) (i / 8 * 2 + i % 4 / 2)) := by unfold prt; split; exact a; split; exact b; split; exact c; exact d
 obtain ⟨a, b, c, d⟩ := h1.parts hS
 unfold gridQ
 generalize prt (sqA qs t) (i / 8 * 2 + i % 4 / 2) = u at a b c d
 unfold prt; split; exact a; split; exact b; split; exact c; exact d
theorem grid_val {qs : List Sq} (n t : Nat) (X Y : Int) : valQ qs (n + 2) t X Y =
  (((valQ qs n (gridQ qs t 0) X Y + valQ qs n (gridQ qs t 1) (X - sideI n) Y + valQ qs n (gridQ qs t 4) X (Y - sideI n) + valQ qs n (gridQ qs t 5) (X - sideI n) (Y - sideI n)) +
  (valQ qs n (gridQ qs t 2) (X - 2 * sideI n) Y + valQ qs n (gridQ qs t 3) (X - 3 * sideI n) Y + valQ qs n (gridQ qs t 6) (X - 2 * sideI n) (Y - sideI n) + valQ qs n (gridQ qs t 7) (X - 3 * sideI n) (Y - sideI n))) +
  (valQ qs n (gridQ qs t 8) X (Y - 2 * sideI n) + valQ qs n (gridQ qs t 9) (X - sideI n) (Y - 2 * sideI n) + valQ qs n (gridQ qs t 12) X (Y - 3 * sideI n) + valQ qs n (gridQ qs t 13) (X - sideI n) (Y - 3 * sideI n))) +
  (valQ qs n (gridQ qs t 10) (X - 2 * sideI n) (Y - 2 * sideI n) + valQ qs n (gridQ qs t 11) (X - 3 * sideI n) (Y - 2 * sideI n) + valQ qs n (gridQ qs t 14) (X - 2 * sideI n) (Y - 3 * sideI n) + valQ qs n (gridQ qs t 15) (X - 3 * sideI n) (Y - 3 * sideI n)) := by
 rw [val_step, val_step, val_step, val_step, val_step]
 simp only [sideI_next, gridQ, prt]
 simp [show X - 2 * sideI n - sideI n = X - 3 * sideI n by omega, show Y - 2 * sideI n - sideI n = Y - 3 * sideI n by omega]
theorem trim_val {qs qs' : List Sq} (hS : StQ qs) {n t t' x y : Nat} (hw : WFQ qs (n + 2) t) (hx : x ≤ 2) (hy : y ≤ 2) (hz : ∀ i, i < 16 → gridQ qs t i ≠ 0 → (x ≤ i % 4 ∧ i % 4 ≤ x + 1) ∧ (y ≤ i / 4 ∧ i / 4 ≤ y + 1))
  (hj : JoinQ qs (gridQ qs t (4 * y + x)) (gridQ qs t (4 * y + x + 1)) (gridQ qs t (4 * y + x + 4)) (gridQ qs t (4 * y + x + 5)) qs' t') :
  WFQ qs' (n + 1) t' ∧ ∀ X Y, valQ qs' (n + 1) t' (X - (x : Int) * sideI n) (Y - (y : Int) * sideI n) = valQ qs (n + 2) t X Y := by
 have g := fun i => grid_wf hS hw i
 refine ⟨hj.wf hS (g _) (g _) (g _) (g _), fun X Y => ?_⟩
 rw [hj.val hS (g _) (g _) (g _) (g _), grid_val]
 have z : ∀ i, i < 16 → ¬ ((x ≤ i % 4 ∧ i % 4 ≤ x + 1) ∧ (y ≤ i / 4 ∧ i / 4 ≤ y + 1)) → gridQ qs t i = 0 := fun i hi h => Decidable.byContradiction fun c => h (hz i hi c)
 have hx' : x = 0 ∨ x = 1 ∨ x = 2 := by omega
 have hy' : y = 0 ∨ y = 1 ∨ y = 2 := by omega
 rcases hx' with rfl | rfl | rfl <;> rcases hy' with rfl | rfl | rfl <;>
 ·have z0 := z 0 (by omega)
  have z1 := z 1 (by omega)
  have z2 := z 2 (by omega)
  have z3 := z 3 (by omega)
  have z4 := z 4 (by omega)
  have z5 := z 5 (by omega)
  have z6 := z 6 (by omega)
  have z7 := z 7 (by omega)
  have z8 := z 8 (by omega)
  have z9 := z 9 (by omega)
  have za := z 10 (by omega)
  have zb := z 11 (by omega)
  have zc := z 12 (by omega)
  have zd := z 13 (by omega)
  have ze := z 14 (by omega)
  have zf := z 15 (by omega)
  simp at z0 z1 z2 z3 z4 z5 z6 z7 z8 z9 za zb zc zd ze zf
  simp [*, val_nil hS, Int.sub_sub, show sideI n + sideI n = 2 * sideI n by omega, show 2 * sideI n + sideI n = 3 * sideI n by omega]
  try omega
def popW : Nat → Nat → Nat
 | 0, _ => 0
 | n + 1, k => k % 2 + popW n (k / 2)
def popN (k : Nat) : Nat := popW 64 k
theorem popW_le : ∀ n k, popW n k ≤ n
 | 0, _ => Nat.le_refl _
 | n + 1, k => by
  have := popW_le n (k / 2)
  show k % 2 + popW n (k / 2) ≤ n + 1
  omega
theorem popW_add : ∀ a b k, popW (a + b) k = popW a k + popW b (k / 2 ^ a)
 | 0, b, k => by rw [Nat.zero_add, Nat.pow_zero, Nat.div_one]; show _ = 0 + _; omega
 | a + 1, b, k => by
  rw [show a + 1 + b = (a + b) + 1 by omega]
  show k % 2 + popW (a + b) (k / 2) = (k % 2 + popW a (k / 2)) + _
  rw [popW_add a b (k / 2), Nat.div_div_eq_div_mul, Nat.pow_succ, Nat.mul_comm 2]
  omega
def satI (a b : Int) : Int := if 9223372036854775807 - b < a then 9223372036854775807 else a + b
def lvS (qs : List Sq) (q : Sq) : Int := if q.k = 0 then satI (satI (satI (satI 0 (sqA qs q.a).l) (sqA qs q.b).l) (sqA qs q.c).l) (sqA qs q.d).l else (popN q.k : Int)
def LvQ (qs : List Sq) : Prop := (0 < qs.length ∧ (sqA qs 0).l = 0) ∧ ∀ t, t < qs.length → (sqA qs t).l = lvS qs (sqA qs t) ∧ (0 ≤ (sqA qs t).l ∧ (sqA qs t).l ≤ 9223372036854775807) ∧ (sqA qs t).a < qs.length ∧ (sqA qs t).b < qs.length ∧ (sqA qs t).c < qs.length ∧ (sqA qs t).d < qs.length
theorem sat_le {a b : Int} (ha : 0 ≤ a ∧ a ≤ 9223372036854775807) (hb : 0 ≤ b ∧ b ≤ 9223372036854775807) : 0 ≤ satI a b ∧ satI a b ≤ 9223372036854775807 := by unfold satI; split <;> omega
theorem LvQ.add {qs : List Sq} (h : LvQ qs) {q : Sq} (hl : q.l = lvS qs q) (ha : q.a < qs.length) (hb : q.b < qs.length) (hc : q.c < qs.length) (hd : q.d < qs.length) : LvQ (qs ++ [q]) := by
 refine ⟨⟨by rw [List.length_append]; have := h.1.1; omega, by rw [sqA_old h.1.1]; exact h.1.2⟩, fun t ht => ?_⟩
 replace h := h.2
 rw [List.length_append] at ht ⊢
 simp only [List.length_cons, List.length_nil] at ht ⊢
 have old : ∀ p : Sq, p.a < qs.length → p.b < qs.length → p.c < qs.length → p.d < qs.length → lvS (qs ++ [q]) p = lvS qs p := fun p h1 h2 h3 h4 => by
  unfold lvS
  rw [sqA_old h1, sqA_old h2, sqA_old h3, sqA_old h4]
 by_cases e : t < qs.length
 ·obtain ⟨h1, h2, h3, h4, h5, h6⟩ := h t e
  rw [sqA_old e, old _ h3 h4 h5 h6]
  exact ⟨h1, h2, by omega, by omega, by omega, by omega⟩
 ·obtain rfl : t = qs.length := by omega
  rw [sqA_new, old _ ha hb hc hd]
  refine ⟨hl, ?_, by omega, by omega, by omega, by omega⟩
  rw [hl]
  unfold lvS
  split
  ·exact sat_le (sat_le (sat_le (sat_le (by omega) (h _ ha).2.1) (h _ hb).2.1) (h _ hc).2.1) (h _ hd).2.1
  ·have := popW_le 64 q.k
   unfold popN
   omega
theorem lv_nil : LvQ [zQ] := by
 refine ⟨⟨by decide, rfl⟩, fun t ht => ?_⟩
 have : t = 0 := by simp at ht; omega
 subst this
 exact ⟨by decide, by decide, by decide, by decide, by decide, by decide⟩
def Nm8 (qs : List Sq) (k t : Nat) : Prop := (t = 0 ∧ ∀ u, u < qs.length → (sqA qs u).k ≠ k) ∨ (t ≠ 0 ∧ t < qs.length ∧ ∃ l, sqA qs t = ⟨0, 0, 0, 0, k, l⟩)
def Nm4 (qs : List Sq) (a b c d t : Nat) : Prop := (t = 0 ∧ ∀ u, u < qs.length → ¬ ((sqA qs u).k = 0 ∧ (sqA qs u).a = a ∧ (sqA qs u).b = b ∧ (sqA qs u).c = c ∧ (sqA qs u).d = d)) ∨ (t ≠ 0 ∧ t < qs.length ∧ ∃ l, sqA qs t = ⟨a, b, c, d, 0, l⟩)
def UnX (qs : List Sq) : Prop := ∀ u v, u < qs.length → v < qs.length → (sqA qs u).a = (sqA qs v).a → (sqA qs u).b = (sqA qs v).b → (sqA qs u).c = (sqA qs v).c → (sqA qs u).d = (sqA qs v).d → (sqA qs u).k = (sqA qs v).k → u = v
def EiQ (qs : List Sq) : Prop := ∀ u, u < qs.length → (sqA qs u).k ≠ 0 → (sqA qs u).a = 0 ∧ (sqA qs u).b = 0 ∧ (sqA qs u).c = 0 ∧ (sqA qs u).d = 0
def UnQ (qs : List Sq) : Prop := UnX qs ∧ EiQ qs
theorem UnX.add {qs : List Sq} (h : UnX qs) {q : Sq} (hq : ∀ u, u < qs.length → ¬ ((sqA qs u).a = q.a ∧ (sqA qs u).b = q.b ∧ (sqA qs u).c = q.c ∧ (sqA qs u).d = q.d ∧ (sqA qs u).k = q.k)) : UnX (qs ++ [q]) := fun u v hu hv e1 e2 e3 e4 e5 => by
 rw [List.length_append] at hu hv
 simp only [List.length_cons, List.length_nil] at hu hv
 by_cases eu : u < qs.length
 ·rw [sqA_old eu] at e1 e2 e3 e4 e5
  by_cases ev : v < qs.length
  ·rw [sqA_old ev] at e1 e2 e3 e4 e5
   exact h u v eu ev e1 e2 e3 e4 e5
  ·obtain rfl : v = qs.length := by omega
   rw [sqA_new] at e1 e2 e3 e4 e5
   exact absurd ⟨e1, e2, e3, e4, e5⟩ (hq u eu)
 ·obtain rfl : u = qs.length := by omega
  rw [sqA_new] at e1 e2 e3 e4 e5
  by_cases ev : v < qs.length
  ·rw [sqA_old ev] at e1 e2 e3 e4 e5
   exact absurd ⟨e1.symm, e2.symm, e3.symm, e4.symm, e5.symm⟩ (hq v ev)
  ·omega
theorem UnQ.add {qs : List Sq} (h : UnQ qs) {q : Sq} (hq : ∀ u, u < qs.length → ¬ ((sqA qs u).a = q.a ∧ (sqA qs u).b = q.b ∧ (sqA qs u).c = q.c ∧ (sqA qs u).d = q.d ∧ (sqA qs u).k = q.k)) (hk : q.k ≠ 0 → q.a = 0 ∧ q.b = 0 ∧ q.c = 0 ∧ q.d = 0 := by simp) : UnQ (qs ++ [q]) := ⟨h.1.add hq, fun u hu h0 => by
 rw [List.length_append] at hu
 simp only [List.length_cons, List.length_nil] at hu
 by_cases e : u < qs.length
 ·rw [sqA_old e] at h0 ⊢
  exact h.2 u e h0
 ·obtain rfl : u = qs.length := by omega
  rw [sqA_new] at h0 ⊢
  exact hk h0⟩
theorem un_nil : UnQ [zQ] := ⟨fun u v hu hv _ _ _ _ _ => by simp at hu hv; omega, fun u hu h0 => by
 have : u = 0 := by simp at hu; omega
 subst this
 exact absurd rfl h0⟩
end Go.Proofs.YtemhcpldflcfbaaGreatDoor
