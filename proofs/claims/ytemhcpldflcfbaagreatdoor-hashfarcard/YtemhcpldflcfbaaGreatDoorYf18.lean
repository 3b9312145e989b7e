/-
  What the last text of this claim leans on, part 18: Hj13, Hj14, Hj16, Hd1.
-/
import Derived.Test.YtemhcpldflcfbaaGreatDoorYf17
import Derived.Test.YtemhcpldflcfbaaGreatDoorYf16
namespace Go.Proofs.YtemhcpldflcfbaaGreatDoor
set_option linter.unusedVariables false
theorem sx_lt (T : Nat → Nat) (a b c d s u : Nat) : sxE T a b c d s u < 18446744073709551616 := fou_lt (inE_mk _ _ _) (inE_mk _ _ _) (inE_mk _ _ _) (inE_mk _ _ _)
def gnE (qs : List Sq) (T : Nat → Nat) (s u : Nat) (nine : Nat → Nat) : Nat := sxE T (arE (fun i => (sqA qs (nine i)).k) 0) (arE (fun i => (sqA qs (nine i)).k) 1) (arE (fun i => (sqA qs (nine i)).k) 2) (arE (fun i => (sqA qs (nine i)).k) 3) s u
def N0 (nine : Nat → Nat) : Prop := ∀ i, i < 9 → nine i = 0
def WkQ (qs : List Sq) (T : Nat → Nat) (s u : Nat) : Nat → (Nat → Nat) → List Sq → List Sq → Nat → Prop
 | 0, nine, ms, ms', t => (N0 nine ∧ t = 0 ∧ ms' = ms) ∨ (¬ N0 nine ∧ EightQ ms (gnE qs T s u nine) ms' t)
 | n + 1, nine, ms, ms', t => (N0 nine ∧ t = 0 ∧ ms' = ms) ∨ (¬ N0 nine ∧ ∃ m1 m2 m3 m4 t0 t1 t2 t3, WkQ qs T s u n (nrQ qs nine 1 1) ms m1 t0 ∧ WkQ qs T s u n (nrQ qs nine 2 1) m1 m2 t1 ∧ WkQ qs T s u n (nrQ qs nine 1 2) m2 m3 t2 ∧ WkQ qs T s u n (nrQ qs nine 2 2) m3 m4 t3 ∧ JoinQ m4 t0 t1 t2 t3 ms' t)
theorem N9.none {qs : List Sq} (hS : StQ qs) {n : Nat} {nine : Nat → Nat} {f : Int → Int → Int} (h : N9 qs n nine f) (z : N0 nine) {born stay k : Nat} (hb : born % 2 = 0) (hk : k ≤ 4) : AgF (stF born stay k f) (fun _ _ => 0) (sideI n) (sideI n) (sideI n) := fun x y h1 h2 h3 h4 => by
 have p := sideI_pos n
 refine (stF_none hb fun X Y q1 q2 q3 q4 => ?_).symm
 have at_ : ∀ X : Int, 0 ≤ X → X < 3 * sideI n → ∃ (a : Nat) (u : Int), a < 3 ∧ 0 ≤ u ∧ u < sideI n ∧ X = (a : Int) * sideI n + u := fun X hX hX2 => by
  by_cases c1 : X < sideI n
  ·exact ⟨0, X, by omega, hX, c1, by simp⟩
  ·by_cases c2 : X < 2 * sideI n
   ·exact ⟨1, X - sideI n, by omega, by omega, by omega, by simp; omega⟩
   ·exact ⟨2, X - 2 * sideI n, by omega, by omega, by omega, by simp; omega⟩
 obtain ⟨a, u, ha, u0, u1, rfl⟩ := at_ X (by omega) (by omega)
 obtain ⟨b, v, hb', v0, v1, rfl⟩ := at_ Y (by omega) (by omega)
 rw [← h a b ha hb' u v ⟨u0, u1⟩ ⟨v0, v1⟩, z _ (by omega), val_nil hS]
structure WkS (born stay k n : Nat) (f : Int → Int → Int) (ms ms' : List Sq) (t : Nat) : Prop where
 st : StQ ms'
 app : ∃ l, ms' = ms ++ l
 wf : WFQ ms' n t
 val : AgF (stF born stay k f) (valQ ms' n t) (sideI n) (sideI n) (sideI n)
theorem WkQ.is {born stay : Nat} (hb : born % 2 = 0) {T : Nat → Nat} (hT : TbE born stay T) {qs : List Sq} (hS : StQ qs) {s u : Nat} (hs : s ≤ 2) (hu : u ≤ 2) : ∀ {n : Nat} {nine : Nat → Nat} {f : Int → Int → Int} {ms ms' : List Sq} {t : Nat}, StQ ms → N9 qs n nine f → WkQ qs T s u n nine ms ms' t → WkS born stay (s + u) n f ms ms' t
 | 0, nine, f, ms, ms', t, hM, h, hw => by
  rcases hw with ⟨z, rfl, rfl⟩ | ⟨z, he⟩
  ·exact ⟨hM, ⟨[], by simp⟩, WFQ.nil _ _, fun x y h1 h2 h3 h4 => by rw [val_nil hM]; exact h.none hS z hb (by omega) x y h1 h2 h3 h4⟩
  ·obtain ⟨l, rfl, _⟩ := he.app
   refine ⟨hM.app l, ⟨l, rfl⟩, he.wf (sx_lt _ _ _ _ _ _ _), fun x y h1 h2 h3 h4 => ?_⟩
   rw [he.val hM]
   exact h.goes hT hs hu x y h1 h2 h3 h4
 | n + 1, nine, f, ms, ms', t, hM, h, hw => by
  rcases hw with ⟨z, rfl, rfl⟩ | ⟨z, m1, m2, m3, m4, t0, t1, t2, t3, w0, w1, w2, w3, hj⟩
  ·exact ⟨hM, ⟨[], by simp⟩, WFQ.nil _ _, fun x y h1 h2 h3 h4 => by rw [val_nil hM]; exact h.none hS z hb (by omega) x y h1 h2 h3 h4⟩
  ·have p := sideI_pos n
   have r0 := WkQ.is hb hT hS hs hu hM (h.nearer (x := 1) (y := 1) (by omega) (by omega)) w0
   have r1 := WkQ.is hb hT hS hs hu r0.st (h.nearer (x := 2) (y := 1) (by omega) (by omega)) w1
   have r2 := WkQ.is hb hT hS hs hu r1.st (h.nearer (x := 1) (y := 2) (by omega) (by omega)) w2
   have r3 := WkQ.is hb hT hS hs hu r2.st (h.nearer (x := 2) (y := 2) (by omega) (by omega)) w3
   obtain ⟨l0, e0⟩ := r0.app
   obtain ⟨l1, e1⟩ := r1.app
   obtain ⟨l2, e2⟩ := r2.app
   obtain ⟨l3, e3⟩ := r3.app
   obtain ⟨l4, e4, _⟩ := hj.app
   have c0 : WFQ m4 n t0 := by rw [e3, e2, e1]; exact ((r0.wf.app _).app _).app _
   have c1 : WFQ m4 n t1 := by rw [e3, e2]; exact (r1.wf.app _).app _
   have c2 : WFQ m4 n t2 := by rw [e3]; exact r2.wf.app _
   have v0 : ∀ x y, valQ m4 n t0 x y = valQ m1 n t0 x y := fun x y => by
    rw [e3, e2, e1, List.append_assoc, List.append_assoc, r0.wf.val r0.st]
   have v1 : ∀ x y, valQ m4 n t1 x y = valQ m2 n t1 x y := fun x y => by
    rw [e3, e2, List.append_assoc, r1.wf.val r1.st]
   have v2 : ∀ x y, valQ m4 n t2 x y = valQ m3 n t2 x y := fun x y => by
    rw [e3, r2.wf.val r2.st]
   have sh : ∀ (x y : Nat) (V : Int → Int → Int) (X Y : Int), X = (x : Int) * sideI n + sideI n → Y = (y : Int) * sideI n + sideI n → AgF (stF born stay (s + u) (fun X Y => f (X + (x : Int) * sideI n) (Y + (y : Int) * sideI n))) V (sideI n) (sideI n) (sideI n) → AgF (stF born stay (s + u) f) V X Y (sideI n) := fun x y V X Y hX hY q a b h1 h2 h3 h4 => by
    rw [q a b h1 h2 h3 h4]
    have e : (fun X Y => f (X + (x : Int) * sideI n) (Y + (y : Int) * sideI n)) = fun X Y => f ((x : Int) * sideI n + X) ((y : Int) * sideI n + Y) := by
     funext X Y
     rw [Int.add_comm X, Int.add_comm Y]
    rw [e, stF_shift, hX, hY, Int.add_assoc, Int.add_assoc]
   have q0 := sh 1 1 _ (2 * sideI n) (2 * sideI n) (by simp; omega) (by simp; omega) r0.val
   have q1 := sh 2 1 _ (2 * sideI n + sideI n) (2 * sideI n) (by simp) (by simp; omega) r1.val
   have q2 := sh 1 2 _ (2 * sideI n) (2 * sideI n + sideI n) (by simp; omega) (by simp) r2.val
   have q3 := sh 2 2 _ (2 * sideI n + sideI n) (2 * sideI n + sideI n) (by simp) (by simp) r3.val
   have J := jn_ag (fun x y => val_out n t0 x y) (fun x y => val_out n t1 x y) (fun x y => val_out n t2 x y) (fun x y => val_out n t3 x y) q0 q1 q2 q3
   refine ⟨by rw [e4]; exact r3.st.app _, ⟨l0 ++ (l1 ++ (l2 ++ (l3 ++ l4))), by rw [e4, e3, e2, e1, e0]; simp only [List.append_assoc]⟩, hj.wf r3.st c0 c1 c2 r3.wf, ?_⟩
   rw [sideI_next]
   intro x y h1 h2 h3 h4
   rw [hj.val r3.st c0 c1 c2 r3.wf, v0, v1, v2]
   exact J x y h1 h2 h3 h4
theorem wf_lives {qs : List Sq} (hS : StQ qs) : ∀ {n t : Nat}, WFQ qs n t → t ≠ 0 → ∃ x y, (0 ≤ x ∧ x < sideI n) ∧ (0 ≤ y ∧ y < sideI n) ∧ valQ qs n t x y ≠ 0
 | 0, t, h, h0 => by
  rcases h with h | ⟨_, hk, hl⟩
  ·exact absurd h h0
  ·obtain ⟨j, hj⟩ := Nat.exists_testBit_of_ne_zero hk
   have j64 : j < 64 := by
    refine Nat.lt_of_not_le fun q => ?_
    have := Nat.testBit_lt_two_pow (Nat.lt_of_lt_of_le hl (Nat.pow_le_pow_right (by decide) q))
    rw [this] at hj
    cases hj
   refine ⟨((j % 8 : Nat) : Int), ((j / 8 : Nat) : Int), by rw [show sideI 0 = 8 by decide]; omega, by rw [show sideI 0 = 8 by decide]; omega, ?_⟩
   show bitQ (sqA qs t).k _ _ ≠ 0
   rw [bitQ_nat _ (by omega) (by omega), show 8 * (j / 8) + j % 8 = j by omega, hj]
   decide
 | n + 1, t, h, h0 => by
  have p := sideI_pos n
  have key : ∀ a b : Nat, a ≤ 1 → b ≤ 1 → prt (sqA qs t) (b * 2 + a) ≠ 0 → WFQ qs n (prt (sqA qs t) (b * 2 + a)) → ∃ x y, (0 ≤ x ∧ x < sideI (n + 1)) ∧ (0 ≤ y ∧ y < sideI (n + 1)) ∧ valQ qs (n + 1) t x y ≠ 0 := fun a b ha hb q w => by
   obtain ⟨x, y, hx, hy, hv⟩ := wf_lives hS w q
   have r1 : ∀ (z : Nat) (q : Int), z ≤ 1 → (0 ≤ q ∧ q < sideI n) → 0 ≤ (z : Int) * sideI n + q ∧ (z : Int) * sideI n + q < sideI (n + 1) := fun z q hz hq => by
    rw [sideI_next]
    have : z = 0 ∨ z = 1 := by omega
    rcases this with rfl | rfl <;> simp <;> omega
   exact ⟨_, _, r1 a x ha hx, r1 b y hb hy, by rw [val_at ha hb hx hy]; exact hv⟩
  rcases h with h | ⟨_, _, hn, wa, wb, wc, wd⟩
  ·exact absurd h h0
  ·rcases hn with q | q | q | q
   ·exact key 0 0 (by decide) (by decide) q wa
   ·exact key 1 0 (by decide) (by decide) q wb
   ·exact key 0 1 (by decide) (by decide) q wc
   ·exact key 1 1 (by decide) (by decide) q wd
def biD (l r : Int) (n : Nat) (X : Int) : Nat := if l < X + 3 * sideI n ∧ X < r then 1 else 0
def cnW (l r : Int) : Nat → Nat → Int → Nat
 | 0, j, X => if j = 0 then biD l r 0 X else 0
 | n + 1, j, X => if j = n + 1 then biD l r (n + 1) X else cnW l r n j (X + sideI n) + cnW l r n j (X + 2 * sideI n)
def sumW (l r u d : Int) (n : Nat) (X Y : Int) : Nat → Nat
 | 0 => 0
 | m + 1 => sumW l r u d n X Y m + cnW l r n m X * cnW u d n m Y
theorem sumW_next (l r u d : Int) (n : Nat) (X Y : Int) : ∀ m, m ≤ n + 1 → sumW l r u d (n + 1) X Y m = sumW l r u d n (X + sideI n) (Y + sideI n) m + sumW l r u d n (X + 2 * sideI n) (Y + sideI n) m + sumW l r u d n (X + sideI n) (Y + 2 * sideI n) m + sumW l r u d n (X + 2 * sideI n) (Y + 2 * sideI n) m
 | 0, _ => rfl
 | m + 1, h => by
  show sumW l r u d (n + 1) X Y m + cnW l r (n + 1) m X * cnW u d (n + 1) m Y = _
  rw [sumW_next l r u d n X Y m (by omega)]
  show _ + (if m = n + 1 then _ else _) * (if m = n + 1 then _ else _) = _
  rw [if_neg (by omega), if_neg (by omega)]
  simp only [sumW, Nat.add_mul, Nat.mul_add]
  omega
def NwF (qs : List Sq) (n : Nat) (nine : Nat → Nat) : Prop := ∀ i, i < 9 → WFQ qs n (nine i)
theorem NwF.nearer {qs : List Sq} (hS : StQ qs) {n : Nat} {nine : Nat → Nat} (h : NwF qs (n + 1) nine) {x y : Nat} (hx : x ≤ 3) (hy : y ≤ 3) : NwF qs n (nrQ qs nine x y) := fun i hi => by
 have i1 : (y + i / 3) / 2 ≤ 2 := by omega
 have i2 : (x + i % 3) / 2 ≤ 2 := by omega
 obtain ⟨a, b, c, d⟩ := (h ((y + i / 3) / 2 * 3 + (x + i % 3) / 2) (by omega)).parts hS
 unfold nrQ prt
 split; exact a; split; exact b; split; exact c; exact d
theorem N9.near {qs : List Sq} (hS : StQ qs) {n : Nat} {nine : Nat → Nat} {F : Int → Int → Int} {X Y l r u d : Int} (h : N9 qs n nine fun x y => F (X + x) (Y + y)) (hw : NwF qs n nine) (hF : ∀ x y, ¬ (l ≤ x ∧ x < r ∧ u ≤ y ∧ y < d) → F x y = 0) (z : ¬ N0 nine) : biD l r n X = 1 ∧ biD u d n Y = 1 := by
 have p := sideI_pos n
 obtain ⟨i, hi, i0⟩ : ∃ i, i < 9 ∧ nine i ≠ 0 := by
  apply Classical.byContradiction
  intro q
  exact z fun i hi => Classical.byContradiction fun q2 => q ⟨i, hi, q2⟩
 obtain ⟨x, y, hx, hy, hv⟩ := wf_lives hS (hw i hi) i0
 have g := h (i % 3) (i / 3) (by omega) (by omega) x y hx hy
 rw [show i / 3 * 3 + i % 3 = i by omega] at g
 rw [g] at hv
 have c : l ≤ X + (((i % 3 : Nat) : Int) * sideI n + x) ∧ X + (((i % 3 : Nat) : Int) * sideI n + x) < r ∧ u ≤ Y + (((i / 3 : Nat) : Int) * sideI n + y) ∧ Y + (((i / 3 : Nat) : Int) * sideI n + y) < d := Classical.byContradiction fun q => hv (hF _ _ q)
 have b : ∀ (a : Nat) (q : Int), a < 3 → (0 ≤ q ∧ q < sideI n) → 0 ≤ (a : Int) * sideI n + q ∧ (a : Int) * sideI n + q < 3 * sideI n := fun a q ha hq => by
  have : a = 0 ∨ a = 1 ∨ a = 2 := by omega
  rcases this with rfl | rfl | rfl <;> simp <;> omega
 have b1 := b (i % 3) x (by omega) hx
 have b2 := b (i / 3) y (by omega) hy
 unfold biD
 exact ⟨if_pos (by omega), if_pos (by omega)⟩
theorem WkQ.count {T : Nat → Nat} {qs : List Sq} (hS : StQ qs) {s v : Nat} {F : Int → Int → Int} {l r u d : Int} (hF : ∀ x y, ¬ (l ≤ x ∧ x < r ∧ u ≤ y ∧ y < d) → F x y = 0) : ∀ {n : Nat} {nine : Nat → Nat} {ms ms' : List Sq} {t : Nat} {X Y : Int}, NwF qs n nine → N9 qs n nine (fun x y => F (X + x) (Y + y)) → WkQ qs T s v n nine ms ms' t → ms'.length ≤ ms.length + sumW l r u d n X Y (n + 1)
 | 0, nine, ms, ms', t, X, Y, hw, h, hk => by
  rcases hk with ⟨_, _, rfl⟩ | ⟨z, he⟩
  ·omega
  ·obtain ⟨m, rfl, hm⟩ := he.app
   obtain ⟨b1, b2⟩ := h.near hS hw hF z
   have e : sumW l r u d 0 X Y 1 = 1 := by
    show 0 + (if 0 = 0 then biD l r 0 X else 0) * (if 0 = 0 then biD u d 0 Y else 0) = 1
    rw [if_pos rfl, if_pos rfl, b1, b2]
   rw [List.length_append]
   show ms.length + m.length ≤ ms.length + sumW l r u d 0 X Y 1
   omega
 | n + 1, nine, ms, ms', t, X, Y, hw, h, hk => by
  rcases hk with ⟨_, _, rfl⟩ | ⟨z, m1, m2, m3, m4, t0, t1, t2, t3, w0, w1, w2, w3, hj⟩
  ·omega
  ·have nr : ∀ x y : Nat, x ≤ 3 → y ≤ 3 → ∀ X' Y' : Int, X' = X + (x : Int) * sideI n → Y' = Y + (y : Int) * sideI n → N9 qs n (nrQ qs nine x y) (fun a b => F (X' + a) (Y' + b)) := fun x y hx hy X' Y' e1 e2 => by
    have q := h.nearer hx hy
    have e : (fun a b => F (X' + a) (Y' + b)) = fun a b => F (X + (a + (x : Int) * sideI n)) (Y + (b + (y : Int) * sideI n)) := by
     funext a b
     rw [e1, e2]
     congr 1 <;> omega
    rw [e]
    exact q
   have c0 := WkQ.count hS hF (hw.nearer hS (x := 1) (y := 1) (by omega) (by omega)) (nr 1 1 (by omega) (by omega) (X + sideI n) (Y + sideI n) (by simp) (by simp)) w0
   have c1 := WkQ.count hS hF (hw.nearer hS (x := 2) (y := 1) (by omega) (by omega)) (nr 2 1 (by omega) (by omega) (X + 2 * sideI n) (Y + sideI n) (by simp) (by simp)) w1
   have c2 := WkQ.count hS hF (hw.nearer hS (x := 1) (y := 2) (by omega) (by omega)) (nr 1 2 (by omega) (by omega) (X + sideI n) (Y + 2 * sideI n) (by simp) (by simp)) w2
   have c3 := WkQ.count hS hF (hw.nearer hS (x := 2) (y := 2) (by omega) (by omega)) (nr 2 2 (by omega) (by omega) (X + 2 * sideI n) (Y + 2 * sideI n) (by simp) (by simp)) w3
   obtain ⟨m, rfl, hm⟩ := hj.app
   obtain ⟨b1, b2⟩ := h.near hS hw hF z
   have e : sumW l r u d (n + 1) X Y (n + 1 + 1) = sumW l r u d (n + 1) X Y (n + 1) + 1 := by
    show _ + (if n + 1 = n + 1 then biD l r (n + 1) X else _) * (if n + 1 = n + 1 then biD u d (n + 1) Y else _) = _
    rw [if_pos rfl, if_pos rfl, b1, b2]
   rw [List.length_append, e, sumW_next _ _ _ _ _ _ _ _ (Nat.le_refl _)]
   omega
def qrI (n : Nat) : Int := 4 * 2 ^ n
theorem qr_side (n : Nat) : sideI n = 2 * qrI n := by unfold sideI qrI; omega
theorem qr_next (n : Nat) : qrI (n + 1) = 2 * qrI n := by unfold qrI; rw [Int.pow_succ]; omega
theorem qr_pow (n : Nat) : ((2 ^ (n + 2) : Nat) : Int) = qrI n := by
 unfold qrI
 push_cast
 rw [Int.pow_add, Int.mul_comm]
 rfl
theorem grid_at {qs : List Sq} {n t a b : Nat} {u v : Int} (ha : a < 4) (hb : b < 4) (hu : 0 ≤ u ∧ u < sideI n) (hv : 0 ≤ v ∧ v < sideI n) : valQ qs (n + 2) t ((a : Int) * sideI n + u) ((b : Int) * sideI n + v) = valQ qs n (gridQ qs t (b * 4 + a)) u v := by
 have p := sideI_pos n
 have r1 : ∀ (z : Nat) (q : Int), z ≤ 1 → (0 ≤ q ∧ q < sideI n) → 0 ≤ (z : Int) * sideI n + q ∧ (z : Int) * sideI n + q < sideI (n + 1) := fun z q hz hq => by
  rw [sideI_next]
  have : z = 0 ∨ z = 1 := by omega
  rcases this with rfl | rfl <;> simp <;> omega
 have g := val_at (qs := qs) (n := n + 1) (t := t) (a := a / 2) (b := b / 2) (by omega) (by omega) (r1 (a % 2) u (by omega) hu) (r1 (b % 2) v (by omega) hv)
 rw [val_at (by omega) (by omega) hu hv, sideI_next] at g
 have e1 := half_pt a 0 (sideI n) u
 have e2 := half_pt b 0 (sideI n) v
 rw [Nat.zero_add] at e1 e2
 rw [e1, e2] at g
 rw [show (a : Int) * sideI n + u + ((0 : Nat) : Int) * sideI n = (a : Int) * sideI n + u by simp, show (b : Int) * sideI n + v + ((0 : Nat) : Int) * sideI n = (b : Int) * sideI n + v by simp] at g
 rw [g]
 unfold gridQ
 rw [show (b * 4 + a) / 8 = b / 2 by omega, show (b * 4 + a) % 4 / 2 = a / 2 by omega, show (b * 4 + a) / 4 % 2 = b % 2 by omega, show (b * 4 + a) % 2 = a % 2 by omega]
theorem grid_ag (qs : List Sq) (n t : Nat) {a b : Nat} (ha : a < 4) (hb : b < 4) : AgF (valQ qs (n + 2) t) (valQ qs n (gridQ qs t (b * 4 + a))) ((a : Int) * sideI n) ((b : Int) * sideI n) (sideI n) := fun x y h1 h2 h3 h4 => (grid_at ha hb ⟨h1, h2⟩ ⟨h3, h4⟩).symm
theorem val_sup (qs : List Sq) (n t : Nat) : SuF (valQ qs n t) (sideI n) := fun x y h => val_out n t x y h
def LpS (born stay k : Nat) (qs : List Sq) (n t r : Nat) : Prop := MdF born stay (2 ^ min k (n + 2)) (valQ qs (n + 1) t) (valQ qs n r) (qrI n)
def JnS4 (qs : List Sq) (n t a b c d : Nat) : Prop := ∀ x y, valQ qs (n + 1) t x y = jnF (valQ qs n a) (valQ qs n b) (valQ qs n c) (valQ qs n d) (sideI n) x y
theorem look_step {born stay k : Nat} {qs : List Sq} {n t r : Nat} {P N Q M : Nat → Nat}
  (hP : ∀ i, i < 9 → JnS4 qs n (P i) (gridQ qs t (i / 3 * 4 + i % 3)) (gridQ qs t (i / 3 * 4 + i % 3 + 1)) (gridQ qs t (i / 3 * 4 + i % 3 + 4)) (gridQ qs t (i / 3 * 4 + i % 3 + 5)))
  (hN : ∀ i, i < 9 → LpS born stay k qs n (P i) (N i))
  (hQ : ∀ i, i < 4 → JnS4 qs n (Q i) (N (i / 2 * 3 + i % 2)) (N (i / 2 * 3 + i % 2 + 1)) (N (i / 2 * 3 + i % 2 + 3)) (N (i / 2 * 3 + i % 2 + 4)))
  (hM : ∀ i, i < 4 → if n + 3 > k then MdF born stay 0 (valQ qs (n + 1) (Q i)) (valQ qs n (M i)) (qrI n) else LpS born stay k qs n (Q i) (M i))
  (hR : JnS4 qs n r (M 0) (M 1) (M 2) (M 3)) : LpS born stay k qs (n + 1) t r := by
 have p := sideI_pos n
 have s2 := qr_side n
 have tl : ((2 ^ min k (n + 2) : Nat) : Int) ≤ qrI n := by
  rw [← qr_pow]
  exact Int.ofNat_le.2 (Nat.pow_le_pow_right (by decide) (Nat.min_le_right _ _))
 obtain ⟨u, ul, ue, um⟩ : ∃ u : Nat, (u : Int) ≤ qrI n ∧ 2 ^ min k (n + 2) + u = 2 ^ min k (n + 3) ∧ ∀ i, i < 4 → MdF born stay u (valQ qs (n + 1) (Q i)) (valQ qs n (M i)) (qrI n) := by
  by_cases c : n + 3 > k
  ·refine ⟨0, by omega, by rw [Nat.min_eq_left (by omega), Nat.min_eq_left (by omega), Nat.add_zero], fun i hi => ?_⟩
   have := hM i hi
   rw [if_pos c] at this
   exact this
  ·refine ⟨2 ^ min k (n + 2), tl, by rw [Nat.min_eq_right (by omega), Nat.min_eq_right (by omega), Nat.pow_succ 2 (n + 2)]; omega, fun i hi => ?_⟩
   have := hM i hi
   rw [if_neg c] at this
   exact this
 have g := gosper2 (born := born) (stay := stay) (t := 2 ^ min k (n + 2)) (u := u) (V := valQ qs (n + 2) t) (R := valQ qs (n + 1) r) (P := fun i => valQ qs (n + 1) (P i)) (N := fun i => valQ qs n (N i)) (Q := fun i => valQ qs (n + 1) (Q i)) (M := fun i => valQ qs n (M i)) (h := qrI n) (by omega) tl ul
  (fun i hi => by
   have a0 := grid_ag qs n t (a := i % 3) (b := i / 3) (by omega) (by omega)
   have a1 := grid_ag qs n t (a := i % 3 + 1) (b := i / 3) (by omega) (by omega)
   have a2 := grid_ag qs n t (a := i % 3) (b := i / 3 + 1) (by omega) (by omega)
   have a3 := grid_ag qs n t (a := i % 3 + 1) (b := i / 3 + 1) (by omega) (by omega)
   rw [Int.natCast_add, Int.add_mul, show ((1 : Nat) : Int) * sideI n = sideI n by simp] at a1 a2 a3
   rw [Int.natCast_add, Int.add_mul, show ((1 : Nat) : Int) * sideI n = sideI n by simp] at a3
   rw [show i / 3 * 4 + (i % 3 + 1) = i / 3 * 4 + i % 3 + 1 by omega] at a1
   rw [show (i / 3 + 1) * 4 + i % 3 = i / 3 * 4 + i % 3 + 4 by omega] at a2
   rw [show (i / 3 + 1) * 4 + (i % 3 + 1) = i / 3 * 4 + i % 3 + 5 by omega] at a3
   have j := jn_ag (val_sup _ _ _) (val_sup _ _ _) (val_sup _ _ _) (val_sup _ _ _) a0 a1 a2 a3
   rw [← s2, show 4 * qrI n = 2 * sideI n by omega]
   exact j.eq fun x y _ _ _ _ => hP i hi x y)
  (fun i hi => by rw [← s2]; exact val_sup _ _ _) (fun i hi => hN i hi)
  (fun i hi x y _ _ _ _ => by rw [← s2]; exact hQ i hi x y)
  (fun i hi => by rw [← s2]; exact val_sup _ _ _) um
  (fun x y _ _ _ _ => by rw [← s2]; exact hR x y)
 unfold LpS
 rw [qr_next]
 intro x y h1 h2 h3 h4
 rw [g x y h1 (by omega) h3 (by omega), ue, Int.add_comm (2 * qrI n) x, Int.add_comm (2 * qrI n) y]
open Go.RowKit
structure FldA (w : World) (B sb t L : Nat) (fr fd : Int) (M : Int) (F : Int → Int → Int) (n g cap : Nat) (qs : List Sq) (mp : Option (Nat × Nat) := none) : Prop where
 stk : StkA w sb B g cap qs mp
 wf : WFQ qs n t
 lev : L = n + 3
 one : 1 ≤ n
 hi : n ≤ 43
 r1 : -M ≤ fr
 r2 : fr + sideI n ≤ M
 d1 : -M ≤ fd
 d2 : fd + sideI n ≤ M
 val : ∀ u v, valQ qs n t (u - fr) (v - fd) = F u v
structure KpF (sb g : Nat) (V V' : World) (mp : Option (Nat × Nat) := none) : Prop where
 os : V'.os = V.os
 tape : V'.tape = V.tape
 output : V'.output = V.output
 size : V.heap.size ≤ V'.heap.size
 keepM : ∀ k, k < V.heap.size → k ≠ sb → k ≠ g → ¬ mpB mp k → V'.heap[k]? = V.heap[k]?
theorem KpF.keep {sb g : Nat} {V V' : World} (h : KpF sb g V V') : ∀ k, k < V.heap.size → k ≠ sb → k ≠ g → V'.heap[k]? = V.heap[k]? := fun k a b c => h.keepM k a b c id
theorem KpF.of_below {sb g : Nat} {V V' : World} {mp : Option (Nat × Nat)} (h : Below V.heap.size V V') : KpF sb g V V' mp := ⟨h.os, h.tape, h.output, h.size, fun k hk _ _ _ => h.block k hk⟩
theorem KpF.of_kps {sb g g' : Nat} {V V' : World} {mp : Option (Nat × Nat)} (h : KpS sb g g' V V' mp) : KpF sb g V V' mp := ⟨h.os, h.tape, h.output, h.size, h.keepM⟩
def TgtF (n : Nat) (F : Int → Int → Int) : Prop := n ≤ 1 ∨ ∃ u v u' v', F u v ≠ 0 ∧ F u' v' ≠ 0 ∧ (sideI (n - 2) < u' - u ∨ sideI (n - 2) < v' - v)
theorem grid_lives {qs : List Sq} (hS : StQ qs) {n t : Nat} (hw : WFQ qs (n + 2) t) {i : Nat} (hi : i < 16) (h0 : gridQ qs t i ≠ 0) : ∃ x y : Int, (((i % 4 : Nat) : Int) * sideI n ≤ x ∧ x < ((i % 4 : Nat) : Int) * sideI n + sideI n) ∧ (((i / 4 : Nat) : Int) * sideI n ≤ y ∧ y < ((i / 4 : Nat) : Int) * sideI n + sideI n) ∧ valQ qs (n + 2) t x y ≠ 0 := by
 obtain ⟨x, y, hx, hy, hv⟩ := wf_lives hS (grid_wf hS hw i) h0
 refine ⟨((i % 4 : Nat) : Int) * sideI n + x, ((i / 4 : Nat) : Int) * sideI n + y, by omega, by omega, ?_⟩
 rw [grid_at (a := i % 4) (b := i / 4) (by omega) (by omega) hx hy, show i / 4 * 4 + i % 4 = i by omega]
 exact hv
theorem FarQ.tight {qs : List Sq} (hS : StQ qs) {n t : Nat} (hw : WFQ qs (n + 2) t) (h : FarQ (gridQ qs t)) {F : Int → Int → Int} {fr fd : Int} (hv : ∀ u v, valQ qs (n + 2) t (u - fr) (v - fd) = F u v) : TgtF (n + 2) F := by
 obtain ⟨i, j, hi, hj, fi, fj, hf⟩ := h
 obtain ⟨x, y, hx, hy, v1⟩ := grid_lives hS hw hi fi
 obtain ⟨x', y', hx', hy', v2⟩ := grid_lives hS hw hj fj
 have p := sideI_pos n
 have m : ∀ a b : Nat, a + 2 ≤ b → (a : Int) * sideI n + 2 * sideI n ≤ (b : Int) * sideI n := fun a b hab => by
  rw [← Int.add_mul]
  exact Int.mul_le_mul_of_nonneg_right (by omega) (by omega)
 refine Or.inr ⟨x + fr, y + fd, x' + fr, y' + fd, by rw [← hv, show x + fr - fr = x by omega, show y + fd - fd = y by omega]; exact v1, by rw [← hv, show x' + fr - fr = x' by omega, show y' + fd - fd = y' by omega]; exact v2, ?_⟩
 rw [show n + 2 - 2 = n by omega]
 rcases hf with q | q
 ·have := m _ _ q
  left; omega
 ·have := m _ _ q
  right; omega
def TrM (mp0 : Option (Nat × Nat)) (B : Nat) (M : Int) (F : Int → Int → Int) (K sb0 g0 : Nat) (w : World) (e : Ending) (w' : World) : Prop :=
 ∃ sb t L fr fd n g cap qs mp, e = .returned (.agg #[.pointer (some ⟨sb, 0, none⟩), .int .i32 ((t : Nat) : Int), .int .i64 ((L : Nat) : Int), .int .i64 fr, .int .i64 fd]) ∧ FldA w' B sb t L fr fd M F n g cap qs mp ∧ qs.length ≤ K ∧ Below B w w' ∧ KpF sb0 g0 w w' mp0 ∧ TgtF n F ∧ (mp = mp0 ∨ mp = none)
theorem FldA.mono {w : World} {B sb t L : Nat} {fr fd M M' : Int} {F : Int → Int → Int} {n g cap : Nat} {qs : List Sq} {mp : Option (Nat × Nat)} (h : FldA w B sb t L fr fd M F n g cap qs mp) (hm : M ≤ M') : FldA w B sb t L fr fd M' F n g cap qs mp :=
 ⟨h.stk, h.wf, h.lev, h.one, h.hi, by have := h.r1; omega, by have := h.r2; omega, by have := h.d1; omega, by have := h.d2; omega, h.val⟩
set_option maxRecDepth 100000 in
set_option maxHeartbeats 6400000 in
theorem trimmed_zero (mp : Option (Nat × Nat)) (B sb L : Nat) (fr fd M : Int) (F : Int → Int → Int) (n g cap : Nat) (qs : List Sq) (w : World) (h : FldA w B sb 0 L fr fd M F n g cap qs mp) (hM : 16 ≤ M) (hB : B ≤ w.heap.size) :
  Calls Tryz.prog 46 #[.agg #[.pointer (some ⟨sb, 0, none⟩), .int .i32 0, .int .i64 (L : Int), .int .i64 fr, .int .i64 fd]] w (TrM mp B M F (qs.length + n) sb g w) := by
 obtain ⟨w2, hw2⟩ : ∃ w2, (w.alloc (.cells #[.pointer (some ⟨sb, 0, none⟩), .int .i32 0, .int .i64 (L : Int), .int .i64 fr, .int .i64 fd] 72)).alloc (.cells #[.pointer none, .int .i32 0, .int .i64 0, .int .i64 0, .int .i64 0] 72) = w2 := ⟨_, rfl⟩
 obtain ⟨fb, hfbb⟩ : ∃ fb, w.heap.size = fb := ⟨_, rfl⟩
 have HW2 := hide' hw2
 have HFB := hide' hfbb
 have B2 := hide' (show Below w.heap.size w w2 by rw [← hw2]; exact ((Below.refl _ _).alloc (Nat.le_refl _) _).alloc (by simp) _)
 have F2 := hide' (show w2.heap[fb]? = some (.cells #[.pointer (some ⟨sb, 0, none⟩), .int .i32 0, .int .i64 (L : Int), .int .i64 fr, .int .i64 fd] 72 (0, 0)) by rw [← hw2, ← hfbb]; exact (heap_alloc_old _ _ (by simp)).trans (heap_alloc_new w _))
 have R2 := hide' (show w2.heap[fb + 1]? = some (.cells #[.pointer none, .int .i32 0, .int .i64 0, .int .i64 0, .int .i64 0] 72 (0, 0)) by rw [← hw2]; exact heap_atX _ _ _ (by simp [hfbb]))
 have Z2 := hide' (show w2.heap.size = fb + 2 by rw [← hw2]; simp [hfbb])
 have f1 := cell_of_row w2 fb 1 _ _ _ F2.out
 simp at f1
 have HF := hide' (fun u v => show (0 : Int) = F u v by rw [← h.val, val_nil h.stk.st])
 have HK := hide' (show 1 ≤ qs.length + n from by have := h.one; omega)
 have HM := hide' hM
 have HBB := hide' hB
 clear hw2 hfbb h hM hB
 go_enter Tryz.func46, Tryz.ntmps46
 go_upto_region 1 with fail
 rw [HW2.out, HFB.out]
 go_wp2_with fail
 refine (emptyField_any w2).mono ?_
 rintro e w3 ⟨sb', g', rfl, hs, b⟩
 have r3 := (b.block _ (lt_of_block R2.out)).trans R2.out
 have d0 := cell_of_row w3 (fb + 1) 0 _ _ _ r3
 have d1 := cell_of_row w3 (fb + 1) 1 _ _ _ r3
 have d2 := cell_of_row w3 (fb + 1) 2 _ _ _ r3
 have d3 := cell_of_row w3 (fb + 1) 3 _ _ _ r3
 have d4 := cell_of_row w3 (fb + 1) 4 _ _ _ r3
 have g0 := frozen_of_row w3 (fb + 1) 0 _ _ r3
 have g1 := frozen_of_row w3 (fb + 1) 1 _ _ r3
 have g2 := frozen_of_row w3 (fb + 1) 2 _ _ r3
 have g3 := frozen_of_row w3 (fb + 1) 3 _ _ r3
 have g4 := frozen_of_row w3 (fb + 1) 4 _ _ r3
 simp at d0 d1 d2 d3 d4
 have HS := hide' hs
 have R3 := hide' r3
 have BB := hide' b
 clear hs r3 b
 go_wp2
 obtain ⟨X, hX⟩ : ∃ X, ((((w3.setCell ⟨fb + 1, 0, none⟩ (.pointer (some ⟨sb', 0, none⟩))).setCell ⟨fb + 1, 1, none⟩ (.int .i32 0)).setCell ⟨fb + 1, 2, none⟩ (.int .i64 4)).setCell ⟨fb + 1, 3, none⟩ (.int .i64 0)).setCell ⟨fb + 1, 4, none⟩ (.int .i64 0) = X := ⟨_, rfl⟩
 have GX : X.heap[fb + 1]? = some (.cells #[.pointer (some ⟨sb', 0, none⟩), .int .i32 0, .int .i64 4, .int .i64 0, .int .i64 0] 72 (0, 0)) := by rw [← hX]; exact five_stored R3.out _ _ _ _ _
 have zz := And.intro Z2.out (And.intro HFB.out HBB.out)
 have SX : StkA X sb' B g' 1 [zQ] := by
  rw [← hX]
  have := HS.out.le
  have := HS.out.rowB.1
  exact (HS.out.weakB (by omega)).keep (five_else (by omega) _ _ _ _ _) (five_else (by omega) _ _ _ _ _)
 have BX0 : Below w.heap.size w X := by
  rw [← hX]
  exact five_belowH (B2.out.trans (BB.out.mono (by omega))) (by omega) _ _ _ _ _
 have BX : Below B w X := BX0.mono HBB.out
 rw [hX]
 clear hX d0 d1 d2 d3 d4 g0 g1 g2 g3 g4
 have i0 := cell_of_row X _ 0 _ _ _ GX
 have i1 := cell_of_row X _ 1 _ _ _ GX
 have i2 := cell_of_row X _ 2 _ _ _ GX
 have i3 := cell_of_row X _ 3 _ _ _ GX
 have i4 := cell_of_row X _ 4 _ _ _ GX
 simp at i0 i1 i2 i3 i4
 refine bodyPost_ret (v := .agg #[.pointer (some ⟨sb', 0, none⟩), .int .i32 0, .int .i64 4, .int .i64 0, .int .i64 0]) (by simp [results, Tryz.results46, go_sem, i0, i1, i2, i3, i4]) rfl ?_
 have s16 : sideI 1 = 16 := by decide
 exact ⟨sb', 0, 4, 0, 0, 1, g', 1, [zQ], none, rfl, ⟨SX, WFQ.nil _ _, rfl, by omega, by omega, by have := HM.out; omega, by have := HM.out; omega, by have := HM.out; omega, by have := HM.out; omega, fun u v => by rw [val_nil SX.st]; exact HF.out u v⟩, by have := HK.out; simpa using this, BX, KpF.of_below BX0, Or.inl (by omega), Or.inr rfl⟩
end Go.Proofs.YtemhcpldflcfbaaGreatDoor
