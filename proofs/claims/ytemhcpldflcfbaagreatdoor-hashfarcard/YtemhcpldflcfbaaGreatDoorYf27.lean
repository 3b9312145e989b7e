/-
  What the last text of this claim leans on, part 27: Hu1, Hu2, Hu3, Hu4, Hk1.
-/
import Derived.Test.YtemhcpldflcfbaaGreatDoorYf18
import Derived.Test.YtemhcpldflcfbaaGreatDoorYf3
import Derived.Test.YtemhcpldflcfbaaGreatDoorYf21
namespace Go.Proofs.YtemhcpldflcfbaaGreatDoor
set_option linter.unusedVariables false
theorem pigU : ∀ (N k : Nat) (f : Nat → Nat), (∀ i, i < k → f i < N) → (∀ i j, i < k → j < k → f i = f j → i = j) → k ≤ N
 | 0, k, f, h, _ => by
  rcases Nat.eq_zero_or_pos k with z | z
  ·omega
  ·have := h 0 z; omega
 | N + 1, k, f, h, hi => by
  by_cases e : ∃ i, i < k ∧ f i = N
  ·obtain ⟨i, ik, fi⟩ := e
   have := pigU N (k - 1) (fun j => if j < i then f j else f (j + 1)) (fun j hj => by
    show (if j < i then f j else f (j + 1)) < N
    split
    ·rename_i c
     have a := h j (by omega)
     have b : f j ≠ N := fun q => by have := hi j i (by omega) ik (by omega); omega
     omega
    ·rename_i c
     have a := h (j + 1) (by omega)
     have b : f (j + 1) ≠ N := fun q => by have := hi (j + 1) i (by omega) ik (by omega); omega
     omega) (fun a b ha hb q => by
    have q : (if a < i then f a else f (a + 1)) = (if b < i then f b else f (b + 1)) := q
    split at q <;> split at q
    ·exact hi _ _ (by omega) (by omega) q
    ·have := hi _ _ (by omega) (by omega) q; omega
    ·have := hi _ _ (by omega) (by omega) q; omega
    ·have := hi _ _ (by omega) (by omega) q; omega)
   omega
  ·have := pigU N k f (fun i hik => by
    have a := h i hik
    have b : f i ≠ N := fun q => e ⟨i, hik, q⟩
    omega) hi
   omega
theorem val_inj {qs : List Sq} (hS : StQ qs) (hU : UnQ qs) : ∀ {n s t : Nat}, WFQ qs n s → WFQ qs n t → (∀ x y, valQ qs n s x y = valQ qs n t x y) → s = t
 | n, s, t, hs, ht, hv => by
  by_cases s0 : s = 0
  ·by_cases t0 : t = 0
   ·rw [s0, t0]
   ·obtain ⟨x, y, -, -, h⟩ := wf_lives hS ht t0
    exact absurd (by rw [← hv, s0, val_nil hS]) h
  ·by_cases t0 : t = 0
   ·obtain ⟨x, y, -, -, h⟩ := wf_lives hS hs s0
    exact absurd (by rw [hv, t0, val_nil hS]) h
   ·have sl := hs.lt hS
    have tl := ht.lt hS
    match n, hs, ht, hv with
    | 0, hs, ht, hv =>
     rcases hs with h | ⟨_, k1, k2⟩
     ·exact absurd h s0
     ·rcases ht with h | ⟨_, l1, l2⟩
      ·exact absurd h t0
      ·have e : (sqA qs s).k = (sqA qs t).k := by
        refine Nat.eq_of_testBit_eq fun j => ?_
        by_cases j64 : j < 64
        ·have := hv ((j % 8 : Nat) : Int) ((j / 8 : Nat) : Int)
         show _ = _
         have a : valQ qs 0 s ((j % 8 : Nat) : Int) ((j / 8 : Nat) : Int) = bitQ (sqA qs s).k ((j % 8 : Nat) : Int) ((j / 8 : Nat) : Int) := rfl
         have b : valQ qs 0 t ((j % 8 : Nat) : Int) ((j / 8 : Nat) : Int) = bitQ (sqA qs t).k ((j % 8 : Nat) : Int) ((j / 8 : Nat) : Int) := rfl
         rw [a, b, bitQ_nat _ (by omega) (by omega), bitQ_nat _ (by omega) (by omega), show 8 * (j / 8) + j % 8 = j by omega] at this
         cases h1 : (sqA qs s).k.testBit j <;> cases h2 : (sqA qs t).k.testBit j <;> rw [h1, h2] at this <;> simp at this <;> rfl
        ·have p : 2 ^ 64 ≤ 2 ^ j := Nat.pow_le_pow_right (by decide) (by omega)
         rw [Nat.testBit_lt_two_pow (by omega), Nat.testBit_lt_two_pow (by omega)]
       obtain ⟨a1, a2, a3, a4⟩ := hU.2 s sl k1
       obtain ⟨b1, b2, b3, b4⟩ := hU.2 t tl l1
       exact hU.1 s t sl tl (by rw [a1, b1]) (by rw [a2, b2]) (by rw [a3, b3]) (by rw [a4, b4]) e
    | n + 1, hs, ht, hv =>
     rcases hs with h | ⟨_, k1, _, wa, wb, wc, wd⟩
     ·exact absurd h s0
     ·rcases ht with h | ⟨_, l1, _, xa, xb, xc, xd⟩
      ·exact absurd h t0
      ·have p := sideI_pos n
       have q : ∀ (i j : Nat) (u v : Nat), i < 2 → j < 2 → (∀ x y, 0 ≤ x → x < sideI n → 0 ≤ y → y < sideI n → valQ qs (n + 1) s ((i : Int) * sideI n + x) ((j : Int) * sideI n + y) = valQ qs n u x y) → (∀ x y, 0 ≤ x → x < sideI n → 0 ≤ y → y < sideI n → valQ qs (n + 1) t ((i : Int) * sideI n + x) ((j : Int) * sideI n + y) = valQ qs n v x y) → ∀ x y, valQ qs n u x y = valQ qs n v x y := fun i j u v hi hj h1 h2 x y => by
        by_cases c : 0 ≤ x ∧ x < sideI n ∧ 0 ≤ y ∧ y < sideI n
        ·rw [← h1 x y c.1 c.2.1 c.2.2.1 c.2.2.2, ← h2 x y c.1 c.2.1 c.2.2.1 c.2.2.2, hv]
        ·rw [val_out n u x y c, val_out n v x y c]
       have st : ∀ z x y, 0 ≤ x → x < sideI n → 0 ≤ y → y < sideI n → valQ qs (n + 1) z ((0 : Nat) * sideI n + x) ((0 : Nat) * sideI n + y) = valQ qs n (sqA qs z).a x y ∧ valQ qs (n + 1) z ((1 : Nat) * sideI n + x) ((0 : Nat) * sideI n + y) = valQ qs n (sqA qs z).b x y ∧ valQ qs (n + 1) z ((0 : Nat) * sideI n + x) ((1 : Nat) * sideI n + y) = valQ qs n (sqA qs z).c x y ∧ valQ qs (n + 1) z ((1 : Nat) * sideI n + x) ((1 : Nat) * sideI n + y) = valQ qs n (sqA qs z).d x y := fun z x y h1 h2 h3 h4 => by
        have e0 : ∀ x : Int, ((0 : Nat) : Int) * sideI n + x = x := fun x => by simp
        have e1 : ∀ x : Int, ((1 : Nat) : Int) * sideI n + x = sideI n + x := fun x => by simp
        rw [e0, e0, e1, e1]
        have e2 : ∀ x : Int, sideI n + x - sideI n = x := fun x => by omega
        refine ⟨?_, ?_, ?_, ?_⟩
        ·rw [val_step, val_out n _ (x - sideI n) y (by omega), val_out n _ x (y - sideI n) (by omega), val_out n _ (x - sideI n) (y - sideI n) (by omega)]; omega
        ·rw [val_step, e2, val_out n _ (sideI n + x) y (by omega), val_out n _ (sideI n + x) (y - sideI n) (by omega), val_out n _ x (y - sideI n) (by omega)]; omega
        ·rw [val_step, e2, val_out n _ x (sideI n + y) (by omega), val_out n _ (x - sideI n) (sideI n + y) (by omega), val_out n _ (x - sideI n) y (by omega)]; omega
        ·rw [val_step, e2, e2, val_out n _ (sideI n + x) (sideI n + y) (by omega), val_out n _ x (sideI n + y) (by omega), val_out n _ (sideI n + x) y (by omega)]; omega
       have ea := val_inj hS hU wa xa (q 0 0 _ _ (by omega) (by omega) (fun x y h1 h2 h3 h4 => (st s x y h1 h2 h3 h4).1) (fun x y h1 h2 h3 h4 => (st t x y h1 h2 h3 h4).1))
       have eb := val_inj hS hU wb xb (q 1 0 _ _ (by omega) (by omega) (fun x y h1 h2 h3 h4 => (st s x y h1 h2 h3 h4).2.1) (fun x y h1 h2 h3 h4 => (st t x y h1 h2 h3 h4).2.1))
       have ec := val_inj hS hU wc xc (q 0 1 _ _ (by omega) (by omega) (fun x y h1 h2 h3 h4 => (st s x y h1 h2 h3 h4).2.2.1) (fun x y h1 h2 h3 h4 => (st t x y h1 h2 h3 h4).2.2.1))
       have ed := val_inj hS hU wd xd (q 1 1 _ _ (by omega) (by omega) (fun x y h1 h2 h3 h4 => (st s x y h1 h2 h3 h4).2.2.2) (fun x y h1 h2 h3 h4 => (st t x y h1 h2 h3 h4).2.2.2))
       exact hU.1 s t sl tl ea eb ec ed (by rw [k1, l1])
 termination_by n => n
def qN (n : Nat) : Nat := 2 ^ (n + 1)
theorem qN_pos (n : Nat) : 2 ≤ qN n := by
 unfold qN
 rw [Nat.pow_succ]
 have := Nat.pow_pos (n := n) (show 0 < 2 by omega)
 omega
theorem qN_next (n : Nat) : qN (n + 1) = 2 * qN n := by unfold qN; rw [Nat.pow_succ 2 (n + 1)]; omega
theorem qN_side (n : Nat) : sideI n = 4 * ((qN n : Nat) : Int) := by
 unfold sideI qN
 rw [Nat.pow_succ]
 push_cast
 omega
theorem qN_qr (n : Nat) : qrI n = ((qN (n + 1) : Nat) : Int) := by
 unfold qrI qN
 rw [Nat.pow_succ, Nat.pow_succ]
 push_cast
 omega
def WnF (born stay : Nat) (F : Int → Int → Int) (qs : List Sq) (n u m : Nat) (a b : Int) : Prop := AgF (stF born stay (m * qN n) F) (valQ qs n u) (a * ((qN n : Nat) : Int)) (b * ((qN n : Nat) : Int)) (sideI n)
structure PrF (born stay : Nat) (F : Int → Int → Int) (P : Nat) (R D : Int) : Prop where
 pos : 1 ≤ P ∧ P ≤ 64
 again : stF born stay P F = fun u v => F (-R + u) (-D + v)
 box : ∀ t, ∃ l v, ∀ x y, ¬ (l ≤ x ∧ x < l + 100 ∧ v ≤ y ∧ y < v + 100) → stF born stay t F x y = 0
theorem stA_again {born stay P : Nat} {F : Int → Int → Int} {R D : Int} (h : stF born stay P F = fun u v => F (-R + u) (-D + v)) : ∀ m : Nat, stF born stay (m * P) F = fun u v => F (-(m * R) + u) (-(m * D) + v)
 | 0 => by funext u v; simp [stF_zero]
 | m + 1 => by
  rw [Nat.add_mul, Nat.one_mul, Nat.add_comm, stF_add, h, stF_shift, stA_again h m]
  funext u v
  have e : ∀ z x : Int, -(((m + 1 : Nat) : Int) * z) + x = -((m : Int) * z) + (-z + x) := fun z x => by push_cast; rw [Int.add_mul]; omega
  rw [e R u, e D v]
theorem WnF.phase {born stay : Nat} {F : Int → Int → Int} {P : Nat} {R D : Int} (pr : PrF born stay F P R D) {qs : List Sq} {n u m : Nat} {a b : Int} (h : WnF born stay F qs n u m a b) : WnF born stay F qs n u (m % P) (a - ((m / P : Nat) : Int) * R) (b - ((m / P : Nat) : Int) * D) := by
 obtain ⟨k, hk⟩ : ∃ k, m / P = k := ⟨_, rfl⟩
 obtain ⟨r, hr⟩ : ∃ k, m % P = k := ⟨_, rfl⟩
 obtain ⟨q, hq⟩ : ∃ q, qN n = q := ⟨_, rfl⟩
 have e : m * q = (k * q) * P + r * q := by
  have := Nat.div_add_mod m P
  rw [hk, hr] at this
  rw [← this, Nat.add_mul]
  congr 1
  rw [Nat.mul_comm P k, Nat.mul_assoc, Nat.mul_assoc, Nat.mul_comm P q]
 unfold WnF at h ⊢
 rw [hk, hr]
 rw [hq] at h ⊢
 rw [e, stF_add, stA_again pr.again, stF_shift] at h
 intro x y h1 h2 h3 h4
 rw [h x y h1 h2 h3 h4]
 have e1 : ∀ z w R x : Int, -(((k * q : Nat) : Int) * R) + (z * (q : Int) + x) = (z - (k : Int) * R) * (q : Int) + x := fun z w R x => by
  push_cast
  rw [Int.sub_mul, Int.mul_assoc, Int.mul_comm (q : Int) R, ← Int.mul_assoc]
  omega
 show stF born stay (r * q) F (-(((k * q : Nat) : Int) * R) + (a * (q : Int) + x)) (-(((k * q : Nat) : Int) * D) + (b * (q : Int) + y)) = _
 rw [e1 a 0, e1 b 0]
def cW (n : Nat) : Nat := 5 + 100 / qN n
def ofW : Nat → Nat
 | 0 => 0
 | n + 1 => ofW n + 64 * (cW n * cW n)
theorem ofW_all : ofW 43 ≤ 350000 := by decide +kernel
theorem ofW_mono : ∀ {a b : Nat}, a ≤ b → ofW a ≤ ofW b
 | a, 0, h => by
  obtain rfl : a = 0 := by omega
  exact Nat.le_refl _
 | a, b + 1, h => by
  rcases Nat.lt_or_ge b a with c | c
  ·obtain rfl : a = b + 1 := by omega
   exact Nat.le_refl _
  ·have := ofW_mono c
   show _ ≤ ofW b + 64 * (cW b * cW b)
   omega
theorem ofW_one {n n' r r' : Nat} (h : ofW n + r = ofW n' + r') (hr : r < 64 * (cW n * cW n)) (hr' : r' < 64 * (cW n' * cW n')) : n = n' ∧ r = r' := by
 have k : ∀ {a b x y : Nat}, ofW a + x = ofW b + y → x < 64 * (cW a * cW a) → ¬ a < b := fun {a b x y} e hx c => by
  have := ofW_mono (show a + 1 ≤ b by omega)
  have e2 : ofW (a + 1) = ofW a + 64 * (cW a * cW a) := rfl
  omega
 have a1 := k h hr
 have a2 := k h.symm hr'
 obtain rfl : n = n' := by omega
 exact ⟨rfl, by omega⟩
theorem dig_one {c m i j m' i' j' : Nat} (hi : i < c) (hj : j < c) (hi' : i' < c) (hj' : j' < c) (h : (m * c + i) * c + j = (m' * c + i') * c + j') : m = m' ∧ i = i' ∧ j = j' := by
 have c0 : 0 < c := by omega
 have d : ∀ a b : Nat, b < c → (a * c + b) / c = a ∧ (a * c + b) % c = b := fun a b hb => ⟨by rw [Nat.mul_comm, Nat.mul_add_div c0, Nat.div_eq_of_lt hb, Nat.add_zero], by rw [Nat.mul_comm, Nat.mul_add_mod]; exact Nat.mod_eq_of_lt hb⟩
 have h1 : m * c + i = m' * c + i' := by rw [← (d (m * c + i) j hj).1, h, (d (m' * c + i') j' hj').1]
 have h2 : j = j' := by rw [← (d (m * c + i) j hj).2, h, (d (m' * c + i') j' hj').2]
 have h3 : m = m' := by rw [← (d m i hi).1, h1, (d m' i' hi').1]
 have h4 : i = i' := by rw [← (d m i hi).2, h1, (d m' i' hi').2]
 exact ⟨h3, h4, h2⟩
theorem place_in {x0 : Int} {q : Nat} (hq : 2 ≤ q) {a x : Int} (hx : 0 ≤ x ∧ x < 4 * (q : Int)) (h : x0 ≤ a * (q : Int) + x ∧ a * (q : Int) + x < x0 + 100) : x0 / (q : Int) - 3 ≤ a ∧ a < x0 / (q : Int) - 3 + ((5 + 100 / q : Nat) : Int) := by
 have q0 : (0 : Int) < (q : Int) := by omega
 obtain ⟨s, hs⟩ : ∃ s, x0 / (q : Int) = s := ⟨_, rfl⟩
 obtain ⟨t, ht⟩ : ∃ t : Nat, 100 / q = t := ⟨_, rfl⟩
 have e1 := Int.mul_ediv_add_emod x0 (q : Int)
 have e2 := Int.emod_nonneg x0 (show (q : Int) ≠ 0 by omega)
 have e3 := Int.emod_lt_of_pos x0 q0
 have e4 := Nat.div_add_mod 100 q
 have e5 := Nat.mod_lt 100 (show 0 < q by omega)
 rw [hs] at e1
 rw [ht] at e4
 rw [hs, ht]
 have e6 : (q : Int) * (t : Int) + ((100 % q : Nat) : Int) = 100 := by have := congrArg (fun z : Nat => (z : Int)) e4; push_cast at this; push_cast; omega
 rw [Int.mul_comm] at e1 e6
 obtain ⟨A, hA⟩ : ∃ A, a * (q : Int) = A := ⟨_, rfl⟩
 rw [hA] at h
 constructor
 ·refine Int.le_of_lt_add_one (Int.lt_of_mul_lt_mul_right (a := (q : Int)) ?_ (Int.le_of_lt q0))
  rw [Int.sub_mul, Int.add_mul, hA]
  omega
 ·refine Int.lt_of_mul_lt_mul_right (a := (q : Int)) ?_ (Int.le_of_lt q0)
  push_cast
  rw [Int.add_mul, Int.sub_mul, Int.add_mul, hA]
  omega
theorem few_sq {born stay : Nat} {F : Int → Int → Int} {P : Nat} {R D : Int} (pr : PrF born stay F P R D) {qs : List Sq} (hS : StQ qs) (hU : UnQ qs) {bs : Nat} (h : ∀ u, bs ≤ u → u < qs.length → u ≠ 0 ∧ ∃ n, n ≤ 42 ∧ WFQ qs n u ∧ ∃ m a b, WnF born stay F qs n u m a b) : qs.length ≤ bs + 350000 := by
 have bx : ∃ f : Nat → Int × Int, ∀ t x y, ¬ ((f t).1 ≤ x ∧ x < (f t).1 + 100 ∧ (f t).2 ≤ y ∧ y < (f t).2 + 100) → stF born stay t F x y = 0 := by
  refine ⟨fun t => (Classical.choose (pr.box t), Classical.choose (Classical.choose_spec (pr.box t))), fun t => Classical.choose_spec (Classical.choose_spec (pr.box t))⟩
 obtain ⟨f, hf⟩ := bx
 have code : ∀ i, i < qs.length - bs → ∃ x n m ia ib : Nat, n ≤ 42 ∧ m < P ∧ ia < cW n ∧ ib < cW n ∧ WFQ qs n (bs + i) ∧ WnF born stay F qs n (bs + i) m ((f (m * qN n)).1 / ((qN n : Nat) : Int) - 3 + (ia : Int)) ((f (m * qN n)).2 / ((qN n : Nat) : Int) - 3 + (ib : Int)) ∧ x = ofW n + ((m * cW n + ia) * cW n + ib) := fun i hi => by
  obtain ⟨u0, n, hn, hw, m, a, b, hwn⟩ := h (bs + i) (by omega) (by omega)
  have hp := hwn.phase pr
  obtain ⟨m', hm'⟩ : ∃ m', m % P = m' := ⟨_, rfl⟩
  obtain ⟨a', ha'⟩ : ∃ a', a - ((m / P : Nat) : Int) * R = a' := ⟨_, rfl⟩
  obtain ⟨b', hb'⟩ : ∃ a', b - ((m / P : Nat) : Int) * D = a' := ⟨_, rfl⟩
  rw [hm', ha', hb'] at hp
  have mP : m' < P := by rw [← hm']; exact Nat.mod_lt _ (by have := pr.pos.1; omega)
  obtain ⟨x, y, hx, hy, hv⟩ := wf_lives hS hw u0
  have ag := hp x y hx.1 hx.2 hy.1 hy.2
  rw [ag] at hv
  have inn : (f (m' * qN n)).1 ≤ a' * ((qN n : Nat) : Int) + x ∧ a' * ((qN n : Nat) : Int) + x < (f (m' * qN n)).1 + 100 ∧ (f (m' * qN n)).2 ≤ b' * ((qN n : Nat) : Int) + y ∧ b' * ((qN n : Nat) : Int) + y < (f (m' * qN n)).2 + 100 := Classical.byContradiction fun g => hv (hf _ _ _ g)
  have sd := qN_side n
  have px := place_in (qN_pos n) (a := a') (x := x) (by omega) ⟨inn.1, inn.2.1⟩
  have py := place_in (qN_pos n) (a := b') (x := y) (by omega) ⟨inn.2.2.1, inn.2.2.2⟩
  refine ⟨_, n, m', (a' - ((f (m' * qN n)).1 / ((qN n : Nat) : Int) - 3)).toNat, (b' - ((f (m' * qN n)).2 / ((qN n : Nat) : Int) - 3)).toNat, hn, mP, by unfold cW; omega, by unfold cW; omega, hw, ?_, rfl⟩
  rw [show (f (m' * qN n)).1 / ((qN n : Nat) : Int) - 3 + (((a' - ((f (m' * qN n)).1 / ((qN n : Nat) : Int) - 3)).toNat : Nat) : Int) = a' by omega, show (f (m' * qN n)).2 / ((qN n : Nat) : Int) - 3 + (((b' - ((f (m' * qN n)).2 / ((qN n : Nat) : Int) - 3)).toNat : Nat) : Int) = b' by omega]
  exact hp
 have lt : ∀ {n m ia ib : Nat}, m < P → ia < cW n → ib < cW n → (m * cW n + ia) * cW n + ib < 64 * (cW n * cW n) := fun {n m ia ib} h1 h2 h3 => by
  obtain ⟨c, hc⟩ : ∃ c, cW n = c := ⟨_, rfl⟩
  rw [hc] at h2 h3 ⊢
  have p := pr.pos.2
  have a1 : (m * c + ia) + 1 ≤ (m + 1) * c := by rw [Nat.add_mul, Nat.one_mul]; omega
  have a2 : (m + 1) * c ≤ 64 * c := Nat.mul_le_mul_right c (by omega)
  have a3 : ((m * c + ia) + 1) * c ≤ (64 * c) * c := Nat.mul_le_mul_right c (Nat.le_trans a1 a2)
  rw [Nat.add_mul, Nat.one_mul, Nat.mul_assoc] at a3
  omega
 have hc : ∃ g : Nat → Nat, ∀ i, i < qs.length - bs → ∃ n m ia ib : Nat, n ≤ 42 ∧ m < P ∧ ia < cW n ∧ ib < cW n ∧ WFQ qs n (bs + i) ∧ WnF born stay F qs n (bs + i) m ((f (m * qN n)).1 / ((qN n : Nat) : Int) - 3 + (ia : Int)) ((f (m * qN n)).2 / ((qN n : Nat) : Int) - 3 + (ib : Int)) ∧ g i = ofW n + ((m * cW n + ia) * cW n + ib) :=
  ⟨fun i => if hi : i < qs.length - bs then Classical.choose (code i hi) else 0, fun i hi => by
   have := Classical.choose_spec (code i hi)
   simp only [dif_pos hi]
   exact this⟩
 obtain ⟨g, hg⟩ := hc
 have := pigU 350000 (qs.length - bs) g (fun i hi => by
  obtain ⟨n, m, ia, ib, h1, h2, h3, h4, -, -, h5⟩ := hg i hi
  have a := lt h2 h3 h4
  have b := ofW_mono (show n + 1 ≤ 43 by omega)
  have e : ofW (n + 1) = ofW n + 64 * (cW n * cW n) := rfl
  have := ofW_all
  omega) (fun i j hi hj e => by
  obtain ⟨n, m, ia, ib, h1, h2, h3, h4, hw, hn, h5⟩ := hg i hi
  obtain ⟨n', m', ia', ib', k1, k2, k3, k4, kw, kn, k5⟩ := hg j hj
  obtain ⟨rfl, er⟩ := ofW_one (by rw [← h5, ← k5, e]) (lt h2 h3 h4) (lt k2 k3 k4)
  obtain ⟨rfl, rfl, rfl⟩ := dig_one h3 h4 k3 k4 er
  have := val_inj hS hU hw kw (fun x y => by
   by_cases c : 0 ≤ x ∧ x < sideI n ∧ 0 ≤ y ∧ y < sideI n
   ·rw [hn x y c.1 c.2.1 c.2.2.1 c.2.2.2, kn x y c.1 c.2.1 c.2.2.1 c.2.2.2]
   ·rw [val_out n _ x y c, val_out n _ x y c])
  omega)
 omega
theorem AgF.in {F V U : Int → Int → Int} {a b c d S T : Int} (h : AgF F V a b S) (k : AgF V U c d T) (hc : 0 ≤ c ∧ c + T ≤ S) (hd : 0 ≤ d ∧ d + T ≤ S) : AgF F U (a + c) (b + d) T := fun x y h1 h2 h3 h4 => by
 rw [k x y h1 h2 h3 h4, h (c + x) (d + y) (by omega) (by omega) (by omega) (by omega), show a + (c + x) = a + c + x by omega, show b + (d + y) = b + d + y by omega]
theorem WnF.app {born stay : Nat} {F : Int → Int → Int} {qs : List Sq} (hS : StQ qs) {n u m : Nat} {a b : Int} (hw : WFQ qs n u) (h : WnF born stay F qs n u m a b) (ms : List Sq) : WnF born stay F (qs ++ ms) n u m a b := fun x y h1 h2 h3 h4 => by
 rw [hw.val hS ms]
 exact h x y h1 h2 h3 h4
theorem wn_part {born stay : Nat} {F : Int → Int → Int} {qs : List Sq} {n t P i m : Nat} {a b : Int} (hi : i < 9) (h : WnF born stay F qs (n + 2) t m a b) (j : JnS4 qs n P (gridQ qs t (i / 3 * 4 + i % 3)) (gridQ qs t (i / 3 * 4 + i % 3 + 1)) (gridQ qs t (i / 3 * 4 + i % 3 + 4)) (gridQ qs t (i / 3 * 4 + i % 3 + 5))) : WnF born stay F qs (n + 1) P (2 * m) (2 * a + 2 * ((i % 3 : Nat) : Int)) (2 * b + 2 * ((i / 3 : Nat) : Int)) := by
 have a0 := grid_ag qs n t (a := i % 3) (b := i / 3) (by omega) (by omega)
 have a1 := grid_ag qs n t (a := i % 3 + 1) (b := i / 3) (by omega) (by omega)
 have a2 := grid_ag qs n t (a := i % 3) (b := i / 3 + 1) (by omega) (by omega)
 have a3 := grid_ag qs n t (a := i % 3 + 1) (b := i / 3 + 1) (by omega) (by omega)
 rw [Int.natCast_add, Int.add_mul, show ((1 : Nat) : Int) * sideI n = sideI n by simp] at a1 a2 a3
 rw [Int.natCast_add, Int.add_mul, show ((1 : Nat) : Int) * sideI n = sideI n by simp] at a3
 rw [show i / 3 * 4 + (i % 3 + 1) = i / 3 * 4 + i % 3 + 1 by omega] at a1
 rw [show (i / 3 + 1) * 4 + i % 3 = i / 3 * 4 + i % 3 + 4 by omega] at a2
 rw [show (i / 3 + 1) * 4 + (i % 3 + 1) = i / 3 * 4 + i % 3 + 5 by omega] at a3
 have g := jn_ag (val_sup _ _ _) (val_sup _ _ _) (val_sup _ _ _) (val_sup _ _ _) a0 a1 a2 a3
 have g2 : AgF (valQ qs (n + 2) t) (valQ qs (n + 1) P) (((i % 3 : Nat) : Int) * sideI n) (((i / 3 : Nat) : Int) * sideI n) (2 * sideI n) := g.eq fun x y _ _ _ _ => j x y
 have p := sideI_pos n
 have s1 := sideI_next n
 have s2 : sideI (n + 2) = 2 * sideI (n + 1) := sideI_next (n + 1)
 have q1 := qN_side (n + 1)
 have e1 : m * qN (n + 2) = 2 * m * qN (n + 1) := by rw [qN_next, ← Nat.mul_assoc, Nat.mul_comm m 2]
 have e2 : ∀ z : Int, z * ((qN (n + 2) : Nat) : Int) = 2 * z * ((qN (n + 1) : Nat) : Int) := fun z => by
  rw [qN_next]; push_cast; rw [← Int.mul_assoc, Int.mul_comm z 2]
 have bd : ∀ z : Nat, z < 3 → 0 ≤ (z : Int) * sideI n ∧ (z : Int) * sideI n + 2 * sideI n ≤ sideI (n + 2) := fun z hz => by
  have : z = 0 ∨ z = 1 ∨ z = 2 := by omega
  rcases this with rfl | rfl | rfl <;> simp <;> omega
 have r := h.in g2 (bd _ (by omega)) (bd _ (by omega))
 unfold WnF
 rw [← e1, s1]
 have e3 : ∀ (z : Int) (w : Nat), z * ((qN (n + 2) : Nat) : Int) + (w : Int) * sideI n = (2 * z + 2 * (w : Int)) * ((qN (n + 1) : Nat) : Int) := fun z w => by
  rw [e2, Int.add_mul, show sideI n = 2 * ((qN (n + 1) : Nat) : Int) by omega, ← Int.mul_assoc, Int.mul_comm (w : Int) 2]
 rw [e3, e3] at r
 exact r
theorem wn_look {born stay k : Nat} {F : Int → Int → Int} {qs : List Sq} {n t r m : Nat} {a b : Int} (hk : n + 1 ≤ k) (h : WnF born stay F qs (n + 1) t m a b) (l : LpS born stay k qs n t r) : WnF born stay F qs n r (2 * m + 2 ^ (min k (n + 2) - (n + 1))) (2 * a + 2) (2 * b + 2) := by
 have s1 := sideI_next n
 have s2 := qr_side n
 have q1 := qN_side n
 have q2 := qN_qr n
 have tl : ((2 ^ min k (n + 2) : Nat) : Int) ≤ qrI n := by
  rw [← qr_pow]
  exact Int.ofNat_le.2 (Nat.pow_le_pow_right (by decide) (Nat.min_le_right _ _))
 unfold WnF at h
 rw [show sideI (n + 1) = 4 * qrI n by omega] at h
 have g := MdF.of h l tl
 rw [← stF_add] at g
 have e1 : m * qN (n + 1) + 2 ^ min k (n + 2) = (2 * m + 2 ^ (min k (n + 2) - (n + 1))) * qN n := by
  rw [Nat.add_mul, qN_next, ← Nat.mul_assoc, Nat.mul_comm m 2]
  congr 1
  unfold qN
  rw [← Nat.pow_add]
  congr 1
  omega
 have e2 : ∀ z : Int, z * ((qN (n + 1) : Nat) : Int) + qrI n = (2 * z + 2) * ((qN n : Nat) : Int) := fun z => by
  rw [q2, qN_next]
  push_cast
  rw [← Int.mul_assoc, Int.mul_comm z 2, Int.add_mul]
 rw [e1, e2, e2, ← s2] at g
 exact g
theorem wn_join {born stay : Nat} {F : Int → Int → Int} {qs : List Sq} {n Q N0 N1 N2 N3 m : Nat} {a b : Int} (h0 : WnF born stay F qs n N0 (2 * m) (2 * a) (2 * b)) (h1 : WnF born stay F qs n N1 (2 * m) (2 * a + 4) (2 * b)) (h2 : WnF born stay F qs n N2 (2 * m) (2 * a) (2 * b + 4)) (h3 : WnF born stay F qs n N3 (2 * m) (2 * a + 4) (2 * b + 4)) (j : JnS4 qs n Q N0 N1 N2 N3) : WnF born stay F qs (n + 1) Q m a b := by
 have q1 := qN_side n
 have e1 : 2 * m * qN n = m * qN (n + 1) := by rw [qN_next, ← Nat.mul_assoc, Nat.mul_comm 2 m]
 have e2 : ∀ z : Int, 2 * z * ((qN n : Nat) : Int) = z * ((qN (n + 1) : Nat) : Int) := fun z => by
  rw [qN_next]; push_cast; rw [← Int.mul_assoc, Int.mul_comm 2 z]
 have e3 : ∀ z : Int, (2 * z + 4) * ((qN n : Nat) : Int) = z * ((qN (n + 1) : Nat) : Int) + sideI n := fun z => by
  rw [Int.add_mul, e2, q1]
 unfold WnF at h0 h1 h2 h3 ⊢
 rw [e1, e2, e2] at h0
 rw [e1, e3, e2] at h1
 rw [e1, e2, e3] at h2
 rw [e1, e3, e3] at h3
 rw [sideI_next]
 exact (jn_ag (val_sup _ _ _) (val_sup _ _ _) (val_sup _ _ _) (val_sup _ _ _) h0 h1 h2 h3).eq fun x y _ _ _ _ => j x y
theorem wn_mid {born stay : Nat} {F : Int → Int → Int} {qs : List Sq} {n Q M m : Nat} {a b : Int} (h : WnF born stay F qs (n + 1) Q m a b) (l : MdF born stay 0 (valQ qs (n + 1) Q) (valQ qs n M) (qrI n)) : WnF born stay F qs n M (2 * m) (2 * a + 2) (2 * b + 2) := by
 have s1 := sideI_next n
 have s2 := qr_side n
 have q1 := qN_side n
 have q2 := qN_qr n
 unfold WnF at h
 rw [show sideI (n + 1) = 4 * qrI n by omega] at h
 have g := MdF.of h l (by rw [show ((0 : Nat) : Int) = 0 from rfl]; have := qN_pos (n + 1); omega)
 rw [stF_zero] at g
 have e1 : m * qN (n + 1) = 2 * m * qN n := by rw [qN_next, ← Nat.mul_assoc, Nat.mul_comm m 2]
 have e2 : ∀ z : Int, z * ((qN (n + 1) : Nat) : Int) + qrI n = (2 * z + 2) * ((qN n : Nat) : Int) := fun z => by
  rw [q2, qN_next]
  push_cast
  rw [← Int.mul_assoc, Int.mul_comm z 2, Int.add_mul]
 rw [e1, e2, e2, ← s2] at g
 exact g
theorem JoinQ.one {qs qs' : List Sq} {a b c d t : Nat} (h : JoinQ qs a b c d qs' t) : ∃ ms, qs' = qs ++ ms ∧ ms.length ≤ 1 ∧ (ms = [] ∨ t = qs.length) := by
 rcases h with ⟨_, _, _, _, _, rfl⟩ | ⟨_, e, l, rfl⟩ | ⟨_, _, _, rfl, _⟩
 ·exact ⟨[], by simp, by simp, Or.inl rfl⟩
 ·exact ⟨_, rfl, by simp, Or.inr e⟩
 ·exact ⟨[], by simp, by simp, Or.inl rfl⟩
theorem EightQ.one {qs qs' : List Sq} {k t : Nat} (h : EightQ qs k qs' t) : ∃ ms, qs' = qs ++ ms ∧ ms.length ≤ 1 ∧ (ms = [] ∨ t = qs.length) := by
 rcases h with ⟨_, _, rfl⟩ | ⟨_, e, l, rfl⟩ | ⟨_, _, _, rfl, _⟩
 ·exact ⟨[], by simp, by simp, Or.inl rfl⟩
 ·exact ⟨_, rfl, by simp, Or.inr e⟩
 ·exact ⟨[], by simp, by simp, Or.inl rfl⟩
open Go.RowKit
theorem has_none (k : Lit) : Maps.has (.map [] : DataW Unit) k = false := by simp [Maps.has]
theorem at_none (k : Lit) (z : DataW Unit) : (DataW.map [] : DataW Unit).atKey k z = z := by simp [DataW.atKey]
theorem kn8_nil : Kn8 (.map []) [zQ] := fun k k0 _ => ⟨0, Or.inl ⟨rfl, fun u hu => by
 have : u = 0 := by simp at hu; omega
 subst this
 exact fun e => k0 e.symm⟩, has_none _, at_none _ _⟩
theorem kn4_nil : Kn4 (.map []) [zQ] := fun a b c d n0 _ _ _ _ => ⟨0, Or.inl ⟨rfl, fun u hu => by
 have : u = 0 := by simp at hu; omega
 subst this
 exact fun e => n0 ⟨e.2.1.symm, e.2.2.1.symm, e.2.2.2.1.symm, e.2.2.2.2.symm⟩⟩, has_none _, at_none _ _⟩
theorem mk8 (w : World) : (Instr.makeMap 83 none).run Tryz.prog w = .ok (.map (some w.heap.size)) (w.alloc (.map #[] 0)) := by kernel_rfl
theorem mk4 (w : World) : (Instr.makeMap 84 none).run Tryz.prog w = .ok (.map (some w.heap.size)) (w.alloc (.map #[] 0)) := by kernel_rfl
def NkP (w : World) (e : Ending) (w' : World) : Prop := ∃ sb g p, e = .returned (.pointer (some ⟨sb, 0, none⟩)) ∧ StkA w' sb w.heap.size g 1 [zQ] (some p) ∧ Below w.heap.size w w'
set_option maxRecDepth 100000 in
set_option maxHeartbeats 3200000 in
theorem newKnow_any (w : World) : Calls Tryz.prog 57 #[] w (NkP w) := by
 go_enter Tryz.func57, Tryz.ntmps57
 go_wp2_with fail
 refine (newStock_any w).mono ?_
 rintro e w1 ⟨sb, g, rfl, hs, b⟩
 obtain ⟨w2, hw2⟩ : ∃ w2, w1.alloc (.map #[] 0) = w2 := ⟨_, rfl⟩
 have B2 := hide' (show Below w1.heap.size w1 w2 by rw [← hw2]; exact (Below.refl _ _).alloc (Nat.le_refl _) _)
 have M2 := hide' (show w2.heap[w1.heap.size]? = some (.map #[] 0) by rw [← hw2]; exact heap_alloc_new _ _)
 have S2 := hide' (hs.below B2.out)
 have Z2 := hide' (show w2.heap.size = w1.heap.size + 1 by rw [← hw2]; simp)
 have BB := hide' b
 obtain ⟨m1, hm1⟩ : ∃ m, w1.heap.size = m := ⟨_, rfl⟩
 have k8' : (Instr.makeMap 83 none).run Tryz.prog w1 = .ok (.map (some m1)) w2 := by rw [← hm1, ← hw2]; exact mk8 w1
 obtain ⟨w3, hw3⟩ : ∃ w3, w2.setCell ⟨sb, 1, none⟩ (.map (some m1)) = w3 := ⟨_, rfl⟩
 have Z3 := hide' (show w3.heap.size = m1 + 1 by rw [← hw3, World.size_setCell, Z2.out, hm1])
 have X3 := hide' (show w3.heap[sb]? = some (.cells #[.slice (some ⟨g, 0, none⟩) 1 1, .map (some m1), .map none] 86 (0, 0)) by rw [← hw3, heap_setCell_same _ _ _ _ _ _ S2.out.blk]; rfl)
 have O3 := hide' (fun k (hk : k ≠ sb) => show w3.heap[k]? = w2.heap[k]? by rw [← hw3]; exact Below.heap_setCell _ _ _ _ hk)
 have k4' : (Instr.makeMap 84 none).run Tryz.prog w3 = .ok (.map (some (m1 + 1))) (w3.alloc (.map #[] 0)) := by rw [← Z3.out]; exact mk4 w3
 obtain ⟨w4, hw4⟩ : ∃ w4, w3.alloc (.map #[] 0) = w4 := ⟨_, rfl⟩
 rw [hw4] at k4'
 have X4 := hide' (show w4.heap[sb]? = some (.cells #[.slice (some ⟨g, 0, none⟩) 1 1, .map (some m1), .map none] 86 (0, 0)) by rw [← hw4]; exact (heap_alloc_old _ _ (lt_of_block X3.out)).trans X3.out)
 have M4 := hide' (show w4.heap[m1 + 1]? = some (.map #[] 0) by rw [← hw4]; exact heap_atX _ _ _ Z3.out.symm)
 have O4 := hide' (fun k (hk : k < m1 + 1) => show w4.heap[k]? = w3.heap[k]? by rw [← hw4]; exact heap_alloc_old _ _ (by rw [Z3.out]; exact hk))
 have Z4 := hide' (show w4.heap.size = m1 + 2 by rw [← hw4]; simp [Z3.out])
 have c1 := cell_of_row w2 sb 1 _ _ _ S2.out.blk
 have f1 := frozen_of_row w2 sb 1 _ _ S2.out.blk
 have c2 := cell_of_row w4 sb 2 _ _ _ X4.out
 have f2 := frozen_of_row w4 sb 2 _ _ X4.out
 simp at c1 c2
 have FIN := hide' (show NkP w (.returned (.pointer (some ⟨sb, 0, none⟩))) (w4.setCell ⟨sb, 2, none⟩ (.map (some (m1 + 1)))) from by
  obtain ⟨w5, hw5⟩ : ∃ w5, w4.setCell ⟨sb, 2, none⟩ (.map (some (m1 + 1))) = w5 := ⟨_, rfl⟩
  rw [hw5]
  have lts := hs.lt
  have les := hs.le
  have leg := hs.rowB.1
  have z2 := Z2.out
  have O5 : ∀ k, k ≠ sb → w5.heap[k]? = w4.heap[k]? := fun k hk => by rw [← hw5]; exact Below.heap_setCell _ _ _ _ hk
  have X5 : w5.heap[sb]? = some (.cells #[.slice (some ⟨g, 0, none⟩) 1 1, .map (some m1), .map (some (m1 + 1))] 86 (0, 0)) := by rw [← hw5, heap_setCell_same _ _ _ _ _ _ X4.out]; rfl
  have eq : ∀ k, k < m1 → k ≠ sb → w5.heap[k]? = w1.heap[k]? := fun k h1 h2 => (O5 k h2).trans ((O4.out k (by omega)).trans ((O3.out k h2).trans (B2.out.block k (by rw [hm1]; exact h1))))
  have e1 : w5.heap[m1]? = some (.map #[] 0) := (O5 m1 (by omega)).trans ((O4.out m1 (by omega)).trans ((O3.out m1 (by omega)).trans (by rw [← hm1]; exact M2.out)))
  have e2 : w5.heap[m1 + 1]? = some (.map #[] 0) := (O5 _ (by omega)).trans M4.out
  have o1 := World.ownsMap_made (H := Unit) w1 Tryz.prog 88 (plainElem Tryz.prog 21)
  have o2 := World.ownsMap_made (H := Unit) w3 Tryz.prog 87 (plainElem Tryz.prog 21)
  have hm : MpA w5 w.heap.size [zQ] (some (m1, m1 + 1)) := by
   refine ⟨⟨by show w.heap.size ≤ m1; omega, by show w.heap.size ≤ m1 + 1; omega, by show m1 ≠ m1 + 1; omega⟩, ⟨.map [], ?_, ⟨[], rfl⟩, kn8_nil⟩, ⟨.map [], ?_, ⟨[], rfl⟩, kn4_nil⟩, un_nil⟩
   ·rw [hw2, hm1] at o1
    exact (own_keep o1 (by rw [e1, ← hm1]; exact M2.out.symm)).mono (Nat.zero_le _)
   ·rw [hw4, Z3.out] at o2
    exact (own_keep o2 (by rw [e2]; exact M4.out.symm)).mono (Nat.zero_le _)
  have hr : StkR w5 sb w.heap.size g 1 [zQ] (.map (some m1)) (.map (some (m1 + 1))) := by
   refine ⟨X5, ⟨hs.row.1, ?_⟩, hs.le, hs.st, hs.lv⟩
   rcases hs.row.2 with h3 | ⟨g', cap', cur, e, hb, hh, r⟩
   ·exact Or.inl h3
   ·cases e
    exact Or.inr ⟨g, 1, cur, rfl, hb, (eq g (by omega) hs.ne).trans hh, r⟩
  refine ⟨sb, g, (m1, m1 + 1), rfl, hr.a (mp := some (m1, m1 + 1)) hm, ?_⟩
  have bo := BB.out
  have os5 : w5.os = w1.os := by rw [← hw5, ← hw4, ← hw3, ← hw2]; rfl
  have tp5 : w5.tape = w1.tape := by rw [← hw5, ← hw4, ← hw3, ← hw2]; rfl
  have op5 : w5.output = w1.output := by rw [← hw5, ← hw4, ← hw3, ← hw2]; rfl
  refine ⟨os5.trans bo.os, tp5.trans bo.tape, op5.trans bo.output, ?_, fun k hk => (eq k (by have := bo.size; omega) (by omega)).trans (bo.block k hk)⟩
  rw [← hw5, World.size_setCell, Z4.out]
  have := bo.size
  omega)
 rw [← hw3] at k4'
 clear hs b hw2 hm1 hw3 hw4
 go_wp2
 go_ret
 exact FIN.out
end Go.Proofs.YtemhcpldflcfbaaGreatDoor
