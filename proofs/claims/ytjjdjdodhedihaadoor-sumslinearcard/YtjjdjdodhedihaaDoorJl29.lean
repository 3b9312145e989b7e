/-
  What the last text of this claim leans on, part 29: Gf4.
-/
import Derived.Test.YtjjdjdodhedihaaDoorJl27
import Derived.Test.YtjjdjdodhedihaaDoorJl16
namespace Go.Proofs.YtjjdjdodhedihaaDoor
set_option linter.unusedVariables false

/-- What a window changes, without its last cell. -/
def chl (S : Nat) (T wt : List Int) (w : Nat) : Int := wt.getD (T.getD w 0).toNat 0 - wt.getD (w % S) 0
def Pot (S n : Nat) (T wt : List Int) (H : Nat → Int) : Prop := ∀ w, w < n * S → H (w % n) = H (w / S) + chl S T wt w
/-- The weights of the digits of a place. -/
def digW (S : Nat) (wt : List Int) : Nat → Nat → Int
  | 0, _ => 0
  | k + 1, p => digW S wt k (p / S) + wt.getD (p % S) 0
theorem digW_high {S : Nat} (hS : 0 < S) (wt : List Int) : ∀ (k x p : Nat), p < S ^ k → x < S → digW S wt (k + 1) (x * S ^ k + p) = wt.getD x 0 + digW S wt k p
  | 0, x, p, hp, hx => by
    have p0 : p = 0 := by simpa using hp
    subst p0
    simp [digW, Nat.mod_eq_of_lt hx]
  | k + 1, x, p, hp, hx => by
    have e1 : (x * S ^ (k + 1) + p) / S = x * S ^ k + p / S := by
      rw [Nat.pow_succ, ← Nat.mul_assoc, Nat.mul_comm (x * S ^ k) S]
      exact Nat.mul_add_div hS _ _
    have e2 : (x * S ^ (k + 1) + p) % S = p % S := by
      rw [Nat.pow_succ, ← Nat.mul_assoc, Nat.mul_comm (x * S ^ k) S]
      exact Nat.mul_add_mod _ _ _
    rw [digW, e1, e2, digW_high hS wt k x (p / S) (Nat.div_lt_of_lt_mul (by rw [← Nat.pow_succ']; exact hp)) hx, digW]
    omega
theorem digW_step {S k : Nat} (hS : 0 < S) (wt : List Int) {w : Nat} (hw : w < S ^ k * S) : digW S wt k (w % S ^ k) - digW S wt k (w / S) = wt.getD (w % S) 0 - wt.getD (w / S ^ k) 0 := by
  have hp : 0 < S ^ k := Nat.pow_pos hS
  have hx : w / S ^ k < S := Nat.div_lt_of_lt_mul hw
  have a : digW S wt (k + 1) w = digW S wt k (w / S) + wt.getD (w % S) 0 := rfl
  have b := digW_high hS wt k (w / S ^ k) (w % S ^ k) (Nat.mod_lt _ hp) hx
  rw [show w / S ^ k * S ^ k + w % S ^ k = w by rw [Nat.mul_comm]; exact Nat.div_add_mod _ _] at b
  omega
theorem keeps_pot {S k : Nat} {T wt : List Int} (hS : 0 < S) (hT : T.length = S ^ k * S) : KeepsP S (S ^ k) T wt ↔ ∃ H, Pot S (S ^ k) T wt H := by
  constructor
  · rintro ⟨h, hh⟩
    refine ⟨fun p => h p - digW S wt k p, fun w hw => ?_⟩
    have a := hh w (by rw [hT]; exact hw)
    have b := digW_step hS wt hw
    unfold chg at a
    unfold chl
    show h (w % S ^ k) - digW S wt k (w % S ^ k) = h (w / S) - digW S wt k (w / S) + _
    omega
  · rintro ⟨H, hH⟩
    refine ⟨fun p => H p + digW S wt k p, fun w hw => ?_⟩
    rw [hT] at hw
    have a := hH w hw
    have b := digW_step hS wt hw
    unfold chl at a
    unfold chg
    show _ = H (w % S ^ k) + digW S wt k (w % S ^ k) - (H (w / S) + digW S wt k (w / S))
    omega
/-- The search, between two of its looks: at place i of the queue, at cell c. -/
structure KI (S n : Nat) (T wt : List Int) (Q : List Nat) (hs : List Int) (kn : List Bool) (i c : Nat) : Prop where
  hlen : hs.length = n
  klen : kn.length = n
  lt : ∀ p ∈ Q, p < n
  known : ∀ p, p < n → (kn.getD p false = true ↔ p ∈ Q)
  zero : 0 ∈ Q
  cnt : Q.length = kn.count true
  pot : ∀ H, Pot S n T wt H → ∀ p ∈ Q, hs.getD p 0 = H p - H 0
  closed : ∀ k p, k < i → Q[k]? = some p → ∀ x, x < S → (p * S + x) % n ∈ Q
  cur : ∀ p, Q[i]? = some p → ∀ x, x < c → (p * S + x) % n ∈ Q
  bnd : ∀ p, p < n → -(2000 * (Q.length : Int)) ≤ hs.getD p 0 ∧ hs.getD p 0 ≤ 2000 * (Q.length : Int)
theorem KI.le {S n i c : Nat} {T wt : List Int} {Q : List Nat} {hs : List Int} {kn : List Bool} (h : KI S n T wt Q hs kn i c) : Q.length ≤ n := by
  rw [h.cnt, ← h.klen]; exact List.count_le_length
theorem getD_replK (n k : Nat) : (List.replicate n false).getD k false = false := by
  rw [List.getD_eq_getElem?_getD, List.getElem?_replicate]
  split <;> rfl
theorem getD_setK (l : List Bool) (i k : Nat) (x : Bool) : (l.set i x).getD k false = if k = i ∧ i < l.length then x else l.getD k false := by
  rw [List.getD_eq_getElem?_getD, List.getD_eq_getElem?_getD, List.getElem?_set]
  by_cases h : i = k
  · subst h
    by_cases h2 : i < l.length
    · simp [h2]
    · simp [h2]
  · have h' : ¬ k = i := fun e => h e.symm
    simp [h, h']
theorem KI.start {S n : Nat} {T wt : List Int} (hn : 0 < n) : KI S n T wt [0] (List.replicate n 0) ((List.replicate n false).set 0 true) 0 0 := by
  have z : ∀ p, (List.replicate n (0 : Int)).getD p 0 = 0 := fun p => by
    rw [List.getD_eq_getElem?_getD, List.getElem?_replicate]
    split <;> rfl
  refine ⟨by simp, by simp, fun p hp => by rw [List.mem_singleton.1 hp]; exact hn, fun p hp => ?_, by simp, ?_, fun H _ p hp => ?_, fun k p hk => by omega, fun p _ x hx => by omega, fun p _ => by rw [z]; simp⟩
  · rw [getD_setK, List.length_replicate, getD_replK, List.mem_singleton]
    by_cases e : p = 0
    · simp [e, hn]
    · simp [e]
  · rw [count_set_true _ _ (by rw [List.length_replicate]; exact hn) (getD_replK n 0)]
    simp [List.count_replicate]
  · rw [List.mem_singleton.1 hp, z]; omega
theorem KI.old {S n i c p : Nat} {T wt : List Int} {Q : List Nat} {hs : List Int} {kn : List Bool} (h : KI S n T wt Q hs kn i c) (hn : 0 < n) (hp : Q[i]? = some p) (hk : kn.getD ((p * S + c) % n) false = true) : KI S n T wt Q hs kn i (c + 1) :=
  ⟨h.hlen, h.klen, h.lt, h.known, h.zero, h.cnt, h.pot, h.closed, fun p' hp' x hx => by
    rw [hp] at hp'
    injection hp' with e
    subst e
    rcases Nat.lt_or_ge x c with q | q
    · exact h.cur p hp x q
    · rw [show x = c by omega]; exact (h.known _ (Nat.mod_lt _ hn)).1 hk, h.bnd⟩
theorem KI.fresh {S n i c p : Nat} {T wt : List Int} {Q : List Nat} {hs : List Int} {kn : List Bool} (h : KI S n T wt Q hs kn i c) (hn : 0 < n) (hS : 0 < S) (hc : c < S) (hp : Q[i]? = some p) (hk : kn.getD ((p * S + c) % n) false = false) (hw : ∀ i, -(1000 : Int) ≤ wt.getD i 0 ∧ wt.getD i 0 ≤ 1000) :
    KI S n T wt (Q ++ [(p * S + c) % n]) (hs.set ((p * S + c) % n) (hs.getD p 0 + chl S T wt (p * S + c))) (kn.set ((p * S + c) % n) true) i (c + 1) := by
  obtain ⟨tq, hto⟩ : ∃ tq, (p * S + c) % n = tq := ⟨_, rfl⟩
  have tl : tq < n := by rw [← hto]; exact Nat.mod_lt _ hn
  have pm : p ∈ Q := List.mem_of_getElem? hp
  have pl := h.lt p pm
  have wl : p * S + c < n * S := by
    have : (p + 1) * S ≤ n * S := Nat.mul_le_mul_right _ pl
    rw [Nat.add_mul] at this
    omega
  have wd : (p * S + c) / S = p := by rw [Nat.mul_comm, Nat.mul_add_div hS, Nat.div_eq_of_lt hc, Nat.add_zero]
  rw [hto] at hk ⊢
  have new : tq ∉ Q := fun q => by rw [(h.known tq tl).2 q] at hk; cases hk
  have il : i < Q.length := (List.getElem?_eq_some_iff.1 hp).1
  refine ⟨by rw [List.length_set]; exact h.hlen, by rw [List.length_set]; exact h.klen, fun q hq => ?_, fun q hq => ?_, List.mem_append_left _ h.zero, ?_, fun H hH q hq => ?_, fun k q hk' hq x hx => ?_, fun q hq x hx => ?_, fun q hq => ?_⟩
  · rcases List.mem_append.1 hq with e | e
    · exact h.lt q e
    · rw [List.mem_singleton.1 e]; exact tl
  · rw [getD_setK, h.klen, List.mem_append, List.mem_singleton]
    by_cases e : q = tq
    · simp [e, tl]
    · rw [if_neg (fun k => e k.1), h.known q hq]; simp [e]
  · rw [count_set_true _ _ (by rw [h.klen]; exact tl) hk, List.length_append, h.cnt]; rfl
  · rw [getD_set, h.hlen]
    rcases List.mem_append.1 hq with e | e
    · have ne : ¬ (q = tq ∧ tq < n) := fun k => new (by rw [← k.1]; exact e)
      rw [if_neg ne]; exact h.pot H hH q e
    · rw [List.mem_singleton.1 e, if_pos ⟨rfl, tl⟩, h.pot H hH p pm]
      have := hH (p * S + c) wl
      rw [hto, wd] at this
      omega
  · rw [List.getElem?_append_left (by omega)] at hq
    exact List.mem_append_left _ (h.closed k q hk' hq x hx)
  · rw [List.getElem?_append_left il, hp] at hq
    injection hq with e
    subst e
    rcases Nat.lt_or_ge x c with r | r
    · exact List.mem_append_left _ (h.cur p hp x r)
    · rw [show x = c by omega, hto]; exact List.mem_append_right _ (List.mem_singleton.2 rfl)
  · rw [getD_set, h.hlen, List.length_append]
    have a := h.bnd q hq
    have b := h.bnd p pl
    have c1 := hw (T.getD (p * S + c) 0).toNat
    have c2 := hw ((p * S + c) % S)
    unfold chl
    split
    · simp only [List.length_singleton]; push_cast; omega
    · simp only [List.length_singleton]; push_cast; omega
theorem KI.row {S n i : Nat} {T wt : List Int} {Q : List Nat} {hs : List Int} {kn : List Bool} (h : KI S n T wt Q hs kn i S) : KI S n T wt Q hs kn (i + 1) 0 :=
  ⟨h.hlen, h.klen, h.lt, h.known, h.zero, h.cnt, h.pot, fun k p hk hp x hx => by
    rcases Nat.lt_or_ge k i with q | q
    · exact h.closed k p q hp x hx
    · obtain rfl : k = i := by omega
      exact h.cur p hp x hx, fun p _ x hx => by omega, h.bnd⟩
/-- All places come to be known. -/
theorem KI.all {S k i c : Nat} {T wt : List Int} {Q : List Nat} {hs : List Int} {kn : List Bool} (hS : 0 < S) (h : KI S (S ^ k) T wt Q hs kn i c) (hi : Q.length ≤ i) : ∀ p, p < S ^ k → p ∈ Q := by
  have cl : ∀ p ∈ Q, ∀ x, x < S → (p * S + x) % S ^ k ∈ Q := fun p hp x hx => by
    obtain ⟨j, hj, e⟩ := List.getElem_of_mem hp
    exact h.closed j p (by omega) (by rw [List.getElem?_eq_getElem hj, e]) x hx
  have path : ∀ (cs : List (Nat × Nat)) (u : Nat × Nat), u.1 ∈ Q → okP S (S ^ k) T u cs → (endP S (S ^ k) u cs).1 ∈ Q := fun cs => by
    induction cs with
    | nil => intro u hu _; exact hu
    | cons c r ih => intro u hu ho; exact ih _ (cl u.1 hu c.1 ho.1.1) ho.2
  intro p hp
  obtain ⟨cs, h1, h2⟩ := way_place (T := T) hS (Nat.pow_pos hS) hp (q := 0)
  have := path cs (0, 0) h.zero h1
  rw [h2] at this
  exact this
theorem KI.fin {S k i c : Nat} {T wt : List Int} {Q : List Nat} {hs : List Int} {kn : List Bool} (hS : 0 < S) (hT : T.length = S ^ k * S) (h : KI S (S ^ k) T wt Q hs kn i c) (hi : Q.length ≤ i) : (∀ w, w < S ^ k * S → hs.getD (w % S ^ k) 0 = hs.getD (w / S) 0 + chl S T wt w) ↔ KeepsP S (S ^ k) T wt := by
  rw [keeps_pot hS hT]
  constructor
  · intro hh
    exact ⟨fun p => hs.getD p 0, hh⟩
  · rintro ⟨H, hH⟩ w hw
    have all := h.all hS hi
    have d : w / S < S ^ k := Nat.div_lt_of_lt_mul (by rw [Nat.mul_comm]; exact hw)
    rw [h.pot H hH _ (all _ (Nat.mod_lt _ (Nat.pow_pos hS))), h.pot H hH _ (all _ d), hH w hw]
    omega
end Go.Proofs.YtjjdjdodhedihaaDoor

