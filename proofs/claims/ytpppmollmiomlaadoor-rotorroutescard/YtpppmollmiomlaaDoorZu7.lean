/-
  What the last text of this claim leans on, part 7: Rt2, Rt3, Rt4, Rt5, Rt6.
-/
import Derived.Test.YtpppmollmiomlaaDoorZu6
namespace Go.Proofs.YtpppmollmiomlaaDoor
set_option linter.unusedVariables false
theorem smS_succ (f : Nat → Int) (m : Nat) : smS (m + 1) f = f 0 + smS m fun i => f (i + 1) := by
  rw [show m + 1 = 1 + m by omega, smS_from]
  simp only [smS]
  rw [smS_congr (f := fun i => f (1 + i)) (g := fun i => f (i + 1)) fun i _ => by rw [Nat.add_comm]]
  omega
/-- Round once, from wherever: the same. -/
theorem smS_round (f : Nat → Int) {d : Nat} (hd : 0 < d) : ∀ a : Nat, smS d (fun i => f ((a + i) % d)) = smS d f
  | 0 => smS_congr fun i hi => by rw [Nat.zero_add, Nat.mod_eq_of_lt hi]
  | a + 1 => by
    have ih := smS_round f hd a
    have e1 : smS (d + 1) (fun i => f ((a + i) % d)) = smS d (fun i => f ((a + i) % d)) + f ((a + d) % d) := rfl
    have e2 := smS_succ (fun i => f ((a + i) % d)) d
    rw [Nat.add_mod_right] at e1
    have e3 : f ((a + 0) % d) = f (a % d) := rfl
    rw [smS_congr (g := fun i => f ((a + (i + 1)) % d)) fun i _ => by rw [show a + 1 + i = a + (i + 1) by omega]]
    omega
/-- The ways of the places, as a graph has them. -/
structure WyG (n : Nat) (b : Nat → Nat → Int) (wy : Nat → Nat → Nat) (d : Nat → Nat) : Prop where
  deg : ∀ k, k < n → (d k : Int) = smS n (b k)
  cnt : ∀ k j, k < n → j < n → smS (d k) (fun i => if wy k i = j then 1 else 0) = b k j
  inn : ∀ k i, k < n → i < d k → wy k i < n
theorem arr_times {n : Nat} {b : Nat → Nat → Int} {wy : Nat → Nat → Nat} {d : Nat → Nat} (G : WyG n b wy d) (s0 : Nat → Nat) {k j : Nat} (hk : k < n) (hj : j < n) (hd : 0 < d k) : ∀ q : Nat, arrR wy d s0 k j (d k * q) = b k j * q
  | 0 => by simp [arrR, smS]
  | q + 1 => by
    unfold arrR
    rw [Nat.mul_succ, smS_from]
    have ih := arr_times G s0 hk hj hd q
    unfold arrR at ih
    rw [ih, smS_congr (g := fun i => (fun z => if wy k z = j then (1 : Int) else 0) ((s0 k + 1 + i) % d k)) fun i _ => by
      unfold towR
      rw [show s0 k + 1 + (d k * q + i) = s0 k + 1 + i + d k * q by omega, Nat.add_mul_mod_self_left], smS_round (fun z => if wy k z = j then (1 : Int) else 0) hd, G.cnt k j hk hj]
    rw [Int.natCast_add, Int.mul_add]; omega
theorem arr_le {n : Nat} {b : Nat → Nat → Int} {wy : Nat → Nat → Nat} {d : Nat → Nat} (G : WyG n b wy d) (s0 : Nat → Nat) {k j : Nat} (hk : k < n) (hj : j < n) (hd : 0 < d k) (m : Nat) : arrR wy d s0 k j m ≤ b k j * ((m / d k : Nat) + 1 : Int) := by
  have h : m ≤ d k * (m / d k + 1) := by
    have := Nat.div_add_mod m (d k)
    have := Nat.mod_lt m hd
    rw [Nat.mul_succ]; omega
  have := arr_mono wy d s0 k j h
  rw [arr_times G s0 hk hj hd] at this
  exact this
/-- No place lets too many go. -/
theorem WkR.few {n s : Nat} {b : Nat → Nat → Int} {wy : Nat → Nat → Nat} {d s0 : Nat → Nat} {c : Nat → Int} {u : Nat → Nat} {C : Int} (G : GrS n s b) (Y : WyG n b wy d) (hd : ∀ k, k < n → k ≠ s → 0 < d k) (h : WkR n s wy d s0 c u) (hc : ∀ k, k < n → 0 ≤ c k) (hC : smS n (fun k => c k + smS n (b k)) ≤ C) (k : Nat) (hk : k < n) : ((u k / d k : Nat) : Int) ≤ C * ((n - 1 : Nat) : Int) := by
  have dp : ∀ j, 0 ≤ smS n (b j) := fun j => smS_nonneg fun i _ => G.pos j i
  have c1 : ∀ j, j < n → 0 ≤ c j + smS n (b j) := fun j hj => by have := hc j hj; have := dp j; omega
  refine few_topples G (u := fun k => ((u k / d k : Nat) : Int)) (c := fun k => c k + smS n (b k)) (Int.le_trans (smS_nonneg c1) hC) (by show ((u s / d s : Nat) : Int) = 0; rw [h.zero, Nat.zero_div]; rfl) c1 hC (fun j hj js => ?_) k hk
  have hs := h.has j hj js
  unfold chR at hs
  have le : smS n (fun k => if k = s then 0 else arrR wy d s0 k j (u k)) ≤ smS n (fun k => b j k * ((u k / d k : Nat) : Int) + b j k) := smS_le fun i hi => by
    have p := G.pos j i
    split
    · have := Int.mul_nonneg p (show (0 : Int) ≤ ((u i / d i : Nat) : Int) from Int.natCast_nonneg _); omega
    · rename_i q
      have := arr_le Y s0 hi hj (hd i hi q) (u i)
      rw [G.sym i j, Int.mul_add] at this
      omega
  rw [smS_add] at le
  have l : lapS n b (fun k => ((u k / d k : Nat) : Int)) j = ((u j / d j : Nat) : Int) * smS n (b j) - smS n (fun k => b j k * ((u k / d k : Nat) : Int)) := by
    unfold lapS
    rw [← smS_mul, ← smS_sub]
    exact smS_congr fun i _ => by dsimp only; rw [Int.mul_sub, Int.mul_comm]
  have dv : ((u j / d j : Nat) : Int) * smS n (b j) ≤ (u j : Int) := by
    rw [← Y.deg j hj, ← Int.natCast_mul]
    have := Nat.div_mul_le_self (u j) (d j)
    omega
  rw [l]
  have e : smS n (fun k => b j k) = smS n (b j) := rfl
  omega
end Go.Proofs.YtpppmollmiomlaaDoor

namespace Go.Proofs.YtpppmollmiomlaaDoor
set_option linter.unusedVariables false
/-- So many steps of a map. -/
def itF (f : Nat → Nat) : Nat → Nat → Nat
  | 0, x => x
  | m + 1, x => itF f m (f x)
theorem it_add (f : Nat → Nat) : ∀ (m m' : Nat) (x : Nat), itF f (m + m') x = itF f m' (itF f m x)
  | 0, m', x => by rw [Nat.zero_add]; rfl
  | m + 1, m', x => by rw [show m + 1 + m' = (m + m') + 1 by omega]; exact it_add f m m' (f x)
theorem it_succ (f : Nat → Nat) (m x : Nat) : itF f (m + 1) x = f (itF f m x) := by rw [it_add]; rfl
/-- Two maps that part at one place: the way there is the same. -/
theorem it_hit {f f' : Nat → Nat} {x : Nat} (h : ∀ y, y ≠ x → f' y = f y) : ∀ (m y : Nat), itF f m y = x → ∃ m', itF f' m' y = x
  | 0, y, e => ⟨0, e⟩
  | m + 1, y, e => by
    by_cases q : y = x
    · exact ⟨0, q⟩
    · obtain ⟨m', h'⟩ := it_hit h m (f y) e
      exact ⟨m' + 1, by show itF f' m' (f' y) = x; rw [h y q]; exact h'⟩
/-- A chip, and signs: from the sink it goes where it is put, from elsewhere by the next sign. -/
structure CsR where
  sg : Nat → Nat
  at' : Nat
def nxR (s v : Nat) (wy : Nat → Nat → Nat) (sg : Nat → Nat) (k : Nat) : Nat := if k = s then v else wy k (sg k)
def tnR (d sg : Nat → Nat) (x j : Nat) : Nat := if j = x then (sg j + 1) % d j else sg j
def stR (s v : Nat) (wy : Nat → Nat → Nat) (d : Nat → Nat) (S : CsR) : CsR := if S.at' = s then ⟨S.sg, v⟩ else ⟨tnR d S.sg S.at', wy S.at' (tnR d S.sg S.at' S.at')⟩
/-- Signs stand where signs may, and all lead to the chip. -/
structure UnR (n s v : Nat) (wy : Nat → Nat → Nat) (d : Nat → Nat) (S : CsR) : Prop where
  low : ∀ k, k < n → k ≠ s → S.sg k < d k
  inn : S.at' < n
  lead : ∀ y, y < n → ∃ m, itF (nxR s v wy S.sg) m y = S.at'
theorem st_next {s v : Nat} {wy : Nat → Nat → Nat} {d : Nat → Nat} (S : CsR) : nxR s v wy (stR s v wy d S).sg S.at' = (stR s v wy d S).at' ∧ ∀ y, y ≠ S.at' → nxR s v wy (stR s v wy d S).sg y = nxR s v wy S.sg y := by
  unfold stR
  by_cases h : S.at' = s
  · rw [if_pos h]
    exact ⟨by unfold nxR; rw [if_pos h], fun y _ => rfl⟩
  · rw [if_neg h]
    refine ⟨by unfold nxR; rw [if_neg h], fun y hy => ?_⟩
    show (if y = s then v else wy y (tnR d S.sg S.at' y)) = (if y = s then v else wy y (S.sg y))
    rw [show tnR d S.sg S.at' y = S.sg y by unfold tnR; rw [if_neg hy]]
theorem UnR.step {n s v : Nat} {wy : Nat → Nat → Nat} {d : Nat → Nat} {S : CsR} (hv : v < n) (inn : ∀ k i, k < n → i < d k → wy k i < n) (h : UnR n s v wy d S) : UnR n s v wy d (stR s v wy d S) := by
  obtain ⟨e1, e2⟩ := st_next (s := s) (v := v) (wy := wy) (d := d) S
  have low : ∀ k, k < n → k ≠ s → (stR s v wy d S).sg k < d k := fun k hk ks => by
    have := h.low k hk ks
    unfold stR
    split
    · exact this
    · show tnR d S.sg S.at' k < d k
      unfold tnR
      split
      · exact Nat.mod_lt _ (by omega)
      · exact this
  refine ⟨low, ?_, fun y hy => ?_⟩
  · rw [← e1]
    unfold nxR
    split
    · exact hv
    · rename_i q; exact inn _ _ h.inn (low _ h.inn q)
  · obtain ⟨m, hm⟩ := h.lead y hy
    obtain ⟨m', hm'⟩ := it_hit e2 m y hm
    exact ⟨m' + 1, by rw [it_succ, hm', e1]⟩
def itR (s v : Nat) (wy : Nat → Nat → Nat) (d : Nat → Nat) : Nat → CsR → CsR
  | 0, S => S
  | m + 1, S => stR s v wy d (itR s v wy d m S)
end Go.Proofs.YtpppmollmiomlaaDoor

namespace Go.Proofs.YtpppmollmiomlaaDoor
set_option linter.unusedVariables false
/-- Signs followed; at the sink it ends. -/
def hopR (s : Nat) (wy : Nat → Nat → Nat) (sg : Nat → Nat) (k : Nat) : Nat := if k = s then s else wy k (sg k)
def atR (s : Nat) (wy : Nat → Nat → Nat) (sg : Nat → Nat) (m k : Nat) : Nat := itF (hopR s wy sg) m k
theorem at_sink (s : Nat) (wy : Nat → Nat → Nat) (sg : Nat → Nat) : ∀ m, atR s wy sg m s = s
  | 0 => rfl
  | m + 1 => by show itF _ m (hopR s wy sg s) = s; rw [show hopR s wy sg s = s by unfold hopR; rw [if_pos rfl]]; exact at_sink s wy sg m
theorem at_more {s : Nat} {wy : Nat → Nat → Nat} {sg : Nat → Nat} {m k : Nat} (h : atR s wy sg m k = s) (m' : Nat) : atR s wy sg (m + m') k = s := by
  unfold atR at *
  rw [it_add, h]
  exact at_sink s wy sg m'
theorem LdR.at {s : Nat} {wy : Nat → Nat → Nat} {sg : Nat → Nat} {k : Nat} (h : LdR s wy sg (fun _ => False) k) : ∃ m, atR s wy sg m k = s := by
  induction h using LdR.ind with
  | sink => exact ⟨0, rfl⟩
  | chip q => exact q.elim
  | @go k ks _ ih =>
    obtain ⟨m, hm⟩ := ih
    exact ⟨m + 1, by show itF _ m (hopR s wy sg k) = s; rw [show hopR s wy sg k = wy k (sg k) by unfold hopR; rw [if_neg ks]]; exact hm⟩
theorem LdR.of_at {s : Nat} {wy : Nat → Nat → Nat} {sg : Nat → Nat} : ∀ {m k : Nat}, atR s wy sg m k = s → LdR s wy sg (fun _ => False) k
  | 0, k, h => by
    have : k = s := h
    rw [this]; exact .sink
  | m + 1, k, h => by
    by_cases q : k = s
    · rw [q]; exact .sink
    · have h' : itF (hopR s wy sg) m (hopR s wy sg k) = s := h
      rw [show hopR s wy sg k = wy k (sg k) by unfold hopR; rw [if_neg q]] at h'
      exact .go q (LdR.of_at (m := m) h')
def cntT (n s : Nat) (wy : Nat → Nat → Nat) (sg : Nat → Nat) (m : Nat) : Int := smS n fun k => if atR s wy sg m k = s then 1 else 0
theorem cntT_le (n s : Nat) (wy : Nat → Nat → Nat) (sg : Nat → Nat) (m : Nat) : cntT n s wy sg m ≤ (n : Int) := by
  rw [← smS_ones n]
  exact smS_le fun k _ => by split <;> omega
theorem at_stop {n s m : Nat} {wy : Nat → Nat → Nat} {sg : Nat → Nat} (inn : ∀ k, k < n → k ≠ s → wy k (sg k) < n) (hs : s < n) (h : ∀ k, k < n → atR s wy sg (m + 1) k = s → atR s wy sg m k = s) : ∀ (j k : Nat), k < n → atR s wy sg (m + j) k = s → atR s wy sg m k = s
  | 0, k, _, e => e
  | j + 1, k, hk, e => by
    have hop : hopR s wy sg k < n := by unfold hopR; split; { exact hs }; { rename_i q; exact inn k hk q }
    exact h k hk (at_stop inn hs h j (hopR s wy sg k) hop e)
theorem at_grow {n s : Nat} {wy : Nat → Nat → Nat} {sg : Nat → Nat} (hs : s < n) : ∀ m : Nat, (∃ m', m' ≤ m ∧ ∀ k, k < n → atR s wy sg (m' + 1) k = s → atR s wy sg m' k = s) ∨ (m : Int) + 1 ≤ cntT n s wy sg m
  | 0 => Or.inr (by
    have o := smS_one (f := fun k => if atR s wy sg 0 k = s then 1 else 0) (n := n) (fun k _ => by split <;> omega) hs
    have e : atR s wy sg 0 s = s := rfl
    rw [if_pos e] at o
    unfold cntT; omega)
  | m + 1 => by
    rcases at_grow (wy := wy) (sg := sg) hs m with ⟨m', h1, h2⟩ | h
    · exact Or.inl ⟨m', by omega, h2⟩
    · by_cases q : ∀ k, k < n → atR s wy sg (m + 1) k = s → atR s wy sg m k = s
      · exact Or.inl ⟨m, by omega, q⟩
      · right
        obtain ⟨k, hk⟩ : ∃ k, ¬ (k < n → atR s wy sg (m + 1) k = s → atR s wy sg m k = s) := Classical.byContradiction fun r => q fun k => Classical.byContradiction fun r2 => r ⟨k, r2⟩
        have k1 : k < n := Classical.byContradiction fun r => hk fun a => absurd a r
        have k2 : atR s wy sg (m + 1) k = s := Classical.byContradiction fun r => hk fun _ a => absurd a r
        have k3 : ¬ atR s wy sg m k = s := fun r => hk fun _ _ => r
        have e := smS_sub (fun k => if atR s wy sg (m + 1) k = s then 1 else 0) (fun k => if atR s wy sg m k = s then 1 else 0) n
        have o := smS_one (f := fun k => (if atR s wy sg (m + 1) k = s then 1 else 0) - (if atR s wy sg m k = s then 1 else 0)) (n := n) (fun i _ => by
          by_cases a : atR s wy sg m i = s
          · rw [if_pos a, if_pos (at_more a 1)]; omega
          · rw [if_neg a]; split <;> omega) k1
        rw [if_pos k2, if_neg k3] at o
        unfold cntT at *; omega
/-- Whoever comes to the sink comes within so many steps as there are places. -/
theorem at_soon {n s m k : Nat} {wy : Nat → Nat → Nat} {sg : Nat → Nat} (inn : ∀ k, k < n → k ≠ s → wy k (sg k) < n) (hs : s < n) (hk : k < n) (h : atR s wy sg m k = s) : atR s wy sg n k = s := by
  rcases at_grow (wy := wy) (sg := sg) hs n with ⟨m', h1, h2⟩ | q
  · have a := at_stop inn hs h2 m k hk (by rw [Nat.add_comm]; exact at_more h m')
    have := at_more a (n - m')
    rw [show m' + (n - m') = n by omega] at this
    exact this
  · have := cntT_le n s wy sg n; omega
/-- Trees: all lead to the sink. -/
def treeR (n s : Nat) (wy : Nat → Nat → Nat) (sg : Nat → Nat) : Prop := ∀ k, k < n → LdR s wy sg (fun _ => False) k
theorem tree_iff {n s : Nat} {wy : Nat → Nat → Nat} {sg : Nat → Nat} (inn : ∀ k, k < n → k ≠ s → wy k (sg k) < n) (hs : s < n) : treeR n s wy sg ↔ ∀ k, k < n → atR s wy sg n k = s :=
  ⟨fun h k hk => by obtain ⟨m, hm⟩ := (h k hk).at; exact at_soon inn hs hk hm, fun h k hk => LdR.of_at (h k hk)⟩
end Go.Proofs.YtpppmollmiomlaaDoor

namespace Go.Proofs.YtpppmollmiomlaaDoor
set_option linter.unusedVariables false
theorem WkR.chips {n s : Nat} {wy : Nat → Nat → Nat} {d s0 : Nat → Nat} {c c' : Nat → Int} {u : Nat → Nat} (h : WkR n s wy d s0 c u) (e : ∀ j, j < n → j ≠ s → c j = c' j) : WkR n s wy d s0 c' u := by
  have q : ∀ (w : Nat → Nat) j, j < n → j ≠ s → chR n s wy d s0 c' w j = chR n s wy d s0 c w j := fun w j hj js => by unfold chR; rw [e j hj js]
  exact ⟨h.zero, fun j hj js => by rw [q u j hj js]; exact h.has j hj js, fun v v0 st => h.least v v0 fun j hj js => by rw [← q v j hj js]; exact st j hj js⟩
theorem sg_up (d sg u : Nat → Nat) (x : Nat) : tnR d (sgR d sg u) x = sgR d sg (upR u x) := by
  funext j
  unfold tnR sgR upR
  split
  · rw [Nat.mod_add_mod, Nat.add_assoc]
  · rfl
theorem sum_up {n : Nat} {u : Nat → Nat} {x : Nat} (hx : x < n) : smS n (fun k => (upR u x k : Int)) = smS n (fun k => (u k : Int)) + 1 := by
  have e : (fun k => (upR u x k : Int)) = fun k => (u k : Int) + (if k = x then 1 else 0) := by funext k; unfold upR; split <;> omega
  rw [e, smS_add, smS_at, if_pos hx]
/-- A chip on its way. -/
def OnR (n s v : Nat) (wy : Nat → Nat → Nat) (d sg : Nat → Nat) (c : Nat → Int) (i x : Nat) (u : Nat → Nat) : Prop :=
  itR s v wy d (i + 1) ⟨sg, s⟩ = ⟨sgR d sg u, x⟩ ∧ (∀ i', i' < i → (itR s v wy d (i' + 1) ⟨sg, s⟩).at' ≠ s) ∧ WkR n s wy d sg c u ∧ (∀ j, j < n → j ≠ s → chR n s wy d sg c u j = c j - (if j = v then 1 else 0) + (if j = x then 1 else 0)) ∧ (∀ k, n ≤ k → u k = 0) ∧ smS n (fun k => (u k : Int)) = i
theorem on_way {n s v : Nat} {wy : Nat → Nat → Nat} {d sg : Nat → Nat} {c : Nat → Int} (inn : ∀ k i, k < n → i < d k → wy k i < n) (hd : ∀ k, k < n → k ≠ s → 0 < d k) (nrm : ∀ k, sg k % d k = sg k) (hc : ∀ k, k < n → 0 ≤ c k) (hv : v < n) (vs : v ≠ s) (cv : 1 ≤ c v) : ∀ i : Nat, (∃ m u, OnR n s v wy d sg c m s u) ∨ ∃ x u, x < n ∧ x ≠ s ∧ OnR n s v wy d sg c i x u
  | 0 => Or.inr ⟨v, fun _ => 0, hv, vs, by
      show stR s v wy d ⟨sg, s⟩ = _
      unfold stR
      rw [if_pos rfl]
      congr 1
      funext k
      unfold sgR
      rw [Nat.add_zero, nrm], fun i' h => by omega, WkR.start hc, fun j hj js => by
      unfold chR
      rw [smS_congr (g := fun _ => 0) fun k _ => by split <;> rfl, smS_zero]
      dsimp only
      omega, fun _ _ => rfl, (smS_congr fun _ _ => rfl).trans (smS_zero n)⟩
  | i + 1 => by
    rcases on_way inn hd nrm hc hv vs cv i with h | ⟨x, u, hx, xs, h1, h2, h3, h4, h5, h6⟩
    · exact Or.inl h
    · have can : 1 ≤ chR n s wy d sg c u x := by
        rw [h4 x hx xs, if_pos rfl]
        have := hc x hx
        split
        · rename_i q; rw [q]; omega
        · omega
      have st : itR s v wy d (i + 1 + 1) ⟨sg, s⟩ = ⟨sgR d sg (upR u x), wy x (sgR d sg (upR u x) x)⟩ := by
        show stR s v wy d (itR s v wy d (i + 1) ⟨sg, s⟩) = _
        rw [h1]
        unfold stR
        rw [if_neg xs]
        dsimp only
        rw [sg_up]
      have no : ∀ i', i' < i + 1 → (itR s v wy d (i' + 1) ⟨sg, s⟩).at' ≠ s := fun i' hi => by
        rcases Nat.lt_or_ge i' i with q | q
        · exact h2 i' q
        · obtain rfl : i' = i := by omega
          rw [h1]; exact xs
      have tw : towR wy d sg x (u x) = wy x (sgR d sg (upR u x) x) := by
        unfold towR sgR upR
        rw [if_pos rfl, show sg x + 1 + u x = sg x + (u x + 1) by omega]
      have z : ∀ k, n ≤ k → upR u x k = 0 := fun k hk => by unfold upR; rw [if_neg (by omega)]; exact h5 k hk
      have ch : ∀ j, j < n → j ≠ s → chR n s wy d sg c (upR u x) j = c j - (if j = v then 1 else 0) + (if j = wy x (sgR d sg (upR u x) x) then 1 else 0) := fun j hj js => by
        rw [ch_upR hx xs, h4 j hj js, tw]
        by_cases q : wy x (sgR d sg (upR u x) x) = j
        · rw [if_pos q, if_pos q.symm]; omega
        · have q' : ¬ j = wy x (sgR d sg (upR u x) x) := fun e => q e.symm
          rw [if_neg q, if_neg q']; omega
      have sm : smS n (fun k => (upR u x k : Int)) = ((i + 1 : Nat) : Int) := by rw [sum_up hx, h6]; omega
      have on : OnR n s v wy d sg c (i + 1) (wy x (sgR d sg (upR u x) x)) (upR u x) := ⟨st, no, h3.one hx xs can, ch, z, sm⟩
      by_cases q : wy x (sgR d sg (upR u x) x) = s
      · rw [q] at on
        exact Or.inl ⟨i + 1, _, on⟩
      · exact Or.inr ⟨_, _, inn x _ hx (by unfold sgR; exact Nat.mod_lt _ (hd x hx xs)), q, on⟩
/-- Each chip comes to the sink. -/
theorem comes {n s v : Nat} {b : Nat → Nat → Int} {wy : Nat → Nat → Nat} {d sg : Nat → Nat} {c : Nat → Int} (G : GrS n s b) (Y : WyG n b wy d) (hd : ∀ k, k < n → k ≠ s → 0 < d k) (nrm : ∀ k, sg k % d k = sg k) (hc : ∀ k, k < n → 0 ≤ c k) (hv : v < n) (vs : v ≠ s) (cv : 1 ≤ c v) : ∃ m u, OnR n s v wy d sg c m s u := by
  obtain ⟨Q, hQ⟩ : ∃ Q : Nat, smS n (fun k => c k + smS n (b k)) * ((n - 1 : Nat) : Int) = Q := by
    have p : 0 ≤ smS n (fun k => c k + smS n (b k)) := smS_nonneg fun k hk => by have := hc k hk; have : 0 ≤ smS n (b k) := smS_nonneg fun j _ => G.pos k j; omega
    exact ⟨_, (Int.toNat_of_nonneg (Int.mul_nonneg p (by omega))).symm⟩
  obtain ⟨B, hB⟩ : ∃ B : Nat, smS n (fun k => ((d k * (Q + 1) : Nat) : Int)) = B := ⟨_, (Int.toNat_of_nonneg (smS_nonneg fun k _ => Int.natCast_nonneg _)).symm⟩
  rcases on_way Y.inn hd nrm hc hv vs cv (B + 1) with h | ⟨x, u, hx, xs, h1, h2, h3, h4, h5, h6⟩
  · exact h
  · exfalso
    have : smS n (fun k => (u k : Int)) ≤ smS n (fun k => ((d k * (Q + 1) : Nat) : Int)) := smS_le fun k hk => by
      have f := h3.few G Y hd hc (Int.le_refl _) k hk
      rw [hQ] at f
      by_cases q : k = s
      · rw [q, h3.zero]; omega
      · have dp := hd k hk q
        have e := Nat.div_add_mod (u k) (d k)
        have l := Nat.mod_lt (u k) dp
        have f' : u k / d k ≤ Q := by omega
        have := Nat.mul_le_mul_left (d k) f'
        rw [Nat.mul_succ]
        omega
    omega
end Go.Proofs.YtpppmollmiomlaaDoor

namespace Go.Proofs.YtpppmollmiomlaaDoor
set_option linter.unusedVariables false
/-- Behind the chip all lead to the sink again. -/
theorem lead_on {n s : Nat} {wy : Nat → Nat → Nat} {d sg : Nat → Nat} {c : Nat → Int} {u : Nat → Nat} {x : Nat} (hx : x < n) (xs : x ≠ s) (inn : ∀ k i, k < n → i < d k → wy k i < n) (hd : ∀ k, k < n → k ≠ s → 0 < d k) (can : 1 ≤ chR n s wy d sg c u x) (has : ∀ j, j < n → j ≠ s → 0 ≤ chR n s wy d sg c u j)
    (h : ∀ k, k < n → LdR s wy (sgR d sg u) (fun j => j < n ∧ j ≠ s ∧ 1 ≤ chR n s wy d sg c u j) k) : ∀ k, k < n → LdR s wy (sgR d sg (upR u x)) (fun j => j < n ∧ j ≠ s ∧ 1 ≤ chR n s wy d sg c (upR u x) j) k := fun k hk => by
  refine (h k hk).step (k := x) xs (fun j hj => by unfold sgR upR; rw [if_neg hj]) (fun j hj he => ⟨he.1, he.2.1, by have e := he.2.2; rw [ch_upR hx xs, if_neg hj]; split <;> omega⟩) ?_
  · by_cases q : wy x (sgR d sg (upR u x) x) = s
    · exact Or.inl q
    · have tw : towR wy d sg x (u x) = wy x (sgR d sg (upR u x) x) := by
        unfold towR sgR upR
        rw [if_pos rfl, show sg x + 1 + u x = sg x + (u x + 1) by omega]
      have lt : wy x (sgR d sg (upR u x) x) < n := inn x _ hx (by unfold sgR; exact Nat.mod_lt _ (hd x hx xs))
      refine Or.inr ⟨lt, q, ?_⟩
      rw [ch_upR hx xs, tw, if_pos rfl]
      have := has _ lt q
      split
      · rename_i e; rw [e]; omega
      · omega
/-- A tree stays one. -/
theorem LdR.none {s : Nat} {wy : Nat → Nat → Nat} {sg : Nat → Nat} {C : Nat → Prop} {n : Nat} (hC : ∀ j, j < n → j ≠ s → ¬ C j) (inn : ∀ k, k < n → k ≠ s → wy k (sg k) < n) {x : Nat} (h : LdR s wy sg C x) : x < n → LdR s wy sg (fun _ => False) x := by
  induction h using LdR.ind with
  | sink => exact fun _ => .sink
  | @chip k q =>
    intro hk
    by_cases e : k = s
    · rw [e]; exact .sink
    · exact absurd q (hC k hk e)
  | @go k ks _ ih => exact fun hk => .go ks (ih (inn k hk ks))
theorem UnR.tree {n s v : Nat} {wy : Nat → Nat → Nat} {d sg : Nat → Nat} (h : UnR n s v wy d ⟨sg, s⟩) (inn : ∀ k i, k < n → i < d k → wy k i < n) : treeR n s wy sg := fun k hk => by
  obtain ⟨m, hm⟩ := h.lead k hk
  clear hk
  induction m generalizing k with
  | zero =>
    have : k = s := hm
    rw [this]; exact .sink
  | succ m ih =>
    by_cases q : k = s
    · rw [q]; exact .sink
    · have hm' : itF (nxR s v wy sg) m (nxR s v wy sg k) = s := hm
      rw [show nxR s v wy sg k = wy k (sg k) by unfold nxR; rw [if_neg q]] at hm'
      exact .go q (ih _ hm')
end Go.Proofs.YtpppmollmiomlaaDoor

