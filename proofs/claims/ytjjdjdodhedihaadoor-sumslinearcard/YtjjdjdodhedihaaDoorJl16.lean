/-
  What the last text of this claim leans on, part 16: Pr19, Ll5, Ll6, Ll7, Of7, Og5, Sa1.
-/
import Derived.Test.YtjjdjdodhedihaaDoorJl15
import Derived.Test.YtjjdjdodhedihaaDoorJl14
import Derived.Test.YtjjdjdodhedihaaDoorJl9
namespace Go.Proofs.YtjjdjdodhedihaaDoor
open Go.RowKit
set_option linter.unusedVariables false

theorem cell_block_lt {w : World} {a : Addr} {v : Value} (h : w.cell? a = some v) : a.block < w.heap.size := by
  rcases Nat.lt_or_ge a.block w.heap.size with q | q
  · exact q
  · have e : w.heap[a.block]? = none := Array.getElem?_eq_none q
    simp only [World.cell?, e] at h
    cases h
/-- A list of ints reads so, from its start on. -/
def Reads0 (w : World) (a : Option Addr) (xs : List Int) : Prop := ∀ k (h : k < xs.length), ∃ g, a = some ⟨g, 0, none⟩ ∧ w.cell? ⟨g, k, none⟩ = some (.int .i64 xs[k])
theorem Reads0.below {w w' : World} {a : Option Addr} {xs : List Int} (h : Reads0 w a xs) (hb : Below w.heap.size w w') : Reads0 w' a xs := fun k hk => by
  obtain ⟨g, e, hc⟩ := h k hk
  exact ⟨g, e, (World.cell?_of_block (w := w) (a := ⟨g, k, none⟩) (hb.block g (cell_block_lt hc))).trans hc⟩
theorem Reads0.nil (w : World) (a : Option Addr) : Reads0 w a [] := fun k hk => by simp at hk

/-- At block g a list of n ints of the call's own, the cells from k on are f's. -/
structure FillD (w0 w : World) (g n k : Nat) (f : Nat → Int) : Prop where
  below : Below w0.heap.size w0 w
  ge : w0.heap.size ≤ g
  lt : g < w.heap.size
  cells : ∀ j, j < n → ∃ v, w.cell? ⟨g, j, none⟩ = some v ∧ (k ≤ j → v = .int .i64 (f j))
  fz : ∀ j, w.frozen? ⟨g, j, none⟩ = false
theorem FillD.start (w : World) (n : Nat) (f : Nat → Int) (z : Value) (t : TypeId) : FillD w (w.alloc (.cells (madeCells #[z] n) t)) w.heap.size n n f := by
  refine ⟨(Below.refl _ _).alloc (Nat.le_refl _) _, Nat.le_refl _, by simp, fun j hj => ⟨(madeCells #[z] n)[j]'(by rw [size_madeCells]; exact hj), ?_, by omega⟩, fun j => by simp⟩
  rw [World.cell?_alloc_at _ _ _ _ rfl]
  exact Array.getElem?_eq_getElem (by rw [size_madeCells]; exact hj)
theorem FillD.step {w0 w : World} {g n k : Nat} {f : Nat → Int} (h : FillD w0 w g n (k + 1) f) (hk : k < n) {x : Int} (hx : f k = x) : FillD w0 (w.setCell ⟨g, k, none⟩ (.int .i64 x)) g n k f := by
  refine ⟨h.below.setCell h.ge _, h.ge, by rw [World.size_setCell]; exact h.lt, fun j hj => ?_, fun j => by rw [World.frozen?_setCell]; exact h.fz j⟩
  by_cases e : j = k
  · subst e
    obtain ⟨v, hv, -⟩ := h.cells j hj
    exact ⟨_, World.cell?_setCell_same _ _ _ hv, fun _ => by rw [hx]⟩
  · obtain ⟨v, hv, hv'⟩ := h.cells j hj
    refine ⟨v, ?_, fun q => hv' (by omega)⟩
    exact (World.cell?_setCell_other _ ⟨g, k, none⟩ ⟨g, j, none⟩ _ (fun q => e (congrArg Addr.off q).symm)).trans hv

/-- The j-th cell of the window of m, of long cells: the highest digit first. -/
def winAt (s long m j : Nat) : Nat := m / s ^ (long - 1 - j) % s

set_option maxHeartbeats 1600000 in
theorem Window_ref (s long m : Nat) (w : World) (hs2 : 2 ≤ s) (hs4 : s ≤ 4) (hl : long ≤ 4096) (hm : m ≤ 4096) :
    Calls Tryd.prog 50 #[.int .i64 (s : Int), .int .i64 (long : Int), .int .i64 (m : Int)] w fun e w' => e = .returned (.slice (some ⟨w.heap.size, 0, none⟩) long long) ∧ FillD w w' w.heap.size long 0 (fun j => (winAt s long m j : Int)) := by
  have hs0 : ((s : Int) == 0) = false := by simp; omega
  have hs1 : (s : Int) ≠ 0 := by omega
  have hs2' : (2 : Int) ≤ (s : Int) := by omega
  have hs4' : (s : Int) ≤ 4 := by omega
  have hmk := run_make_row' (P := Tryd.prog) 22 3 (.int .i64 0) 8 Tryd.underlying22 info_int rfl .i64 .i64 long (by omega) (by omega)
  have S := hide' (FillD.start w long (fun j => (winAt s long m j : Int)) (.int .i64 0) 3)
  go_enter Tryd.func50, Tryd.ntmps50
  go_wp2
  go_loopw [2, 8] (fun xv iv wr => ∃ k x : Nat, iv = .int .i64 ((k : Int) - 1) ∧ xv = .int .i64 (x : Int) ∧ k ≤ long ∧ x ≤ 4096 ∧ Hid (x = m / s ^ (long - k)) ∧ FillD w wr w.heap.size long k (fun j => (winAt s long m j : Int))) (fun _ iv _ => (intOf iv + 1).toNat)
  case atStart => exact ⟨long, m, rfl, rfl, by omega, hm, hide' (by simp), S.out⟩
  case round =>
    obtain ⟨k, x, rfl, rfl, hk, hx, HX, fk⟩ := hrel
    have FK := hide' fk
    clear hmk S
    by_cases d : (0 : Int) ≤ (k : Int) - 1
    · obtain ⟨i, rfl⟩ : ∃ i, k = i + 1 := ⟨k - 1, by omega⟩
      obtain ⟨v, hv, -⟩ := fk.cells i (by omega)
      have hf := fk.fz i
      have e1 : ((i + 1 : Nat) : Int) - 1 = (i : Int) := by omega
      rw [e1]
      rw [e1] at d
      clear e1 fk
      have q2 : x / s ≤ x := Nat.div_le_self _ _
      have Q2 := hide' q2
      clear q2
      go_wp2
      rw [show ((x : Int) / (s : Int)) = ((x / s : Nat) : Int) by simp, wrapq _ (by have := Q2.out; omega)]
      refine ⟨⟨i, x / s, rfl, rfl, by omega, by have := Q2.out; omega, hide' ?_, FK.out.step (by omega) ?_⟩, ?_⟩
      · rw [HX.out, Nat.div_div_eq_div_mul, ← Nat.pow_succ, show (long - (i + 1)).succ = long - i by omega]
      · show ((winAt s long m i : Nat) : Int) = _
        unfold winAt
        rw [show long - 1 - i = long - (i + 1) by omega, ← HX.out]
        simp
      · simp [intOf]
    · have K := hide' (show k = 0 by omega)
      clear fk
      go_wp2
      go_ret
      refine ⟨rfl, ?_⟩
      have := FK.out
      rw [K.out] at this
      exact this
end Go.Proofs.YtjjdjdodhedihaaDoor

namespace Go.Proofs.YtjjdjdodhedihaaDoor
open Go.RowKit
set_option linter.unusedVariables false

end Go.Proofs.YtjjdjdodhedihaaDoor

namespace Go.Proofs.YtjjdjdodhedihaaDoor
open Go.RowKit
set_option linter.unusedVariables false

end Go.Proofs.YtjjdjdodhedihaaDoor

namespace Go.Proofs.YtjjdjdodhedihaaDoor
open Go.RowKit
set_option linter.unusedVariables false

/-- The rule that grows, in its box at P; what lies below it stays. -/
structure CM (w0 wr : World) (P S K : Nat) (v : Value) (xs : List Int) : Prop where
  below : Below P w0 wr
  sz : P + 1 ≤ wr.heap.size
  rb : RB P S K v wr
  fz : ∀ k, wr.frozen? ⟨P, k, none⟩ = false
  own : wr.ownsRow (P + 1) 3 1 v xs.length (xs.map fun x => .int .i64 x)
theorem CM.next {w0 wr w' : World} {P S K : Nat} {v : Value} {xs : List Int} (h : CM w0 wr P S K v xs) (hb : Below wr.heap.size wr w') : CM w0 w' P S K v xs := by
  have := h.sz
  have := hb.size
  exact ⟨h.below.trans (hb.mono (by omega)), by omega, h.rb.next hb, fun k => (World.frozen?_of_block (w := wr) (a := ⟨P, k, none⟩) (hb.block P (by omega))).trans (h.fz k), ownsRow_keepB h.own fun k _ hk => hb.block k hk⟩
theorem CM.grown {w0 wr w' : World} {P S K : Nat} {v : Value} {xs : List Int} (h : CM w0 wr P S K v xs) {x : Int} (hg : (wr.alloc (.cells #[.int .i64 x] 3)).grownBy w' v.ownBlock) : ∀ k, k < P + 1 → w'.heap[k]? = wr.heap[k]? := fun k hk => by
  have hz := h.sz
  have hob := ownsRow_lt h.own
  rw [hg.block k (by rw [World.size_alloc]; omega) (fun e => by have := (hob k e.symm).1; omega)]
  exact Below.heap_alloc _ _ _ (by omega)
theorem cellO {w : World} {p k j : Nat} {u v : Value} (h : w.cell? ⟨p, k, none⟩ = some v) (hj : j ≠ k) : (w.setCell ⟨p, j, none⟩ u).cell? ⟨p, k, none⟩ = some v :=
  (World.cell?_setCell_other _ ⟨p, j, none⟩ ⟨p, k, none⟩ _ (fun q => hj (congrArg Addr.off q))).trans h
theorem CM.push {w0 wr w' : World} {P S K : Nat} {v v' : Value} {xs : List Int} {x : Int} (h : CM w0 wr P S K v xs) (hg : (wr.alloc (.cells #[.int .i64 x] 3)).grownBy w' v.ownBlock) (ho : w'.ownsRow (P + 1) 3 1 v' (xs.length + 1) ((xs.map fun x => .int .i64 x) ++ [.int .i64 x])) :
    CM w0 (w'.setCell ⟨P, 5, none⟩ v') P S K v' (xs ++ [x]) := by
  have hk := h.grown hg
  have hz := h.sz
  have hsz : wr.heap.size + 1 ≤ w'.heap.size := by have := hg.size; rw [World.size_alloc] at this; exact this
  have hb : Below P w0 w' := h.below.trans ⟨hg.os, hg.tape, hg.output, by omega, fun k hkk => hk k (by omega)⟩
  have r := h.rb.block (hk P (by omega))
  refine ⟨hb.setCell (Nat.le_refl _) _, by rw [World.size_setCell]; omega, ⟨cellO r.c0 (by omega), cellO r.c1 (by omega), cellO r.c2 (by omega), cellO r.c3 (by omega), cellO r.c4 (by omega), World.cell?_setCell_same _ _ _ r.c5, cellO r.c6 (by omega)⟩, fun k => by rw [World.frozen?_setCell]; exact (World.frozen?_of_block (w := wr) (a := ⟨P, k, none⟩) (hk P (by omega))).trans (h.fz k), ?_⟩
  have := ownsRow_setCell_below ho (a := ⟨P, 5, none⟩) (by simp) v'
  simpa using this
theorem CM.start (w : World) (P S K : Nat) (hP : w.heap.size = P) (t : TypeId) : CM (w.alloc (.cells #[.int .i64 2, .int .i64 0, .int .i64 0, .int .i64 (S : Int), .int .i64 (K : Int), .slice none 0 0, .string ⟨#[]⟩] t)) (w.alloc (.cells #[.int .i64 2, .int .i64 0, .int .i64 0, .int .i64 (S : Int), .int .i64 (K : Int), .slice none 0 0, .string ⟨#[]⟩] t)) P S K (.slice none 0 0) [] := by
  subst hP
  exact ⟨Below.refl _ _, by simp, RB.new w S K _ t, fun k => by simp, ⟨by simp, Or.inl ⟨rfl, by simp⟩⟩⟩
end Go.Proofs.YtjjdjdodhedihaaDoor

namespace Go.Proofs.YtjjdjdodhedihaaDoor
open Go.RowKit
set_option linter.unusedVariables false

end Go.Proofs.YtjjdjdodhedihaaDoor

namespace Go.Proofs.YtjjdjdodhedihaaDoor
set_option linter.unusedVariables false

theorem hn_split {S : Nat} {f : Nat → Nat} (i a : Nat) : ∀ m, hn S f i (a + m) = hn S f i a * S ^ m + hn S f (i + a) m
  | 0 => by simp [hn]
  | m + 1 => by
    rw [← Nat.add_assoc, hn, hn_split i a m, hn, Nat.add_mul, Nat.mul_assoc, ← Nat.pow_succ, Nat.add_assoc, ← Nat.add_assoc i a m]
theorem hn_div {S : Nat} {f : Nat → Nat} (hS : 0 < S) (hf : ∀ t, f t < S) (i a m : Nat) : hn S f i (a + m) / S ^ m = hn S f i a := by
  rw [hn_split, Nat.mul_comm, Nat.mul_add_div (Nat.pow_pos hS), Nat.div_eq_of_lt (hn_lt hf m _), Nat.add_zero]
theorem hn_mod {S : Nat} {f : Nat → Nat} (hf : ∀ t, f t < S) (i a m : Nat) : hn S f i (a + m) % S ^ m = hn S f (i + a) m := by
  rw [hn_split, Nat.mul_comm, Nat.mul_add_mod, Nat.mod_eq_of_lt (hn_lt hf m _)]
/-- A cell of what a step makes. -/
theorem step_at {S R : Nat} {T xs : List Int} (hx : cellsOk S xs) (h0 : 0 < xs.length) (i : Nat) : (stepL S R T xs).getD ((i + R) % xs.length) 0 = T.getD (hn S (ringF xs) i (2 * R + 1)) 0 := by
  obtain ⟨j, hj⟩ : ∃ j, (i + R) % xs.length = j := ⟨_, rfl⟩
  obtain ⟨q, hq⟩ : ∃ q, (i + R) / xs.length = q := ⟨_, rfl⟩
  have jl : j < xs.length := by rw [← hj]; exact Nat.mod_lt _ h0
  have eq : i + R = q * xs.length + j := by rw [← hj, ← hq, Nat.mul_comm]; exact (Nat.div_add_mod _ _).symm
  have hR : R ≤ R * xs.length := Nat.le_mul_of_pos_right _ h0
  obtain ⟨i', hi'⟩ : ∃ i', i' + R = j + R * xs.length := ⟨j + R * xs.length - R, by omega⟩
  have ei : i + R * xs.length = i' + q * xs.length := by omega
  have a1 : hn S (ringF xs) i (2 * R + 1) = hn S (ringF xs) i' (2 * R + 1) := by
    rw [← hn_perk (ringF_per xs) i _ R, ei, hn_perk (ringF_per xs)]
  rw [hj, a1, stepL, List.getD_eq_getElem?_getD, List.getElem?_map, List.getElem?_range jl]
  simp only [Option.map_some, Option.getD_some]
  rw [wn_hn hx h0 hi', Int.toNat_natCast]
theorem ringF_step {S R : Nat} {T xs : List Int} (hx : cellsOk S xs) (h0 : 0 < xs.length) (i : Nat) : ringF (stepL S R T xs) (i + R) = (T.getD (hn S (ringF xs) i (2 * R + 1)) 0).toNat := by
  unfold ringF
  rw [stepL_length, step_at hx h0]
  rfl
end Go.Proofs.YtjjdjdodhedihaaDoor

namespace Go.Proofs.YtjjdjdodhedihaaDoor
set_option linter.unusedVariables false

/-- What a window changes: what becomes of it, without its first cell. -/
def chg (n : Nat) (T wt : List Int) (w : Nat) : Int := wt.getD (T.getD w 0).toNat 0 - wt.getD (w / n) 0
/-- There are heights by which each window changes as much as it leads upwards. -/
def KeepsP (S n : Nat) (T wt : List Int) : Prop := ∃ h : Nat → Int, ∀ w, w < T.length → chg n T wt w = h (w % n) - h (w / S)
/-- Heights, laid up to a place. -/
structure HtUpto (S n : Nat) (T wt hs : List Int) (k : Nat) : Prop where
  len : hs.length = n
  zero : hs.getD 0 0 = 0
  up : ∀ j, 0 < j → j < k → hs.getD j 0 = hs.getD (j / S) 0 + chg n T wt j
theorem HtUpto.put {S n : Nat} {T wt hs : List Int} {k : Nat} (h : HtUpto S n T wt hs k) (hS : 2 ≤ S) (h0 : 0 < k) (hk : k < n) : HtUpto S n T wt (hs.set k (hs.getD (k / S) 0 + chg n T wt k)) (k + 1) := by
  have l := h.len
  have at_ne : ∀ (j : Nat) (v : Int), j ≠ k → (hs.set k v).getD j 0 = hs.getD j 0 := fun j v hj => by
    simp [List.getD, Ne.symm hj]
  refine ⟨by simp [l], by rw [at_ne _ _ (by omega)]; exact h.zero, fun j j0 jk => ?_⟩
  have hd : j / S < j := Nat.div_lt_self j0 (by omega)
  rw [at_ne (j / S) _ (by omega)]
  by_cases e : j = k
  · subst e
    simp [List.getD, l, hk]
  · rw [at_ne _ _ e]
    exact h.up j j0 (by omega)
/-- Heights are what they are: another potential has the same. -/
theorem heights_only {S n : Nat} {T wt hs : List Int} (h : HtUpto S n T wt hs n) (hS : 2 ≤ S) (hn : n ≤ T.length) {g : Nat → Int} (hg : ∀ w, w < T.length → chg n T wt w = g (w % n) - g (w / S)) :
    ∀ j, j < n → hs.getD j 0 = g j - g 0 := by
  intro j
  induction j using Nat.strongRecOn with
  | ind j ih =>
    intro hj
    rcases Nat.eq_zero_or_pos j with z | z
    · subst z; rw [h.zero]; omega
    · have hd : j / S < j := Nat.div_lt_self z (by omega)
      rw [h.up j z hj, ih (j / S) hd (by omega), hg j (by omega), Nat.mod_eq_of_lt hj]
      omega
theorem keeps_no {S n : Nat} {T wt hs : List Int} (h : HtUpto S n T wt hs n) (hS : 2 ≤ S) (hT : T.length = n * S) (n0 : 0 < n) {w : Nat} (hw : w < T.length) (hne : chg n T wt w ≠ hs.getD (w % n) 0 - hs.getD (w / S) 0) : ¬ KeepsP S n T wt := by
  rintro ⟨g, hg⟩
  have hn : n ≤ T.length := by rw [hT]; exact Nat.le_mul_of_pos_right _ (by omega)
  have a := heights_only h hS hn hg
  have d : w / S < n := Nat.div_lt_of_lt_mul (by rw [Nat.mul_comm, ← hT]; exact hw)
  rw [a _ (Nat.mod_lt _ n0), a _ d] at hne
  have := hg w hw
  omega
theorem keeps_yes {S n : Nat} {T wt hs : List Int} (h : ∀ w, w < T.length → chg n T wt w = hs.getD (w % n) 0 - hs.getD (w / S) 0) : KeepsP S n T wt := ⟨fun j => hs.getD j 0, h⟩
theorem chg_bound {n M : Nat} {T wt : List Int} (hw : ∀ i, -(M : Int) ≤ wt.getD i 0 ∧ wt.getD i 0 ≤ (M : Int)) (w : Nat) : -(2 * M : Int) ≤ chg n T wt w ∧ chg n T wt w ≤ (2 * M : Int) := by
  unfold chg
  have a := hw (T.getD w 0).toNat
  have b := hw (w / n)
  omega
/-- No height is great. -/
theorem HtUpto.bound {S n k : Nat} {T wt hs : List Int} (h : HtUpto S n T wt hs k) (hS : 2 ≤ S) (hw : ∀ i, -(1000 : Int) ≤ wt.getD i 0 ∧ wt.getD i 0 ≤ 1000) : ∀ j, j < k → -(2000 * j : Int) ≤ hs.getD j 0 ∧ hs.getD j 0 ≤ (2000 * j : Int) := by
  intro j
  induction j using Nat.strongRecOn with
  | ind j ih =>
    intro hj
    rcases Nat.eq_zero_or_pos j with z | z
    · subst z; rw [h.zero]; omega
    · have hd : j / S < j := Nat.div_lt_self z (by omega)
      have a := ih (j / S) hd (by omega)
      have b := chg_bound (n := n) (M := 1000) (T := T) (by simpa using hw) j
      have c : j / S + 1 ≤ j := by omega
      rw [h.up j z hj]
      have : ((1000 : Nat) : Int) = 1000 := rfl
      rw [this] at b
      omega

def sumF (f : Nat → Int) : Nat → Int
  | 0 => 0
  | m + 1 => sumF f m + f m
theorem sumF_ext {f g : Nat → Int} : ∀ m, (∀ i, i < m → f i = g i) → sumF f m = sumF g m
  | 0, _ => rfl
  | m + 1, h => by rw [sumF, sumF, sumF_ext m (fun i hi => h i (by omega)), h m (by omega)]
theorem sumF_sub (f g : Nat → Int) : ∀ m, sumF (fun i => f i - g i) m = sumF f m - sumF g m
  | 0 => rfl
  | m + 1 => by rw [sumF, sumF, sumF, sumF_sub f g m]; omega
theorem sumF_tel (f : Nat → Int) : ∀ m, sumF (fun i => f (i + 1) - f i) m = f m - f 0
  | 0 => by rw [sumF]; omega
  | m + 1 => by rw [sumF, sumF_tel f m]; omega
theorem sumF_shift (f : Nat → Int) : ∀ m, sumF (fun i => f (i + 1)) m = sumF f m + f m - f 0
  | 0 => by rw [sumF, sumF]; omega
  | m + 1 => by rw [sumF, sumF_shift f m, sumF]; omega
/-- Round a ring a sum is the same wherever it begins. -/
theorem sumF_turn {f : Nat → Int} {L : Nat} (hp : ∀ t, f (t + L) = f t) : ∀ R, sumF (fun i => f (i + R)) L = sumF f L
  | 0 => rfl
  | R + 1 => by
    have h := sumF_shift (fun i => f (i + R)) L
    have e : f (L + R) = f (0 + R) := by rw [Nat.add_comm L R, Nat.zero_add]; exact hp R
    rw [sumF_turn hp R] at h
    have e2 : sumF (fun i => f (i + (R + 1))) L = sumF (fun i => f (i + 1 + R)) L := sumF_ext L (fun i _ => by rw [show i + (R + 1) = i + 1 + R by omega])
    rw [e2]
    simp only [e] at h
    omega
/-- What a word weighs. -/
def weighF (xs wt : List Int) (m : Nat) : Int := sumF (fun i => wt.getD (xs.getD i 0).toNat 0) m
/-- What is kept is kept. -/
theorem kept {S R : Nat} {T xs wt : List Int} (hS : 0 < S) (hT : T.length = S ^ (2 * R + 1)) (hx : cellsOk S xs) (hk : KeepsP S (S ^ (2 * R)) T wt) : weighF (stepL S R T xs) wt xs.length = weighF xs wt xs.length := by
  rcases Nat.eq_zero_or_pos xs.length with h0 | h0
  · rw [h0]; rfl
  · obtain ⟨h, hh⟩ := hk
    have hf := ringF_lt hx h0
    have ls : (stepL S R T xs).length = xs.length := stepL_length ..
    have a1 : weighF xs wt xs.length = sumF (fun i => wt.getD (ringF xs i) 0) xs.length := sumF_ext _ fun i hi => by simp only [ringF, Nat.mod_eq_of_lt hi]
    have a2 : weighF (stepL S R T xs) wt xs.length = sumF (fun i => wt.getD (ringF (stepL S R T xs) i) 0) xs.length := sumF_ext _ fun i hi => by simp only [ringF, ls, Nat.mod_eq_of_lt hi]
    have p2 : ∀ t, (fun i => wt.getD (ringF (stepL S R T xs) i) 0) (t + xs.length) = (fun i => wt.getD (ringF (stepL S R T xs) i) 0) t := fun t => by
      show wt.getD (ringF _ (t + xs.length)) 0 = wt.getD (ringF _ t) 0
      rw [← ls, ringF_per]
    have a3 := sumF_turn (f := fun i => wt.getD (ringF (stepL S R T xs) i) 0) (L := xs.length) p2 R
    have a4 : sumF (fun i => (fun i => wt.getD (ringF (stepL S R T xs) (i + R)) 0) i - (fun i => wt.getD (ringF xs i) 0) i) xs.length = sumF (fun i => (fun i => h (hn S (ringF xs) i (2 * R))) (i + 1) - (fun i => h (hn S (ringF xs) i (2 * R))) i) xs.length := sumF_ext _ fun i _ => by
      have q := hh (hn S (ringF xs) i (2 * R + 1)) (by rw [hT]; exact hn_lt hf _ _)
      have e1 : hn S (ringF xs) i (2 * R + 1) / S ^ (2 * R) = ringF xs i := by
        rw [show 2 * R + 1 = 1 + 2 * R by omega, hn_div hS hf]; simp [hn]
      have e2 : hn S (ringF xs) i (2 * R + 1) % S ^ (2 * R) = hn S (ringF xs) (i + 1) (2 * R) := by
        rw [show 2 * R + 1 = 1 + 2 * R by omega, hn_mod hf]
      have e3 : hn S (ringF xs) i (2 * R + 1) / S = hn S (ringF xs) i (2 * R) := by
        have := hn_div hS hf i (2 * R) 1
        rwa [Nat.pow_one] at this
      unfold chg at q
      rw [e1, e2, e3] at q
      show wt.getD (ringF (stepL S R T xs) (i + R)) 0 - wt.getD (ringF xs i) 0 = h (hn S (ringF xs) (i + 1) (2 * R)) - h (hn S (ringF xs) i (2 * R))
      rw [ringF_step hx h0]
      exact q
    have a6 := sumF_tel (fun i => h (hn S (ringF xs) i (2 * R))) xs.length
    rw [sumF_sub, a6] at a4
    have a5 : hn S (ringF xs) xs.length (2 * R) = hn S (ringF xs) 0 (2 * R) := by
      have := hn_per (S := S) (ringF_per xs) 0 (2 * R)
      rwa [Nat.zero_add] at this
    rw [a1, a2]
    simp only [a5] at a4
    omega
end Go.Proofs.YtjjdjdodhedihaaDoor

