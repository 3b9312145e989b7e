/-
  What the last text of this claim leans on, part 2: Gd1, Rd, Rb, Rn, Ref1, Rk, Fill, Ref2.
-/
import Derived.Test.YtjjdjdodhedihaaDoorJs1
import Derived.Test.YtjjdjdodhedihaaDoorProg
import Derived.WalkKit
import Derived.WalkSpells
import Derived.WalkLawsBesides
import Derived.Deep.QuietTactic
import Derived.BigQuiet
import Derived.Laws.BitsAllLaws
import Derived.Deep.OwnRows
namespace Go.Proofs.YtjjdjdodhedihaaDoor
set_option linter.unusedVariables false

def sumN (f : Nat → Nat) : Nat → Nat
  | 0 => 0
  | m + 1 => sumN f m + f m
theorem sumN_ext {f g : Nat → Nat} : ∀ m, (∀ i, i < m → f i = g i) → sumN f m = sumN g m
  | 0, _ => rfl
  | m + 1, h => by rw [sumN, sumN, sumN_ext m (fun i hi => h i (by omega)), h m (by omega)]
theorem sumN_add (f g : Nat → Nat) : ∀ m, sumN (fun i => f i + g i) m = sumN f m + sumN g m
  | 0 => rfl
  | m + 1 => by rw [sumN, sumN, sumN, sumN_add f g m]; omega
theorem sumN_mul (x : Nat) (f : Nat → Nat) : ∀ m, sumN (fun i => x * f i) m = x * sumN f m
  | 0 => rfl
  | m + 1 => by rw [sumN, sumN, sumN_mul x f m, Nat.mul_add]
theorem sumN_const (x : Nat) : ∀ m, sumN (fun _ => x) m = m * x
  | 0 => by simp [sumN]
  | m + 1 => by rw [sumN, sumN_const x m, Nat.add_mul, Nat.one_mul]
theorem sumN_zero : ∀ m, sumN (fun _ => 0) m = 0 := fun m => by rw [sumN_const, Nat.mul_zero]
theorem sumN_le {f g : Nat → Nat} : ∀ m, (∀ i, i < m → f i ≤ g i) → sumN f m ≤ sumN g m
  | 0, _ => Nat.le_refl _
  | m + 1, h => Nat.add_le_add (sumN_le m (fun i hi => h i (by omega))) (h m (by omega))
theorem sumN_swap (f : Nat → Nat → Nat) (b : Nat) : ∀ a, sumN (fun i => sumN (fun j => f i j) b) a = sumN (fun j => sumN (fun i => f i j) a) b
  | 0 => by rw [sumN]; exact (sumN_zero b).symm
  | a + 1 => by rw [sumN, sumN_swap f b a, ← sumN_add]; rfl
theorem sumN_one {k : Nat} (x : Nat) : ∀ m, k < m → sumN (fun i => if i = k then x else 0) m = x
  | 0, h => by omega
  | m + 1, h => by
    rw [sumN]
    rcases Nat.lt_or_ge k m with c | c
    · rw [sumN_one x m c, if_neg (by omega), Nat.add_zero]
    · obtain rfl : k = m := by omega
      rw [if_pos rfl, sumN_ext (g := fun _ => 0) k (fun i hi => if_neg (by omega)), sumN_zero, Nat.zero_add]
theorem sumN_app (f : Nat → Nat) (a : Nat) : ∀ b, sumN f (a + b) = sumN f a + sumN (fun i => f (a + i)) b
  | 0 => rfl
  | b + 1 => by rw [← Nat.add_assoc, sumN, sumN_app f a b, sumN, Nat.add_assoc]
theorem sumN_split (f : Nat → Nat) (a : Nat) : ∀ b, sumN f (a * b) = sumN (fun i => sumN (fun r => f (a * i + r)) a) b
  | 0 => rfl
  | b + 1 => by rw [Nat.mul_succ, sumN_app, sumN_split f a b]; rfl
theorem sumN_term {f : Nat → Nat} : ∀ m j, j < m → f j ≤ sumN f m
  | 0, j, h => by omega
  | m + 1, j, h => by
    rw [sumN]
    rcases Nat.lt_or_ge j m with c | c
    · have := sumN_term (f := f) m j c; omega
    · obtain rfl : j = m := by omega
      omega
theorem sumN_two {f : Nat → Nat} : ∀ m i j, i < j → j < m → f i + f j ≤ sumN f m
  | 0, i, j, _, h => by omega
  | m + 1, i, j, hij, h => by
    rw [sumN]
    rcases Nat.lt_or_ge j m with c | c
    · have := sumN_two (f := f) m i j hij c; omega
    · obtain rfl : j = m := by omega
      have := sumN_term (f := f) j i hij
      omega
theorem sumN_pos {f : Nat → Nat} : ∀ m, 0 < sumN f m → ∃ j, j < m ∧ 0 < f j
  | 0, h => by simp [sumN] at h
  | m + 1, h => by
    rw [sumN] at h
    by_cases c : 0 < f m
    · exact ⟨m, by omega, c⟩
    · obtain ⟨j, h1, h2⟩ := sumN_pos m (show 0 < sumN f m by omega)
      exact ⟨j, by omega, h2⟩
theorem sumN_more {f : Nat → Nat} : ∀ m, (∀ i, i < m → f i ≤ 1) → 1 < sumN f m → ∃ i j, i < j ∧ j < m ∧ 0 < f i ∧ 0 < f j
  | 0, _, h => by simp [sumN] at h
  | m + 1, hf, h => by
    rw [sumN] at h
    have := hf m (by omega)
    by_cases c : 0 < f m
    · obtain ⟨i, h1, h2⟩ := sumN_pos m (show 0 < sumN f m by omega)
      exact ⟨i, m, h1, by omega, h2, c⟩
    · obtain ⟨i, j, h1, h2, h3, h4⟩ := sumN_more m (fun i hi => hf i (by omega)) (show 1 < sumN f m by omega)
      exact ⟨i, j, h1, by omega, h3, h4⟩
theorem sumN_all_le {f : Nat → Nat} {x : Nat} : ∀ m, (∀ i, i < m → f i ≤ x) → sumN f m = m * x → ∀ i, i < m → f i = x
  | 0, _, _, i, hi => by omega
  | m + 1, h, e, i, hi => by
    rw [sumN, Nat.add_mul, Nat.one_mul] at e
    have a := sumN_le (f := f) (g := fun _ => x) m (fun i hi => h i (by omega))
    rw [sumN_const] at a
    have b := h m (by omega)
    rcases Nat.lt_or_ge i m with c | c
    · exact sumN_all_le m (fun i hi => h i (by omega)) (by omega) i c
    · obtain rfl : i = m := by omega
      omega
theorem least {P : Nat → Prop} (h : ∃ m, P m) : ∃ m, P m ∧ ∀ k, P k → m ≤ k := by
  obtain ⟨m, hm⟩ := h
  induction m using Nat.strongRecOn with
  | ind m ih =>
    by_cases c : ∃ k, k < m ∧ P k
    · obtain ⟨k, hk, pk⟩ := c
      exact ih k hk pk
    · exact ⟨m, hm, fun k pk => by
        rcases Nat.lt_or_ge k m with q | q
        · exact absurd ⟨k, q, pk⟩ c
        · exact q⟩
theorem most {P : Nat → Prop} (B : Nat) (h : ∃ m, P m) (hb : ∀ m, P m → m ≤ B) : ∃ m, P m ∧ ∀ k, P k → k ≤ m := by
  obtain ⟨d, ⟨m, hm, e⟩, hl⟩ := least (P := fun d => ∃ m, P m ∧ d = B - m) (by obtain ⟨m, hm⟩ := h; exact ⟨B - m, m, hm, rfl⟩)
  refine ⟨m, hm, fun k hk => ?_⟩
  have := hl (B - k) ⟨k, hk, rfl⟩
  have := hb k hk
  have := hb m hm
  omega

/-- How much comes to each place by a letter. -/
def stp (S n : Nat) (T : List Int) (a : Int) (v : Nat → Nat) (q : Nat) : Nat := sumN (fun j => if T.getD j 0 = a ∧ j % n = q then v (j / S) else 0) (n * S)
def act (S n : Nat) (T : List Int) : List Int → (Nat → Nat) → Nat → Nat
  | [], v => v
  | a :: w, v => act S n T w (stp S n T a v)
def one1 : Nat → Nat := fun _ => 1
/-- Of how many words a word comes. -/
def cntN (S n : Nat) (T w : List Int) : Nat := sumN (act S n T w one1) n
/-- All letters together. -/
def adj (S n : Nat) (v : Nat → Nat) (q : Nat) : Nat := sumN (fun j => if j % n = q then v (j / S) else 0) (n * S)
theorem act_append (S n : Nat) (T : List Int) : ∀ (a b : List Int) (v : Nat → Nat), act S n T (a ++ b) v = act S n T b (act S n T a v)
  | [], b, v => rfl
  | x :: a, b, v => act_append S n T a b _
theorem stp_congr {S n : Nat} {T : List Int} {a : Int} {u v : Nat → Nat} (h : ∀ p, p < n → u p = v p) : stp S n T a u = stp S n T a v := by
  funext q
  apply sumN_ext
  intro j hj
  have : j / S < n := Nat.div_lt_of_lt_mul (by rw [Nat.mul_comm]; exact hj)
  simp only [h _ this]
theorem act_congr {S n : Nat} {T : List Int} {u v : Nat → Nat} (h : ∀ p, p < n → u p = v p) : ∀ (w : List Int) (q : Nat), q < n → act S n T w u q = act S n T w v q
  | [], q, hq => h q hq
  | a :: w, q, hq => by rw [act, act, stp_congr h]
theorem stp_mono {S n : Nat} {T : List Int} {a : Int} {u v : Nat → Nat} (h : ∀ p, p < n → u p ≤ v p) (q : Nat) : stp S n T a u q ≤ stp S n T a v q := by
  apply sumN_le
  intro j hj
  have : j / S < n := Nat.div_lt_of_lt_mul (by rw [Nat.mul_comm]; exact hj)
  show (if _ then _ else 0) ≤ (if _ then _ else 0)
  split
  · exact h _ this
  · exact Nat.le_refl _
theorem act_mono {S n : Nat} {T : List Int} : ∀ (w : List Int) {u v : Nat → Nat}, (∀ p, p < n → u p ≤ v p) → ∀ q, q < n → act S n T w u q ≤ act S n T w v q
  | [], u, v, h, q, hq => h q hq
  | a :: w, u, v, h, q, hq => act_mono w (fun p _ => stp_mono h p) q hq
theorem stp_mul (S n : Nat) (T : List Int) (a : Int) (x : Nat) (v : Nat → Nat) : stp S n T a (fun q => x * v q) = fun q => x * stp S n T a v q := by
  funext q
  unfold stp
  rw [← sumN_mul]
  apply sumN_ext
  intro j _
  show (if _ then _ else 0) = x * (if _ then _ else 0)
  split
  · rfl
  · simp
theorem act_mul (S n : Nat) (T : List Int) (x : Nat) : ∀ (w : List Int) (v : Nat → Nat), act S n T w (fun q => x * v q) = fun q => x * act S n T w v q
  | [], v => rfl
  | a :: w, v => by rw [act, act, stp_mul, act_mul S n T x w]
theorem stp_sum (S n : Nat) (T : List Int) (a : Int) (F : Nat → Nat → Nat) (m : Nat) : stp S n T a (fun q => sumN (fun c => F c q) m) = fun q => sumN (fun c => stp S n T a (F c) q) m := by
  funext q
  unfold stp
  rw [sumN_swap]
  apply sumN_ext
  intro j _
  by_cases c : T.getD j 0 = a ∧ j % n = q
  · simp only [if_pos c]
  · simp only [if_neg c]; exact (sumN_zero m).symm
theorem act_sum (S n : Nat) (T : List Int) (m : Nat) : ∀ (w : List Int) (F : Nat → Nat → Nat), act S n T w (fun q => sumN (fun c => F c q) m) = fun q => sumN (fun c => act S n T w (F c) q) m
  | [], F => rfl
  | a :: w, F => by rw [act, stp_sum, act_sum S n T m w]; rfl
theorem stp_letters {S n : Nat} {T : List Int} (hT : ∀ j, j < n * S → 0 ≤ T.getD j 0 ∧ T.getD j 0 < (S : Int)) (v : Nat → Nat) : (fun q => sumN (fun c => stp S n T (c : Int) v q) S) = adj S n v := by
  funext q
  unfold stp adj
  rw [sumN_swap]
  apply sumN_ext
  intro j hj
  have h := hT j hj
  by_cases c : j % n = q
  · rw [if_pos c]
    rw [sumN_ext (g := fun i => if i = (T.getD j 0).toNat then v (j / S) else 0) S]
    · exact sumN_one _ S (by omega)
    · intro i _
      by_cases e : i = (T.getD j 0).toNat
      · rw [if_pos e, if_pos ⟨by omega, c⟩]
      · rw [if_neg e, if_neg (fun h => e (by omega))]
  · rw [if_neg c, sumN_ext (g := fun _ => 0) S (fun i _ => if_neg (fun h => c h.2)), sumN_zero]
theorem adj_tot {S n : Nat} (hS : 0 < S) (hn : 0 < n) (v : Nat → Nat) : sumN (adj S n v) n = S * sumN v n := by
  unfold adj
  rw [sumN_swap]
  rw [sumN_ext (g := fun j => v (j / S)) (n * S)]
  · rw [Nat.mul_comm n S, sumN_split, ← sumN_mul]
    apply sumN_ext
    intro i _
    rw [sumN_ext (g := fun _ => v i) S, sumN_const]
    intro r hr
    rw [Nat.mul_add_div hS, Nat.div_eq_of_lt hr, Nat.add_zero]
  · intro j _
    rw [sumN_ext (g := fun i => if i = j % n then v (j / S) else 0) n]
    · exact sumN_one _ n (Nat.mod_lt _ hn)
    · intro i _
      by_cases e : j % n = i
      · rw [if_pos e, if_pos e.symm]
      · rw [if_neg e, if_neg (fun q => e q.symm)]
/-- One letter more behind a word: of as many words, times the states. -/
theorem cnt_more {S n : Nat} {T : List Int} (hS : 0 < S) (hn : 0 < n) (hT : ∀ j, j < n * S → 0 ≤ T.getD j 0 ∧ T.getD j 0 < (S : Int)) (w : List Int) : sumN (fun c => cntN S n T (w ++ [(c : Int)])) S = S * cntN S n T w := by
  unfold cntN
  rw [← adj_tot hS hn, ← stp_letters hT, sumN_swap]
  apply sumN_ext
  intro c _
  apply sumN_ext
  intro q _
  rw [act_append]
  rfl
theorem cnt_nil (S n : Nat) (T : List Int) : cntN S n T [] = n := by
  unfold cntN
  show sumN one1 n = n
  have := sumN_const 1 n
  rw [Nat.mul_one] at this
  exact this
/-- What comes behind a word. -/
theorem cnt_mass {S n : Nat} {T : List Int} (w : List Int) (v : Nat → Nat) : sumN (act S n T w v) n ≤ sumN v n * cntN S n T w := by
  unfold cntN
  rw [← sumN_mul]
  apply sumN_le
  intro q hq
  have h := act_mono (S := S) (T := T) w (u := v) (v := fun q => sumN v n * one1 q) (fun p hp => by
    show v p ≤ sumN v n * 1
    rw [Nat.mul_one]
    exact sumN_term n p hp) q hq
  rw [act_mul] at h
  exact h
theorem cnt_join {S n : Nat} {T : List Int} (a b : List Int) : cntN S n T (a ++ b) ≤ cntN S n T a * cntN S n T b := by
  have := cnt_mass (S := S) (n := n) (T := T) b (act S n T a one1)
  unfold cntN at *
  rw [act_append]
  exact this
theorem cells_nil (S : Int) : cellsOk S [] := fun x hx => by cases hx
theorem cells_app {S : Int} {a b : List Int} (ha : cellsOk S a) (hb : cellsOk S b) : cellsOk S (a ++ b) := fun x hx => by
  rcases List.mem_append.1 hx with h | h
  · exact ha x h
  · exact hb x h
theorem cells_one {S c : Nat} (h : c < S) : cellsOk S [(c : Int)] := fun x hx => by
  rw [List.mem_singleton.1 hx]
  omega
theorem cells_letter {S : Nat} {x : Int} {w : List Int} (h : cellsOk S (x :: w)) : ∃ c, c < S ∧ x = (c : Int) ∧ cellsOk S w := by
  have h1 := h x (by simp)
  exact ⟨x.toNat, by omega, by omega, fun y hy => h y (by simp [hy])⟩
theorem cnt_most {S n m : Nat} {T : List Int} (hS : 0 < S) (hn : 0 < n) (hT : ∀ j, j < n * S → 0 ≤ T.getD j 0 ∧ T.getD j 0 < (S : Int)) (hm : ∀ w, cellsOk S w → cntN S n T w ≤ m) : ∀ (w u : List Int), cellsOk S w → cellsOk S u → cntN S n T u = m → cntN S n T (u ++ w) = m
  | [], u, _, _, h => by rw [List.append_nil]; exact h
  | x :: w, u, hw, hu, h => by
    obtain ⟨c, hc, rfl, hw'⟩ := cells_letter hw
    have e := cnt_more hS hn hT u
    rw [h] at e
    have h1 := sumN_all_le S (fun i hi => hm _ (cells_app hu (cells_one hi))) e c hc
    have := cnt_most hS hn hT hm w (u ++ [(c : Int)]) hw' (cells_app hu (cells_one hc)) h1
    rwa [List.append_assoc] at this
end Go.Proofs.YtjjdjdodhedihaaDoor

namespace Go.Proofs.YtjjdjdodhedihaaDoor
open Go.RowKit

/-- The reader at block b: its text s, its place i. -/
structure At (b : Nat) (s : ByteArray) (i : Nat) (w : World) : Prop where
  txt : w.cell? ⟨b, 0, none⟩ = some (.string s)
  pos : w.cell? ⟨b, 1, none⟩ = some (.int .i64 (i : Int))
  fz0 : w.frozen? ⟨b, 0, none⟩ = false
  fz1 : w.frozen? ⟨b, 1, none⟩ = false

/-- Of what was there, block b alone may have turned. -/
structure Rd (b : Nat) (w w' : World) : Prop where
  os : w'.os = w.os
  tape : w'.tape = w.tape
  output : w'.output = w.output
  size : w.heap.size ≤ w'.heap.size
  block : ∀ k, k < w.heap.size → k ≠ b → w'.heap[k]? = w.heap[k]?

theorem Rd.refl (b : Nat) (w : World) : Rd b w w := ⟨rfl, rfl, rfl, Nat.le_refl _, fun _ _ _ => rfl⟩
theorem Rd.trans {b : Nat} {a c d : World} (h : Rd b a c) (k : Rd b c d) : Rd b a d :=
  ⟨k.os.trans h.os, k.tape.trans h.tape, k.output.trans h.output, Nat.le_trans h.size k.size, fun i hi hb => (k.block i (Nat.lt_of_lt_of_le hi h.size) hb).trans (h.block i hi hb)⟩
theorem Rd.drewN {b : Nat} {a w : World} (h : Rd b a w) (n : Nat) : Rd b a (w.drewN n) := h.trans ⟨rfl, rfl, rfl, Nat.le_refl _, fun _ _ _ => rfl⟩
theorem Rd.drew {b : Nat} {a w : World} (h : Rd b a w) : Rd b a w.drew := h.trans ⟨rfl, rfl, rfl, Nat.le_refl _, fun _ _ _ => rfl⟩
theorem Rd.alloc {b : Nat} {a w : World} (h : Rd b a w) (o : Obj) : Rd b a (w.alloc o) :=
  h.trans ⟨rfl, rfl, rfl, by simp, fun k hk _ => Below.heap_alloc _ _ _ hk⟩
/-- A store into the reader. -/
theorem Rd.set {b : Nat} {a w : World} (h : Rd b a w) (o : Nat) (u : Value) : Rd b a (w.setCell ⟨b, o, none⟩ u) :=
  h.trans ⟨rfl, rfl, rfl, by simp [World.setCell], fun k _ hk => Below.heap_setCell _ _ _ _ hk⟩
theorem Rd.below {b B : Nat} {w w' : World} (h : Rd b w w') (hB : B ≤ b) (hs : B ≤ w.heap.size) : Below B w w' :=
  ⟨h.os, h.tape, h.output, h.size, fun k hk => h.block k (by omega) (by omega)⟩
theorem Rd.cell {b : Nat} {w w' : World} (h : Rd b w w') : ∀ k o, k < w.heap.size → k ≠ b → w'.cell? ⟨k, o, none⟩ = w.cell? ⟨k, o, none⟩ :=
  fun k _ hk hb => World.cell?_of_block (w := w) (h.block k hk hb)
theorem Rd.frozen {b : Nat} {w w' : World} (h : Rd b w w') : ∀ k o, k < w.heap.size → k ≠ b → w'.frozen? ⟨k, o, none⟩ = w.frozen? ⟨k, o, none⟩ :=
  fun k _ hk hb => World.frozen?_of_block (w := w) (h.block k hk hb)

theorem At.lt {b : Nat} {s : ByteArray} {i : Nat} {w : World} (h : At b s i w) : b < w.heap.size := by
  rcases Nat.lt_or_ge b w.heap.size with k | k
  · exact k
  · have := h.txt; simp [World.cell?, Array.getElem?_eq_none k] at this
theorem At.drewN {b : Nat} {s : ByteArray} {i : Nat} {w : World} (h : At b s i w) (n : Nat) : At b s i (w.drewN n) := ⟨h.txt, h.pos, h.fz0, h.fz1⟩
theorem At.alloc {b : Nat} {s : ByteArray} {i : Nat} {w : World} (h : At b s i w) (o : Obj) : At b s i (w.alloc o) := by
  have hl := h.lt
  have e : (w.alloc o).heap[b]? = w.heap[b]? := Below.heap_alloc _ _ _ hl
  exact ⟨(World.cell?_of_block (w := w) (a := ⟨b, 0, none⟩) e).trans h.txt, (World.cell?_of_block (w := w) (a := ⟨b, 1, none⟩) e).trans h.pos,
    (World.frozen?_of_block (w := w) (a := ⟨b, 0, none⟩) e).trans h.fz0, (World.frozen?_of_block (w := w) (a := ⟨b, 1, none⟩) e).trans h.fz1⟩
theorem At.setOther {b : Nat} {s : ByteArray} {i : Nat} {w : World} (h : At b s i w) {p : Addr} (hp : b ≠ p.block) (u : Value) : At b s i (w.setCell p u) := by
  have e : (w.setCell p u).heap[b]? = w.heap[b]? := Below.heap_setCell _ _ _ _ hp
  exact ⟨(World.cell?_of_block (w := w) (a := ⟨b, 0, none⟩) e).trans h.txt, (World.cell?_of_block (w := w) (a := ⟨b, 1, none⟩) e).trans h.pos,
    (World.frozen?_of_block (w := w) (a := ⟨b, 0, none⟩) e).trans h.fz0, (World.frozen?_of_block (w := w) (a := ⟨b, 1, none⟩) e).trans h.fz1⟩
theorem At.go {b : Nat} {s : ByteArray} {i : Nat} {w : World} (h : At b s i w) (j : Nat) : At b s j (w.setCell ⟨b, 1, none⟩ (.int .i64 (j : Int))) := by
  refine ⟨?_, ?_, ?_, ?_⟩
  · exact (World.cell?_setCell_other (w := w) (a := ⟨b, 1, none⟩) (b := ⟨b, 0, none⟩) (v := _) (h := by simp)).trans h.txt
  · exact World.cell?_setCell_same (w := w) (a := ⟨b, 1, none⟩) (v := _) (h := h.pos)
  · rw [World.frozen?_setCell]; exact h.fz0
  · rw [World.frozen?_setCell]; exact h.fz1

end Go.Proofs.YtjjdjdodhedihaaDoor

namespace Go.Proofs.YtjjdjdodhedihaaDoor
open Go.RowKit

end Go.Proofs.YtjjdjdodhedihaaDoor

namespace Go.Proofs.YtjjdjdodhedihaaDoor
open Go.RowKit

/-- The number as it is kept: right up to most, and above it whatever is above. -/
structure Cap (most v k : Nat) : Prop where
  eq : v ≤ most → k = v
  gt : most < v → most < k
  le : k ≤ 10 * most + 9

theorem Cap.below {most v k d : Nat} (h : Cap most v k) (hd : d ≤ 9) (hk : k ≤ most) : Cap most (v * 10 + d) (10 * k + d) := by
  have h1 := h.eq
  have h2 := h.gt
  refine ⟨?_, ?_, by omega⟩ <;> omega
theorem Cap.above {most v k d : Nat} (h : Cap most v k) (hk : most < k) : Cap most (v * 10 + d) k := by
  have h1 := h.eq
  have h2 := h.gt
  have h3 := h.le
  refine ⟨?_, ?_, by omega⟩ <;> omega

end Go.Proofs.YtjjdjdodhedihaaDoor

namespace Go.Proofs.YtjjdjdodhedihaaDoor
open Go.RowKit
set_option linter.unusedVariables false

theorem hide' {p : Prop} (h : p) : Hid p := h

end Go.Proofs.YtjjdjdodhedihaaDoor

namespace Go.Proofs.YtjjdjdodhedihaaDoor
open Go.RowKit

/-- A table in memory: a slice that reads as the numbers. -/
def Tab (w : World) (v : Value) (xs : List Int) : Prop :=
  (xs = [] ∧ v = .slice none 0 0) ∨ ∃ g cap, v = .slice (some ⟨g, 0, none⟩) xs.length cap ∧ g < w.heap.size ∧ ∀ k (h : k < xs.length), w.cell? ⟨g, k, none⟩ = some (.int .i64 xs[k])

/-- A slice whose block was made since. -/
def Fresh (w : World) (v : Value) : Prop := ∀ g k c, v = .slice (some ⟨g, 0, none⟩) k c → w.heap.size ≤ g
theorem Fresh.nil (w : World) : Fresh w (.slice none 0 0) := fun _ _ _ h => by injection h with h1; cases h1
/-- A rule as a value, its table at v. -/
def Out.val (o : Out) (v : Value) : Value := .agg #[.int .i64 o.kind, .int .i64 o.born, .int .i64 o.stay, .int .i64 o.states, .int .i64 o.radius, v, .string o.turns]

/-- The cells of a new rule. -/
def zeroCells : Array Value := #[.int .i64 0, .int .i64 0, .int .i64 0, .int .i64 0, .int .i64 0, .slice none 0 0, .string ⟨#[]⟩]

/-- A block that the call made ahead still lies there. -/
theorem Rd.made {b : Nat} {w w' : World} {C : Array Value} {t : TypeId} (h : Rd b (w.alloc (.cells C t)) w') (hb : b < w.heap.size) :
    (∀ j, w'.cell? ⟨w.heap.size, j, none⟩ = C[j]?) ∧ (∀ j, w'.frozen? ⟨w.heap.size, j, none⟩ = false) := by
  refine ⟨fun j => ?_, fun j => ?_⟩
  · rw [h.cell w.heap.size j (by simp) (by omega)]; simp
  · rw [h.frozen w.heap.size j (by simp) (by omega)]; simp

end Go.Proofs.YtjjdjdodhedihaaDoor

namespace Go.Proofs.YtjjdjdodhedihaaDoor
open Go.RowKit

theorem hide {p : Prop} (h : p) : Hid p := h
theorem unhide {p : Prop} (h : Hid p) : p := h

/-- At block g a list of n numbers, the first k of which are f's. -/
structure Fill (g n k : Nat) (f : Nat → Int) (w : World) : Prop where
  lt : g < w.heap.size
  cells : ∀ j, j < n → ∃ v, w.cell? ⟨g, j, none⟩ = some v ∧ (j < k → v = .int .i64 (f j))
  fz : ∀ j, w.frozen? ⟨g, j, none⟩ = false

theorem Fill.start (w : World) (n : Nat) (f : Nat → Int) (z : Value) (t : TypeId) : Fill w.heap.size n 0 f (w.alloc (.cells (madeCells #[z] n) t)) := by
  refine ⟨by simp, fun j hj => ⟨(madeCells #[z] n)[j]'(by rw [size_madeCells]; exact hj), ?_, by omega⟩, fun j => by simp⟩
  rw [World.cell?_alloc_at _ _ _ _ rfl]
  exact Array.getElem?_eq_getElem (by rw [size_madeCells]; exact hj)
theorem Fill.step {g n k : Nat} {f : Nat → Int} {w : World} (h : Fill g n k f w) (hk : k < n) : Fill g n (k + 1) f (w.setCell ⟨g, k, none⟩ (.int .i64 (f k))) := by
  refine ⟨by rw [World.size_setCell]; exact h.lt, fun j hj => ?_, fun j => by rw [World.frozen?_setCell]; exact h.fz j⟩
  by_cases e : j = k
  · subst e
    obtain ⟨v, hv, -⟩ := h.cells j hj
    exact ⟨_, World.cell?_setCell_same (w := w) (a := ⟨g, j, none⟩) (v := _) (h := hv), fun _ => rfl⟩
  · obtain ⟨v, hv, hv'⟩ := h.cells j hj
    refine ⟨v, ?_, fun _ => hv' (by omega)⟩
    exact (World.cell?_setCell_other (w := w) (a := ⟨g, k, none⟩) (b := ⟨g, j, none⟩) (v := _) (h := fun q => e (congrArg Addr.off q).symm)).trans hv
theorem Fill.other {g n k : Nat} {f : Nat → Int} {w : World} (h : Fill g n k f w) {p : Addr} (hp : g ≠ p.block) (u : Value) : Fill g n k f (w.setCell p u) := by
  have e : (w.setCell p u).heap[g]? = w.heap[g]? := Below.heap_setCell _ _ _ _ hp
  refine ⟨by rw [World.size_setCell]; exact h.lt, fun j hj => ?_, fun j => ?_⟩
  · obtain ⟨v, hv, hv'⟩ := h.cells j hj
    exact ⟨v, (World.cell?_of_block (w := w) (a := ⟨g, j, none⟩) e).trans hv, hv'⟩
  · exact (World.frozen?_of_block (w := w) (a := ⟨g, j, none⟩) e).trans (h.fz j)
theorem Fill.tab {g n cap : Nat} {f : Nat → Int} {w : World} (h : Fill g n n f w) : Tab w (.slice (some ⟨g, 0, none⟩) n cap) ((List.range n).map f) := by
  refine Or.inr ⟨g, cap, by simp, h.lt, fun k hk => ?_⟩
  simp at hk
  obtain ⟨v, hv, hv'⟩ := h.cells k hk
  rw [hv, hv' hk]; simp
theorem Tab.other {w : World} {v : Value} {xs : List Int} (h : Tab w v xs) {p : Addr} (u : Value) (hp : ∀ g c, v = .slice (some ⟨g, 0, none⟩) xs.length c → g ≠ p.block) : Tab (w.setCell p u) v xs := by
  rcases h with h | ⟨g, cap, hv, hg, hc⟩
  · exact Or.inl h
  · have e : (w.setCell p u).heap[g]? = w.heap[g]? := Below.heap_setCell _ _ _ _ (hp g cap hv)
    exact Or.inr ⟨g, cap, hv, by rw [World.size_setCell]; exact hg, fun k hk => (World.cell?_of_block (w := w) (a := ⟨g, k, none⟩) e).trans (hc k hk)⟩

/-- How many windows: the product stops above 4096. -/
def entF (n : Nat) : Nat → Nat → Nat
  | 0, e => e
  | f + 1, e => if e ≤ 4096 then entF n f (e * (n * n)) else e
def entOf (n m : Nat) : Nat := entF n m n

theorem entF_stop {n e : Nat} (h : ¬ e ≤ 4096) : ∀ f, entF n f e = e
  | 0 => rfl
  | f + 1 => by simp [entF, h]

end Go.Proofs.YtjjdjdodhedihaaDoor

namespace Go.Proofs.YtjjdjdodhedihaaDoor
open Go.RowKit
set_option linter.unusedVariables false

theorem Tab.parts {w : World} {v : Value} {xs : List Int} (h : Tab w v xs) :
    ∃ a c, v = .slice a xs.length c ∧ ∀ k (h : k < xs.length), ∃ g, a = some ⟨g, 0, none⟩ ∧ w.cell? ⟨g, k, none⟩ = some (.int .i64 xs[k]) := by
  rcases h with ⟨rfl, rfl⟩ | ⟨g, cap, rfl, hg, hc⟩
  · exact ⟨none, 0, rfl, fun k h => absurd h (by simp)⟩
  · exact ⟨_, cap, rfl, fun k h => ⟨g, rfl, hc k h⟩⟩

end Go.Proofs.YtjjdjdodhedihaaDoor

