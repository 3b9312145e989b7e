/-
  What the last text of this claim leans on, part 16: Sv4, Sv5.
-/
import Derived.Test.YtopcgkncmhhkmaaDoorZc9
namespace Go.Proofs.YtopcgkncmhhkmaaDoor
set_option linter.unusedVariables false
/-- The nine places around one: may it be looked at; its number. -/
def lgM (W H : Nat) (cor : Bool) (x y m : Nat) : Bool := decide (1 ≤ x + m % 3) && decide (x + m % 3 ≤ W) && decide (1 ≤ y + m / 3) && decide (y + m / 3 ≤ H) && (decide (m % 3 = 1) || decide (m / 3 = 1) || cor)
def plM (W x y m : Nat) : Nat := (y + m / 3 - 1) * W + (x + m % 3 - 1)
theorem lg_iff {W H x y m : Nat} {cor : Bool} : lgM W H cor x y m = true ↔ (1 ≤ x + m % 3 ∧ x + m % 3 ≤ W ∧ 1 ≤ y + m / 3 ∧ y + m / 3 ≤ H ∧ (m % 3 = 1 ∨ m / 3 = 1 ∨ cor = true)) := by
  unfold lgM
  simp only [Bool.and_eq_true, Bool.or_eq_true, decide_eq_true_iff]
  constructor
  · rintro ⟨⟨⟨⟨h1, h2⟩, h3⟩, h4⟩, (h5 | h5) | h5⟩
    · exact ⟨h1, h2, h3, h4, Or.inl h5⟩
    · exact ⟨h1, h2, h3, h4, Or.inr (Or.inl h5)⟩
    · exact ⟨h1, h2, h3, h4, Or.inr (Or.inr h5)⟩
  · rintro ⟨h1, h2, h3, h4, h5 | h5 | h5⟩
    · exact ⟨⟨⟨⟨h1, h2⟩, h3⟩, h4⟩, Or.inl (Or.inl h5)⟩
    · exact ⟨⟨⟨⟨h1, h2⟩, h3⟩, h4⟩, Or.inl (Or.inr h5)⟩
    · exact ⟨⟨⟨⟨h1, h2⟩, h3⟩, h4⟩, Or.inr h5⟩
theorem pl_lt {W H x y m : Nat} {cor : Bool} (h : lgM W H cor x y m = true) : plM W x y m < W * H := by
  obtain ⟨h1, h2, h3, h4, _⟩ := lg_iff.1 h
  exact cell_lt (by omega) (by omega)
theorem nb_iff {W : Nat} {cor : Bool} {a b : Nat} : nbD W cor a b = true ↔ (a % W ≤ b % W + 1 ∧ b % W ≤ a % W + 1 ∧ a / W ≤ b / W + 1 ∧ b / W ≤ a / W + 1 ∧ (cor = true ∨ a % W = b % W ∨ a / W = b / W)) := by
  unfold nbD
  simp only [Bool.and_eq_true, Bool.or_eq_true, decide_eq_true_iff]
  constructor
  · rintro ⟨⟨⟨⟨h1, h2⟩, h3⟩, h4⟩, (h5 | h5) | h5⟩
    · exact ⟨h1, h2, h3, h4, Or.inl h5⟩
    · exact ⟨h1, h2, h3, h4, Or.inr (Or.inl h5)⟩
    · exact ⟨h1, h2, h3, h4, Or.inr (Or.inr h5)⟩
  · rintro ⟨h1, h2, h3, h4, h5 | h5 | h5⟩
    · exact ⟨⟨⟨⟨h1, h2⟩, h3⟩, h4⟩, Or.inl (Or.inl h5)⟩
    · exact ⟨⟨⟨⟨h1, h2⟩, h3⟩, h4⟩, Or.inl (Or.inr h5)⟩
    · exact ⟨⟨⟨⟨h1, h2⟩, h3⟩, h4⟩, Or.inr h5⟩
theorem pl_nb {W H m j : Nat} {cor : Bool} (hm : m < 9) (hj : j < W * H) (h : lgM W H cor (j % W) (j / W) m = true) : nbD W cor (plM W (j % W) (j / W) m) j = true := by
  obtain ⟨h1, h2, h3, h4, h5⟩ := lg_iff.1 h
  have e1 : plM W (j % W) (j / W) m % W = j % W + m % 3 - 1 := cell_mod (by omega)
  have e2 : plM W (j % W) (j / W) m / W = j / W + m / 3 - 1 := cell_div (by omega)
  have m3 : m % 3 < 3 := Nat.mod_lt _ (by decide)
  have d3 : m / 3 < 3 := by omega
  rw [nb_iff, e1, e2]
  refine ⟨by omega, by omega, by omega, by omega, ?_⟩
  rcases h5 with h | h | h
  · exact Or.inr (Or.inl (by omega))
  · exact Or.inr (Or.inr (by omega))
  · exact Or.inl h
theorem nb_pl {W H i j : Nat} {cor : Bool} (hi : i < W * H) (hj : j < W * H) (h : nbD W cor i j = true) : ∃ m, m < 9 ∧ lgM W H cor (j % W) (j / W) m = true ∧ plM W (j % W) (j / W) m = i := by
  obtain ⟨h1, h2, h3, h4, h5⟩ := nb_iff.1 h
  have W0 : 0 < W := by
    rcases Nat.eq_zero_or_pos W with e | e
    · rw [e, Nat.zero_mul] at hi; omega
    · exact e
  have x1 : i % W < W := Nat.mod_lt _ W0
  have y1 : i / W < H := Nat.div_lt_of_lt_mul hi
  have key : ∀ a b c d : Nat, a < W → b < H → a ≤ c + 1 → c ≤ a + 1 → b ≤ d + 1 → d ≤ b + 1 → (cor = true ∨ a = c ∨ b = d) → ∃ m, m < 9 ∧ lgM W H cor c d m = true ∧ d + m / 3 - 1 = b ∧ c + m % 3 - 1 = a := by
    intro a b c d h1 h2 h3 h4 h5 h6 h7
    obtain ⟨dx, hdx⟩ : ∃ dx, a + 1 - c = dx := ⟨_, rfl⟩
    obtain ⟨dy, hdy⟩ : ∃ dx, b + 1 - d = dx := ⟨_, rfl⟩
    have e1 : (3 * dy + dx) % 3 = dx := by omega
    have e2 : (3 * dy + dx) / 3 = dy := by omega
    refine ⟨3 * dy + dx, by omega, ?_, by rw [e2]; omega, by rw [e1]; omega⟩
    rw [lg_iff, e1, e2]
    refine ⟨by omega, by omega, by omega, by omega, ?_⟩
    rcases h7 with h | h | h
    · exact Or.inr (Or.inr h)
    · exact Or.inl (by omega)
    · exact Or.inr (Or.inl (by omega))
  obtain ⟨m, m9, lg, p1, p2⟩ := key _ _ _ _ x1 y1 h1 h2 h3 h4 h5
  refine ⟨m, m9, lg, ?_⟩
  unfold plM
  rw [p1, p2]
  exact cell_is W i
theorem cnt_put {R : Nat → Bool} {k N : Nat} (hk : k < N) (h : R k = false) : cntD (fun j => if j = k then true else R j) N = cntD R N + 1 := by
  induction N with
  | zero => omega
  | succ N ih =>
    rw [cntD, cntD]
    by_cases e : N = k
    · subst e
      rw [if_pos rfl, if_pos rfl, h]
      have : cntD (fun j => if j = N then true else R j) N = cntD R N := cnt_ext fun j hj => by rw [if_neg (by omega)]
      rw [this]
      rfl
    · rw [ih (by omega), if_neg e]
      omega
/-- A search while it goes on: who is listed is who is marked. -/
structure SeR (W H : Nat) (cor : Bool) (s : Nat) (R : Nat → Bool) (l : List Nat) (d : Nat) : Prop where
  src : SrcL W (W * H) cor (fun i => decide (i / W = 0)) (fun i => decide (s / 2 ^ i % 2 = 1)) l d
  mark : ∀ j, j < W * H → (R j = true ↔ j ∈ l)
  cnt : l.length = cntD R (W * H)
theorem SeR.len {W H : Nat} {cor : Bool} {s : Nat} {R : Nat → Bool} {l : List Nat} {d : Nat} (h : SeR W H cor s R l d) : l.length ≤ W * H := by rw [h.cnt]; exact cnt_le _ _
theorem SeR.add {W H : Nat} {cor : Bool} {s : Nat} {R : Nat → Bool} {l : List Nat} {d k j : Nat} (h : SeR W H cor s R l d) (hd : d ≤ l.length) (hk : k < W * H) (hs : s / 2 ^ k % 2 = 1) (hr : R k = false) (hj : j ∈ l) (hn : nbD W cor k j = true) : SeR W H cor s (fun i => if i = k then true else R i) (l ++ [k]) d := by
  refine ⟨h.src.add hd hk (decide_eq_true hs) hj hn, fun i hi => ?_, ?_⟩
  · rw [List.mem_append, List.mem_singleton]
    by_cases e : i = k
    · rw [if_pos e]; exact ⟨fun _ => Or.inr e, fun _ => rfl⟩
    · rw [if_neg e, h.mark i hi]; exact ⟨fun q => Or.inl q, fun q => q.resolve_right e⟩
  · rw [List.length_append, h.cnt, cnt_put hk hr]
    rfl
/-- The first of the nine places are done with. -/
def hdM (W H : Nat) (cor : Bool) (s : Nat) (l : List Nat) (j m : Nat) : Prop := ∀ m', m' < m → lgM W H cor (j % W) (j / W) m' = true → s / 2 ^ plM W (j % W) (j / W) m' % 2 = 1 → plM W (j % W) (j / W) m' ∈ l
theorem hd_zero (W H : Nat) (cor : Bool) (s : Nat) (l : List Nat) (j : Nat) : hdM W H cor s l j 0 := fun m h => absurd h (Nat.not_lt_zero _)
theorem hd_skip {W H : Nat} {cor : Bool} {s : Nat} {l : List Nat} {j m : Nat} (h : hdM W H cor s l j m) (e : lgM W H cor (j % W) (j / W) m = true → s / 2 ^ plM W (j % W) (j / W) m % 2 = 1 → plM W (j % W) (j / W) m ∈ l) : hdM W H cor s l j (m + 1) := fun m' hm => by
  by_cases q : m' = m
  · rw [q]; exact e
  · exact h m' (by omega)
theorem hd_more {W H : Nat} {cor : Bool} {s : Nat} {l : List Nat} {j m k : Nat} (h : hdM W H cor s l j m) : hdM W H cor s (l ++ [k]) j m := fun m' hm a b => List.mem_append_left _ (h m' hm a b)
theorem SeR.next {W H : Nat} {cor : Bool} {s : Nat} {R : Nat → Bool} {l : List Nat} {d j : Nat} (h : SeR W H cor s R l d) (hj : l[d]? = some j) (hm : hdM W H cor s l j 9) : SeR W H cor s R l (d + 1) := by
  have jl : j < W * H := h.src.lt j (List.mem_of_getElem? hj)
  refine ⟨h.src.next hj fun i hi hs hn => ?_, h.mark, h.cnt⟩
  obtain ⟨m, m9, lg, e⟩ := nb_pl hi jl hn
  have := hm m m9 lg (by rw [e]; exact of_decide_eq_true hs)
  rw [e] at this
  exact this
/-- The first row, cell by cell. -/
def frL (W s k : Nat) : List Nat := (List.range k).filter fun j => decide (j < W) && decide (s / 2 ^ j % 2 = 1)
def frB (W s k j : Nat) : Bool := decide (j < k) && (decide (j < W) && decide (s / 2 ^ j % 2 = 1))
theorem frL_next (W s k : Nat) : frL W s (k + 1) = if (decide (k < W) && decide (s / 2 ^ k % 2 = 1)) = true then frL W s k ++ [k] else frL W s k := by
  unfold frL
  rw [List.range_succ, List.filter_append]
  by_cases e : (decide (k < W) && decide (s / 2 ^ k % 2 = 1)) = true
  · rw [if_pos e, List.filter_cons, if_pos e]; rfl
  · rw [if_neg e, List.filter_cons, if_neg e]; simp
theorem frB_next (W s k j : Nat) : frB W s (k + 1) j = if (decide (k < W) && decide (s / 2 ^ k % 2 = 1)) = true then (if j = k then true else frB W s k j) else frB W s k j := by
  unfold frB
  by_cases e : (decide (k < W) && decide (s / 2 ^ k % 2 = 1)) = true
  · rw [if_pos e]
    by_cases q : j = k
    · rw [if_pos q, q, decide_eq_true (Nat.lt_succ_self k), e]; rfl
    · rw [if_neg q, show decide (j < k + 1) = decide (j < k) from by rw [decide_eq_decide]; omega]
  · rw [if_neg e]
    by_cases q : j = k
    · rw [q, decide_eq_true (Nat.lt_succ_self k), Bool.true_and, decide_eq_false (Nat.lt_irrefl k), Bool.false_and]; exact Bool.eq_false_iff.2 e
    · rw [show decide (j < k + 1) = decide (j < k) from by rw [decide_eq_decide]; omega]
theorem fr_len (W s k N : Nat) (hk : k ≤ N) : (frL W s k).length = cntD (frB W s k) N := by
  induction k with
  | zero =>
    have : cntD (frB W s 0) N = cntD (fun _ => false) N := cnt_ext fun j _ => by unfold frB; rw [decide_eq_false (Nat.not_lt_zero j)]; rfl
    rw [this, cnt_none]; rfl
  | succ k ih =>
    rw [frL_next, show frB W s (k + 1) = fun j => _ from funext fun j => frB_next W s k j]
    by_cases e : (decide (k < W) && decide (s / 2 ^ k % 2 = 1)) = true
    · simp only [e, if_true]
      rw [List.length_append, ih (by omega), cnt_put (by omega) (by unfold frB; rw [decide_eq_false (Nat.lt_irrefl k)]; rfl)]
      rfl
    · simp only [Bool.eq_false_iff.2 e]
      exact ih (by omega)
theorem se_start {W H : Nat} (cor : Bool) (s : Nat) (hW : 0 < W) (hH : 0 < H) : SeR W H cor s (frB W s (W * H)) (frL W s (W * H)) 0 := by
  have mem : ∀ j, j ∈ frL W s (W * H) ↔ (j < W * H ∧ j < W ∧ s / 2 ^ j % 2 = 1) := fun j => by
    unfold frL
    rw [List.mem_filter, List.mem_range, Bool.and_eq_true, decide_eq_true_iff, decide_eq_true_iff]
  refine ⟨⟨fun i hi => ((mem i).1 hi).1, fun i hi => ⟨0, ?_⟩, fun i hi h1 h2 => ?_, fun k hk => absurd hk (Nat.not_lt_zero _)⟩, fun j hj => ?_, fr_len W s _ _ (Nat.le_refl _)⟩
  · obtain ⟨a, b, c⟩ := (mem i).1 hi
    rw [wetS, Nat.div_eq_of_lt b, decide_eq_true c]
    rfl
  · exact (mem i).2 ⟨hi, (Nat.div_eq_zero_iff_lt hW).1 (of_decide_eq_true h1), of_decide_eq_true h2⟩
  · rw [mem]
    unfold frB
    rw [Bool.and_eq_true, Bool.and_eq_true, decide_eq_true_iff, decide_eq_true_iff, decide_eq_true_iff]
/-- It leads: one of the last row is listed. -/
theorem SeR.yes {W H : Nat} {cor : Bool} {s : Nat} {R : Nat → Bool} {l : List Nat} {d j : Nat} (h : SeR W H cor s R l d) (hj : l[d]? = some j) (hy : j / W = H - 1) : leaC W H cor s = true := by
  have m := List.mem_of_getElem? hj
  refine any_iff.2 ⟨j, h.src.lt j m, ?_⟩
  rw [Bool.and_eq_true]
  exact ⟨decide_eq_true hy, h.src.is m⟩
theorem SeR.no {W H : Nat} {cor : Bool} {s : Nat} {R : Nat → Bool} {l : List Nat} {d : Nat} (h : SeR W H cor s R l d) (hd : l.length ≤ d) (hn : ∀ k, k < d → ∀ j, l[k]? = some j → j / W ≠ H - 1) : leaC W H cor s = false := by
  rw [Bool.eq_false_iff]
  intro q
  obtain ⟨i, hi, e⟩ := any_iff.1 q
  rw [Bool.and_eq_true] at e
  have m := (h.src.over hd i hi).1 e.2
  obtain ⟨k, hk, ek⟩ := List.getElem_of_mem m
  exact hn k (by omega) i (by rw [List.getElem?_eq_getElem hk, ek]) (of_decide_eq_true e.1)
end Go.Proofs.YtopcgkncmhhkmaaDoor

namespace Go.Proofs.YtopcgkncmhhkmaaDoor
open Go.RowKit
set_option linter.unusedVariables false
set_option linter.unusedSimpArgs false
theorem info_boolQ : (Tryd.prog.info? 4).map (fun i => (i.zero, i.size, i.bytes)) = some (some (.bool false), 1, 1) := by kernel_rfl
theorem mk_boolsQ (n : Nat) (hn : n ≤ 100) (w : World) : (Instr.makeSlice 59 (.int .i64 (n : Int)) (.int .i64 (n : Int))).run Tryd.prog w = .ok (.slice (some ⟨w.heap.size, 0, none⟩) n n) (w.alloc (.cells (arrQ n (bQ fun _ => false)) 4)) := by
  rw [show arrQ n (bQ fun _ => false) = arrQ n (fun _ => .bool false) from rfl, ← made_allQ]
  exact run_make_row' (P := Tryd.prog) 59 4 (.bool false) 1 Tryd.underlying59 info_boolQ rfl .i64 .i64 n (by omega) (by omega) w
def iL (l : List Nat) : List Value := l.map fun (k : Nat) => Value.int .i64 (k : Int)
theorem iL_app (l : List Nat) (k : Nat) : iL (l ++ [k]) = iL l ++ [.int .i64 (k : Int)] := by unfold iL; rw [List.map_append]; rfl
theorem iL_at {l : List Nat} {i j : Nat} (h : l[i]? = some j) : (iL l)[i]? = some (.int .i64 (j : Int)) := by unfold iL; rw [List.getElem?_map, h]; rfl
structure LdW (w wr : World) (B ib wb N : Nat) (I R : Nat → Bool) (l : List Nat) (v : Value) : Prop where
  inr : ArV wr ib N 4 (bQ I)
  wet : ArV wr wb N 4 (bQ R)
  own : wr.ownsRow B 3 1 v l.length (iL l)
  below : Below w.heap.size w wr
  il : ib < B
  wl : wb < B
  ne : ib ≠ wb
  i0 : w.heap.size ≤ ib
  w0 : w.heap.size ≤ wb
  size : B ≤ wr.heap.size
theorem grown_set (w : World) (g i : Nat) (v : Value) : w.grownBy (w.setCell ⟨g, i, none⟩ v) (some g) :=
  ⟨rfl, rfl, rfl, by simp, fun k _ hk => Below.heap_setCell _ _ _ _ (fun e => hk (by rw [e]))⟩
theorem own_set {w : World} {B n g i : Nat} {v x : Value} {xs : List Value} (h : w.ownsRow B 3 1 v n xs) (hg : g < B) : (w.setCell ⟨g, i, none⟩ x).ownsRow B 3 1 v n xs :=
  h.kept (grown_set w g i x) (Or.inr fun e => by have := (h.lt g e).1; omega)
theorem LdW.setI {w wr : World} {B ib wb N : Nat} {I R : Nat → Bool} {l : List Nat} {v : Value} (h : LdW w wr B ib wb N I R l v) (k : Nat) (t : Bool) : LdW w (wr.setCell ⟨ib, k, none⟩ (.bool t)) B ib wb N (fun j => if j = k then t else I j) R l v :=
  ⟨(h.inr.set k _).ext fun j _ => by unfold bQ; by_cases e : j = k <;> simp [e], h.wet.keep (set_other (Ne.symm h.ne)), own_set h.own h.il, h.below.setCell (p := ⟨ib, k, none⟩) h.i0 _, h.il, h.wl, h.ne, h.i0, h.w0, by simp; exact h.size⟩
theorem LdW.setR {w wr : World} {B ib wb N : Nat} {I R : Nat → Bool} {l : List Nat} {v : Value} (h : LdW w wr B ib wb N I R l v) (k : Nat) (t : Bool) : LdW w (wr.setCell ⟨wb, k, none⟩ (.bool t)) B ib wb N I (fun j => if j = k then t else R j) l v :=
  ⟨h.inr.keep (set_other h.ne), (h.wet.set k _).ext fun j _ => by unfold bQ; by_cases e : j = k <;> simp [e], own_set h.own h.wl, h.below.setCell (p := ⟨wb, k, none⟩) h.w0 _, h.il, h.wl, h.ne, h.i0, h.w0, by simp; exact h.size⟩
theorem LdW.ext {w wr : World} {B ib wb N : Nat} {I R I' R' : Nat → Bool} {l : List Nat} {v : Value} (h : LdW w wr B ib wb N I R l v) (e1 : ∀ j, j < N → I j = I' j) (e2 : ∀ j, j < N → R j = R' j) : LdW w wr B ib wb N I' R' l v :=
  ⟨h.inr.ext fun j hj => by unfold bQ; rw [e1 j hj], h.wet.ext fun j hj => by unfold bQ; rw [e2 j hj], h.own, h.below, h.il, h.wl, h.ne, h.i0, h.w0, h.size⟩
theorem LdW.alloc {w wr : World} {B ib wb N : Nat} {I R : Nat → Bool} {l : List Nat} {v : Value} (h : LdW w wr B ib wb N I R l v) (o : Obj) : LdW w (wr.alloc o) B ib wb N I R l v :=
  ⟨h.inr.alloc o, h.wet.alloc o, h.own.alloc o, h.below.alloc h.below.size o, h.il, h.wl, h.ne, h.i0, h.w0, by simp; have := h.size; omega⟩
theorem LdW.app {w wr w' : World} {B ib wb N : Nat} {I R : Nat → Bool} {l : List Nat} {v v' : Value} {k : Nat} (h : LdW w wr B ib wb N I R l v) (hg : wr.grownBy w' v.ownBlock) (ho : w'.ownsRow B 3 1 v' (l.length + 1) (iL l ++ [.int .i64 (k : Int)])) : LdW w w' B ib wb N I R (l ++ [k]) v' := by
  have nb : ∀ p, p < B → some p ≠ v.ownBlock := fun p hp e => by have := (h.own.lt p e.symm).1; omega
  refine ⟨h.inr.keep (hg.block _ h.inr.lt (nb _ h.il)), h.wet.keep (hg.block _ h.wet.lt (nb _ h.wl)), ?_, h.below.grown hg h.below.size fun q e => ?_, h.il, h.wl, h.ne, h.i0, h.w0, Nat.le_trans h.size hg.size⟩
  · rw [iL_app, List.length_append]
    exact ho
  · have := (h.own.lt q e).1
    have := h.il
    have := h.i0
    omega
/-- Two rows of nothing, and none listed. -/
theorem LdW.start (w : World) (N : Nat) : LdW w ((w.alloc (.cells (arrQ N (bQ fun _ => false)) 4)).alloc (.cells (arrQ N (bQ fun _ => false)) 4)) (w.heap.size + 1 + 1) w.heap.size (w.heap.size + 1) N (fun _ => false) (fun _ => false) [] (.slice none 0 0) := by
  have e1 : ArV (w.alloc (.cells (arrQ N (bQ fun _ => false)) 4)) w.heap.size N 4 (bQ fun _ => false) := heap_alloc_new _ _
  refine ⟨e1.alloc _, ?_, World.ownsRow_nil _ _ _ _, ((Below.refl _ _).alloc (Nat.le_refl _) _).alloc (by simp) _, by omega, by omega, by omega, Nat.le_refl _, by omega, by simp⟩
  have := heap_alloc_new (w.alloc (.cells (arrQ N (bQ fun _ => false)) 4)) (.cells (arrQ N (bQ fun _ => false)) 4)
  rw [show (w.alloc (.cells (arrQ N (bQ fun _ => false)) 4)).heap.size = w.heap.size + 1 by simp] at this
  exact this
/-- While the places around one are looked at. -/
structure InR (w wr : World) (B ib wb W H : Nat) (cor : Bool) (s i j mm : Nat) (R : Nat → Bool) (l : List Nat) (v : Value) : Prop where
  ld : LdW w wr B ib wb (W * H) (fun j => decide (s / 2 ^ j % 2 = 1)) R l v
  se : SeR W H cor s R l i
  nl : ∀ k, k < i → ∀ j', l[k]? = some j' → j' / W ≠ H - 1
  at' : l[i]? = some j
  hd : hdM W H cor s l j mm
theorem InR.lt {w wr : World} {B ib wb W H : Nat} {cor : Bool} {s i j mm : Nat} {R : Nat → Bool} {l : List Nat} {v : Value} (h : InR w wr B ib wb W H cor s i j mm R l v) : i < l.length := (List.getElem?_eq_some_iff.1 h.at').1
theorem InR.cell {w wr : World} {B ib wb W H : Nat} {cor : Bool} {s i j mm : Nat} {R : Nat → Bool} {l : List Nat} {v : Value} (h : InR w wr B ib wb W H cor s i j mm R l v) : j < W * H := h.se.src.lt j (List.mem_of_getElem? h.at')
theorem InR.skip {w wr : World} {B ib wb W H : Nat} {cor : Bool} {s i j mm : Nat} {R : Nat → Bool} {l : List Nat} {v : Value} (h : InR w wr B ib wb W H cor s i j mm R l v) (e : lgM W H cor (j % W) (j / W) mm = true → s / 2 ^ plM W (j % W) (j / W) mm % 2 = 1 → R (plM W (j % W) (j / W) mm) = true) : InR w wr B ib wb W H cor s i j (mm + 1) R l v :=
  ⟨h.ld, h.se, h.nl, h.at', hd_skip h.hd fun a b => (h.se.mark _ (pl_lt a)).1 (e a b)⟩
theorem InR.add {w wr w' : World} {B ib wb W H : Nat} {cor : Bool} {s i j mm : Nat} {R : Nat → Bool} {l : List Nat} {v v' : Value} (h : InR w wr B ib wb W H cor s i j mm R l v) (m9 : mm < 9) (lg : lgM W H cor (j % W) (j / W) mm = true) (hs : s / 2 ^ plM W (j % W) (j / W) mm % 2 = 1) (hr : R (plM W (j % W) (j / W) mm) = false)
    (hl : LdW w w' B ib wb (W * H) (fun j => decide (s / 2 ^ j % 2 = 1)) (fun q => if q = plM W (j % W) (j / W) mm then true else R q) (l ++ [plM W (j % W) (j / W) mm]) v') : InR w w' B ib wb W H cor s i j (mm + 1) (fun q => if q = plM W (j % W) (j / W) mm then true else R q) (l ++ [plM W (j % W) (j / W) mm]) v' := by
  have il := h.lt
  refine ⟨hl, h.se.add (Nat.le_of_lt il) (pl_lt lg) hs hr (List.mem_of_getElem? h.at') (pl_nb m9 h.cell lg), fun k hk j' e => h.nl k hk j' ?_, ?_, hd_skip (hd_more h.hd) fun _ _ => List.mem_append_right _ (List.mem_singleton.2 rfl)⟩
  · rw [List.getElem?_append_left (by omega)] at e; exact e
  · rw [List.getElem?_append_left il]; exact h.at'
end Go.Proofs.YtopcgkncmhhkmaaDoor

