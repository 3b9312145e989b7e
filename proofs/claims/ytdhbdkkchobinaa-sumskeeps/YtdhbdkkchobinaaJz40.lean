/-
  What the last text of this claim leans on, part 40: Ll7, Of7, Og5.
-/
import Derived.Test.YtdhbdkkchobinaaJz39
import Derived.Test.YtdhbdkkchobinaaJz28
import Derived.Test.YtdhbdkkchobinaaJz37
import Derived.Test.YtdhbdkkchobinaaJz35
import Derived.Test.YtdhbdkkchobinaaJz36
namespace Go.Proofs.Ytdhbdkkchobinaa
open Go.RowKit
set_option linter.unusedVariables false

def sizeV (S K : Nat) : Nat := if S ^ (2 * K + 1) ≤ 4096 then S ^ (2 * K + 1) else 5000
theorem spell_win (S L m : Nat) {w w' : World} {g : Nat} (h : FillD w w' g L 0 (fun j => (winAt S L m j : Int))) : Cel w' g (spellL S L m) := by
  refine ⟨h.lt, fun k hk => ?_, h.fz⟩
  rw [spellL_length] at hk
  obtain ⟨v, hv, e⟩ := h.cells k hk
  rw [hv, e (Nat.zero_le _), spellL_at S L m hk]
  rfl
/-- The rule that grows, in its box at P; what lies below it stays. -/
structure CM (w0 wr : World) (P S K : Nat) (v : Value) (xs : List Int) : Prop where
  below : Below P w0 wr
  sz : P + 1 ≤ wr.heap.size
  rb : RB P S K v wr
  fz : ∀ k, wr.frozen? ⟨P, k, none⟩ = false
  own : wr.ownsRow (P + 1) 3 1 v xs.length (xs.map fun x => .int .i64 x)
theorem CM.next {w0 wr w' : World} {P S K : Nat} {v : Value} {xs : List Int} (h : CM w0 wr P S K v xs) (hb : Below wr.heap.size wr w') : CM w0 w' P S K v xs := by
  have := h.sz
  have := hb.size
  exact ⟨h.below.trans (hb.mono (by omega)), by omega, h.rb.next hb, fun k => (World.frozen?_of_block (w := wr) (a := ⟨P, k, none⟩) (hb.block P (by omega))).trans (h.fz k), ownsRow_keepB h.own fun k _ hk => hb.block k hk⟩
theorem CM.grown {w0 wr w' : World} {P S K : Nat} {v : Value} {xs : List Int} (h : CM w0 wr P S K v xs) {x : Int} (hg : (wr.alloc (.cells #[.int .i64 x] 3)).grownBy w' v.ownBlock) : ∀ k, k < P + 1 → w'.heap[k]? = wr.heap[k]? := fun k hk => by
  have hz := h.sz
  have hob := ownsRow_lt h.own
  rw [hg.block k (by rw [World.size_alloc]; omega) (fun e => by have := (hob k e.symm).1; omega)]
  exact Below.heap_alloc _ _ _ (by omega)
theorem CM.mid {w0 wr w' : World} {P S K : Nat} {v : Value} {xs : List Int} (h : CM w0 wr P S K v xs) {x : Int} (hg : (wr.alloc (.cells #[.int .i64 x] 3)).grownBy w' v.ownBlock) : w'.cell? ⟨P, 5, none⟩ = some v ∧ w'.frozen? ⟨P, 5, none⟩ = false := by
  have e := h.grown hg P (by omega)
  exact ⟨(h.rb.block e).c5, (World.frozen?_of_block (w := wr) (a := ⟨P, 5, none⟩) e).trans (h.fz 5)⟩
theorem cellO {w : World} {p k j : Nat} {u v : Value} (h : w.cell? ⟨p, k, none⟩ = some v) (hj : j ≠ k) : (w.setCell ⟨p, j, none⟩ u).cell? ⟨p, k, none⟩ = some v :=
  (World.cell?_setCell_other _ ⟨p, j, none⟩ ⟨p, k, none⟩ _ (fun q => hj (congrArg Addr.off q))).trans h
theorem CM.push {w0 wr w' : World} {P S K : Nat} {v v' : Value} {xs : List Int} {x : Int} (h : CM w0 wr P S K v xs) (hg : (wr.alloc (.cells #[.int .i64 x] 3)).grownBy w' v.ownBlock) (ho : w'.ownsRow (P + 1) 3 1 v' (xs.length + 1) ((xs.map fun x => .int .i64 x) ++ [.int .i64 x])) :
    CM w0 (w'.setCell ⟨P, 5, none⟩ v') P S K v' (xs ++ [x]) := by
  have hk := h.grown hg
  have hz := h.sz
  have hsz : wr.heap.size + 1 ≤ w'.heap.size := by have := hg.size; rw [World.size_alloc] at this; exact this
  have hb : Below P w0 w' := h.below.trans ⟨hg.os, hg.tape, hg.output, by omega, fun k hkk => hk k (by omega)⟩
  have r := h.rb.block (hk P (by omega))
  refine ⟨hb.setCell (Nat.le_refl _) _, by rw [World.size_setCell]; omega, ⟨cellO r.c0 (by omega), cellO r.c1 (by omega), cellO r.c2 (by omega), cellO r.c3 (by omega), cellO r.c4 (by omega), World.cell?_setCell_same _ _ _ r.c5, cellO r.c6 (by omega)⟩, fun k => by rw [World.frozen?_setCell]; exact (World.frozen?_of_block (w := wr) (a := ⟨P, k, none⟩) (hk P (by omega))).trans (h.fz k), ?_⟩
  have := ownsRow_setCell_below ho (a := ⟨P, 5, none⟩) (by simp) v'
  simpa using this
theorem CM.start (w : World) (P S K : Nat) (hP : w.heap.size = P) (t : TypeId) : CM (w.alloc (.cells #[.int .i64 2, .int .i64 0, .int .i64 0, .int .i64 (S : Int), .int .i64 (K : Int), .slice none 0 0, .string ⟨#[]⟩] t)) (w.alloc (.cells #[.int .i64 2, .int .i64 0, .int .i64 0, .int .i64 (S : Int), .int .i64 (K : Int), .slice none 0 0, .string ⟨#[]⟩] t)) P S K (.slice none 0 0) [] := by
  subst hP
  exact ⟨Below.refl _ _, by simp, RB.new w S K _ t, fun k => by simp, ⟨by simp, Or.inl ⟨rfl, by simp⟩⟩⟩
theorem below_arg {w0 wr : World} {P : Nat} {xs : List Int} {a : Option Addr} {n c B : Nat} (h : ArgP w0 xs a n c) (hb : ∀ g off, a = some ⟨g, off, none⟩ → g < B) (h2 : Below P w0 wr) (hB : B ≤ P) : ArgP wr xs a n c :=
  ⟨h.len, h.max, fun k hk => by
    obtain ⟨g, off, e, hg, hc⟩ := h.cells k hk
    have := hb g off e
    exact ⟨g, off, e, Nat.lt_of_lt_of_le hg h2.size, (World.cell?_of_block (w := w0) (a := ⟨g, off + k, none⟩) (h2.block g (by omega))).trans hc⟩⟩
/-- A rule of the document's side. -/
def RuleRef (S R : Nat) (T : List Int) (w : World) (e : Ending) (w' : World) : Prop :=
  ∃ a c, e = .returned (.agg #[.int .i64 2, .int .i64 0, .int .i64 0, .int .i64 (S : Int), .int .i64 (R : Int), .slice a T.length c, .string ⟨#[]⟩]) ∧ Reads0 w' a T ∧ (∀ g, a = some ⟨g, 0, none⟩ → w.heap.size ≤ g) ∧ Below w.heap.size w w'
theorem own_reads {w : World} {base : Nat} {e : TypeId} {v : Value} {xs : List Int} (h : w.ownsRow base e 1 v xs.length (xs.map fun x => .int .i64 x)) : ∃ a c, v = .slice a xs.length c ∧ Reads0 w a xs := by
  rcases ownsRow_tab h with ⟨h1, h2⟩ | ⟨g, cap, h1, -, h3⟩
  · subst h1
    exact ⟨none, 0, h2, Reads0.nil _ _⟩
  · exact ⟨some ⟨g, 0, none⟩, cap, h1, fun k hk => ⟨g, rfl, h3 k hk⟩⟩
theorem reads_of_block {w w' : World} {a : Option Addr} {xs : List Int} (h : Reads0 w a xs) (e : ∀ g, a = some ⟨g, 0, none⟩ → w'.heap[g]? = w.heap[g]?) : Reads0 w' a xs := fun k hk => by
  obtain ⟨g, e1, hc⟩ := h k hk
  exact ⟨g, e1, (World.cell?_of_block (w := w) (a := ⟨g, k, none⟩) (e g e1)).trans hc⟩
theorem seven_heap (w : World) (p q : Nat) (a b c d e f g : Value) (h : q ≠ p) : (((((((w.setCell ⟨p, 0, none⟩ a).setCell ⟨p, 1, none⟩ b).setCell ⟨p, 2, none⟩ c).setCell ⟨p, 3, none⟩ d).setCell ⟨p, 4, none⟩ e).setCell ⟨p, 5, none⟩ f).setCell ⟨p, 6, none⟩ g).heap[q]? = w.heap[q]? :=
  ((((((Below.heap_setCell _ _ _ _ h).trans (Below.heap_setCell _ _ _ _ h)).trans (Below.heap_setCell _ _ _ _ h)).trans (Below.heap_setCell _ _ _ _ h)).trans (Below.heap_setCell _ _ _ _ h)).trans (Below.heap_setCell _ _ _ _ h)).trans (Below.heap_setCell _ _ _ _ h)

end Go.Proofs.Ytdhbdkkchobinaa

namespace Go.Proofs.Ytdhbdkkchobinaa
open Go.RowKit
set_option linter.unusedVariables false

/-- A word read off a number. -/
def winL (S long x : Nat) : List Int := (List.range long).map fun j => ((winAt S long x j : Nat) : Int)
theorem winL_length (S long x : Nat) : (winL S long x).length = long := by simp [winL]
theorem winL_at {S long x j : Nat} (h : j < long) : (winL S long x).getD j 0 = ((winAt S long x j : Nat) : Int) := by simp [winL, List.getD, h]
theorem winL_ok {S long x : Nat} (hS : 0 < S) : cellsOk S (winL S long x) := by
  intro y hy
  obtain ⟨j, _, rfl⟩ := List.mem_map.1 hy
  have := Nat.mod_lt (x / S ^ (long - 1 - j)) hS
  unfold winAt
  omega
theorem win_digits {S long x i : Nat} (hS : 0 < S) : ∀ m, i + m ≤ long → wn (S : Int) (fun t => (winL S long x).getD t 0) i m = ((x / S ^ (long - i - m) % S ^ m : Nat) : Int)
  | 0, _ => by simp [wn, Nat.mod_one]
  | m + 1, h => by
    rw [wn, win_digits hS m (by omega), winL_at (by omega)]
    unfold winAt
    obtain ⟨D, hD⟩ : ∃ D, long - i - (m + 1) = D := ⟨_, rfl⟩
    rw [show long - 1 - (i + m) = D by omega, show long - i - m = D + 1 by omega, hD, Nat.pow_succ S D, ← Nat.div_div_eq_div_mul, Nat.pow_succ S m, Nat.mul_comm (S ^ m) S, Nat.mod_mul]
    push_cast
    rw [Int.mul_comm, Int.add_comm]
/-- What a rule makes of it, cell by cell. -/
theorem apply_win {S R q x n : Nat} {T : List Int} (hS : 0 < S) (hT : T.length = S ^ (2 * R + 1)) {j : Nat} (hj : j < 2 * q + 1) :
    (applyL S R T (winL S (2 * q + 1 + 2 * R) x)).getD j 0 = T.getD (x / S ^ (2 * q - j) % T.length) 0 := by
  rw [applyL_at _ _ _ _ (by rw [winL_length]; omega), win_digits hS _ (by omega), Int.toNat_natCast, hT]
  rw [show 2 * q + 1 + 2 * R - j - (2 * R + 1) = 2 * q - j by omega]
theorem short_horner {S M x : Nat} {T : List Int} {F : Nat → Int} (hF : ∀ j, j < M → F j = ((T.getD (x / S ^ (M - 1 - j) % T.length) 0).toNat : Int)) :
    ∀ m, m ≤ M → wn (S : Int) F 0 m * ((S ^ (M - m) : Nat) : Int) + ((shortN S T x (M - m) : Nat) : Int) = ((shortN S T x M : Nat) : Int)
  | 0, _ => by simp [wn]
  | m + 1, h => by
    rw [← short_horner hF m (by omega)]
    obtain ⟨D, hD⟩ : ∃ D, M - (m + 1) = D := ⟨_, rfl⟩
    rw [hD, show M - m = D + 1 by omega, wn, Nat.zero_add, hF m (by omega), show M - 1 - m = D by omega, shortN, Nat.pow_succ]
    push_cast
    rw [Int.add_mul, Int.mul_assoc, Int.mul_comm (S : Int) ((S : Int) ^ D), Int.add_assoc, Int.add_comm ((shortN S T x D : Nat) : Int)]
/-- The number of what a rule makes of it. -/
theorem at_short {S R q x n : Nat} {T : List Int} (hS : 0 < S) (hok : cellsOk S T) (hT : T.length = S ^ (2 * R + 1)) :
    wn (S : Int) (fun t => (applyL S R T (winL S (2 * q + 1 + 2 * R) x)).getD t 0) 0 (2 * q + 1) = ((shortN S T x (2 * q + 1) : Nat) : Int) := by
  have := short_horner (S := S) (M := 2 * q + 1) (x := x) (T := T) (F := fun t => (applyL S R T (winL S (2 * q + 1 + 2 * R) x)).getD t 0) (fun j hj => by
    show (applyL S R T (winL S (2 * q + 1 + 2 * R) x)).getD j 0 = _
    rw [apply_win (n := n) hS hT hj, show 2 * q + 1 - 1 - j = 2 * q - j by omega]
    have := cellsOk_at hok (k := x / S ^ (2 * q - j) % T.length) (Nat.mod_lt _ (by rw [hT]; exact Nat.pow_pos hS))
    omega) (2 * q + 1) (Nat.le_refl _)
  rw [Nat.sub_self] at this
  simpa [shortN] using this
theorem mid_win {S R q x : Nat} : winAt S (2 * q + 1 + 2 * R) x (q + R) = x / S ^ (q + R) % S := by
  unfold winAt
  rw [show 2 * q + 1 + 2 * R - 1 - (q + R) = q + R by omega]
end Go.Proofs.Ytdhbdkkchobinaa

namespace Go.Proofs.Ytdhbdkkchobinaa
set_option linter.unusedVariables false

theorem hn_split {S : Nat} {f : Nat → Nat} (i a : Nat) : ∀ m, hn S f i (a + m) = hn S f i a * S ^ m + hn S f (i + a) m
  | 0 => by simp [hn]
  | m + 1 => by
    rw [← Nat.add_assoc, hn, hn_split i a m, hn, Nat.add_mul, Nat.mul_assoc, ← Nat.pow_succ, Nat.add_assoc, ← Nat.add_assoc i a m]
theorem hn_div {S : Nat} {f : Nat → Nat} (hS : 0 < S) (hf : ∀ t, f t < S) (i a m : Nat) : hn S f i (a + m) / S ^ m = hn S f i a := by
  rw [hn_split, Nat.mul_comm, Nat.mul_add_div (Nat.pow_pos hS), Nat.div_eq_of_lt (hn_lt hf m _), Nat.add_zero]
theorem hn_mod {S : Nat} {f : Nat → Nat} (hf : ∀ t, f t < S) (i a m : Nat) : hn S f i (a + m) % S ^ m = hn S f (i + a) m := by
  rw [hn_split, Nat.mul_comm, Nat.mul_add_mod, Nat.mod_eq_of_lt (hn_lt hf m _)]
theorem wn_of_hn {S : Nat} {f : Nat → Nat} (i : Nat) : ∀ m, wn (S : Int) (fun t => ((f (i + t) : Nat) : Int)) 0 m = ((hn S f i m : Nat) : Int)
  | 0 => rfl
  | m + 1 => by
    rw [wn, wn_of_hn i m, hn, Nat.zero_add]
    push_cast
    rfl
/-- A cell of what a step makes. -/
theorem step_at {S R : Nat} {T xs : List Int} (hx : cellsOk S xs) (h0 : 0 < xs.length) (i : Nat) : (stepL S R T xs).getD ((i + R) % xs.length) 0 = T.getD (hn S (ringF xs) i (2 * R + 1)) 0 := by
  obtain ⟨j, hj⟩ : ∃ j, (i + R) % xs.length = j := ⟨_, rfl⟩
  obtain ⟨q, hq⟩ : ∃ q, (i + R) / xs.length = q := ⟨_, rfl⟩
  have jl : j < xs.length := by rw [← hj]; exact Nat.mod_lt _ h0
  have eq : i + R = q * xs.length + j := by rw [← hj, ← hq, Nat.mul_comm]; exact (Nat.div_add_mod _ _).symm
  have hR : R ≤ R * xs.length := Nat.le_mul_of_pos_right _ h0
  obtain ⟨i', hi'⟩ : ∃ i', i' + R = j + R * xs.length := ⟨j + R * xs.length - R, by omega⟩
  have ei : i + R * xs.length = i' + q * xs.length := by omega
  have a1 : hn S (ringF xs) i (2 * R + 1) = hn S (ringF xs) i' (2 * R + 1) := by
    rw [← hn_perk (ringF_per xs) i _ R, ei, hn_perk (ringF_per xs)]
  rw [hj, a1, stepL, List.getD_eq_getElem?_getD, List.getElem?_map, List.getElem?_range jl]
  simp only [Option.map_some, Option.getD_some]
  rw [wn_hn hx h0 hi', Int.toNat_natCast]
theorem ringF_step {S R : Nat} {T xs : List Int} (hx : cellsOk S xs) (h0 : 0 < xs.length) (i : Nat) : ringF (stepL S R T xs) (i + R) = (T.getD (hn S (ringF xs) i (2 * R + 1)) 0).toNat := by
  unfold ringF
  rw [stepL_length, step_at hx h0]
  rfl
/-- The number of the window of a step is the short number. -/
theorem short_ring {S R M : Nat} {T xs : List Int} (hS : 0 < S) (hT : T.length = S ^ (2 * R + 1)) (hx : cellsOk S xs) (h0 : 0 < xs.length) (i : Nat) :
    hn S (ringF (stepL S R T xs)) (i + R) M = shortN S T (hn S (ringF xs) i (M + 2 * R)) M := by
  have hf := ringF_lt hx h0
  have := short_horner (S := S) (M := M) (x := hn S (ringF xs) i (M + 2 * R)) (T := T) (F := fun t => ((ringF (stepL S R T xs) (i + R + t) : Nat) : Int)) (fun j hj => by
    show ((ringF (stepL S R T xs) (i + R + j) : Nat) : Int) = _
    rw [show i + R + j = i + j + R by omega, ringF_step hx h0, hT]
    have e : hn S (ringF xs) i (M + 2 * R) / S ^ (M - 1 - j) % S ^ (2 * R + 1) = hn S (ringF xs) (i + j) (2 * R + 1) := by
      rw [show M + 2 * R = (j + (2 * R + 1)) + (M - 1 - j) by omega, hn_div hS hf, hn_mod hf]
    rw [e]) M (Nat.le_refl _)
  rw [Nat.sub_self, wn_of_hn] at this
  have e2 : ((hn S (ringF (stepL S R T xs)) (i + R) M : Nat) : Int) = ((shortN S T (hn S (ringF xs) i (M + 2 * R)) M : Nat) : Int) := by simpa [shortN] using this
  exact Int.ofNat_inj.1 e2
theorem undo_at {S R q : Nat} {T xs t : List Int} (hS : 0 < S) (hT : T.length = S ^ (2 * R + 1)) (hTo : cellsOk S T) (hu : undoAt S R (S ^ (2 * R)) T q = some t) (hx : cellsOk S xs) (h0 : 0 < xs.length) (i : Nat) :
    t.getD (hn S (ringF (stepL S R T xs)) (i + R) (2 * q + 1)) 0 = ((ringF xs (i + (R + q)) : Nat) : Int) := by
  have hf := ringF_lt hx h0
  have h := undoL_says hS hTo _ t hu (hn S (ringF xs) i (2 * q + 1 + 2 * R)) (by rw [← Nat.pow_add]; exact hn_lt hf _ _)
  rw [short_ring hS hT hx h0, h, show 2 * q + 1 + 2 * R = ((q + R) + 1) + (q + R) by omega, hn_div hS hf]
  rw [hn, Nat.mul_comm, Nat.mul_add_mod, Nat.mod_eq_of_lt (hf _), show i + (q + R) = i + (R + q) by omega]
/-- What a step makes of a ring is undone. -/
theorem undo_step {S R q : Nat} {T xs t : List Int} (hS : 0 < S) (hT : T.length = S ^ (2 * R + 1)) (hTo : cellsOk S T) (hu : undoAt S R (S ^ (2 * R)) T q = some t) (hx : cellsOk S xs) : stepL S q t (stepL S R T xs) = xs := by
  rcases Nat.eq_zero_or_pos xs.length with h0 | h0
  · rw [List.length_eq_zero_iff.1 h0]; simp [stepL]
  · have hTI : (T.length : Int) = (S : Int) ^ (2 * R + 1) := by rw [hT]; simp
    have ha : cellsOk S (stepL S R T xs) := stepL_ok (by omega) hTI hTo hx
    have la : (stepL S R T xs).length = xs.length := stepL_length ..
    apply List.ext_getElem (by rw [stepL_length, la])
    intro j h1 h2
    have hm : R + q ≤ (R + q) * xs.length := Nat.le_mul_of_pos_right _ h0
    obtain ⟨i, hi⟩ : ∃ i, i + (R + q) = j + (R + q) * xs.length := ⟨j + (R + q) * xs.length - (R + q), by omega⟩
    have ej : (i + (R + q)) % xs.length = j := by rw [hi, Nat.add_mul_mod_self_right, Nat.mod_eq_of_lt h2]
    have e1 := step_at (R := q) (T := t) ha (by omega) (i + R)
    rw [la, Nat.add_assoc, ej, undo_at hS hT hTo hu hx h0 i] at e1
    unfold ringF at e1
    rw [ej, List.getD_eq_getElem?_getD, List.getD_eq_getElem?_getD, List.getElem?_eq_getElem h1, List.getElem?_eq_getElem h2] at e1
    simp only [Option.getD_some] at e1
    rw [e1]
    have := hx _ (List.getElem_mem h2)
    omega
end Go.Proofs.Ytdhbdkkchobinaa

