/-
  What the last text of this claim leans on, part 2: Rn, Ref1, Rk, Fill, Ref2, Ow.
-/
import Derived.Test.YtbkllhlapdmlfaaQb1
import Derived.Deep.OwnRows
import Derived.Deep.AppendLies
import Derived.Deep.RegionHeld3
import Derived.Deep.RegionLaw
import Derived.Deep.RegionWith
import Derived.Laws.IdiomStrings
import Derived.Laws.MakeOwn
import Derived.Lib.BufferWrite
import Derived.Lib.Hide
import Derived.Lib.Walk
import Derived.WalkKit
import Derived.WalkSmall
namespace Go.Proofs.Ytbkllhlapdmlfaa
open Go.RowKit

def posOf (b : Nat) (w : World) : Nat := match w.cell? ⟨b, 1, none⟩ with | some (.int _ q) => q.toNat | _ => 0
theorem At.posOf {b : Nat} {s : ByteArray} {i : Nat} {w : World} (h : At b s i w) : posOf b w = i := by
  unfold Go.Proofs.Ytbkllhlapdmlfaa.posOf; rw [h.pos]; simp

/-- The number as it is kept: right up to most, and above it whatever is above. -/
structure Cap (most v k : Nat) : Prop where
  eq : v ≤ most → k = v
  gt : most < v → most < k
  le : k ≤ 10 * most + 9

theorem Cap.below {most v k d : Nat} (h : Cap most v k) (hd : d ≤ 9) (hk : k ≤ most) : Cap most (v * 10 + d) (10 * k + d) := by
  have h1 := h.eq
  have h2 := h.gt
  refine ⟨?_, ?_, by omega⟩ <;> omega
theorem Cap.above {most v k d : Nat} (h : Cap most v k) (hk : most < k) : Cap most (v * 10 + d) k := by
  have h1 := h.eq
  have h2 := h.gt
  have h3 := h.le
  refine ⟨?_, ?_, by omega⟩ <;> omega

/-- How the number's reading ends, by the places and what was kept. -/
structure NumEnd (s : ByteArray) (b i0 most : Nat) (w wr : World) (k i : Nat) : Prop where
  hat : At b s i wr
  rd : Rd b w wr
  lo : i0 ≤ i
  hi : i ≤ s.size
  fin : (num s i0).2 = i
  cap : Cap most (num s i0).1 k

theorem ok_cases {s : ByteArray} {b i0 least most : Nat} {w wr : World} {k i : Nat} (h : NumEnd s b i0 most w wr k i) (hok : numOk s i0 least most = true) :
    ¬ i = i0 ∧ (¬ 1 < i - i0 ∨ ¬ bt s i0 = 48) ∧ least ≤ k ∧ k ≤ most ∧ k = (num s i0).1 := by
  have h1 := h.fin
  have h2 := h.cap.eq
  simp [numOk, h1] at hok
  obtain ⟨⟨⟨a, b'⟩, c⟩, d⟩ := hok
  have := h2 d
  exact ⟨a, by omega, by omega, by omega, this⟩
theorem no_cases {s : ByteArray} {b i0 least most : Nat} {w wr : World} {k i : Nat} (h : NumEnd s b i0 most w wr k i) (hok : numOk s i0 least most = false) :
    i = i0 ∨ (1 < i - i0 ∧ bt s i0 = 48) ∨ (¬ i = i0 ∧ (¬ 1 < i - i0 ∨ ¬ bt s i0 = 48) ∧ (k < least ∨ (least ≤ k ∧ most < k))) := by
  have h1 := h.fin
  have h2 := h.cap.eq
  have h3 := h.cap.gt
  by_cases c1 : i = i0
  · exact Or.inl c1
  by_cases c2 : 1 < i - i0 ∧ bt s i0 = 48
  · exact Or.inr (Or.inl c2)
  refine Or.inr (Or.inr ⟨c1, by omega, ?_⟩)
  have hn : (num s i0).1 < least ∨ most < (num s i0).1 := by
    rcases Nat.lt_or_ge (num s i0).1 least with q | q
    · exact Or.inl q
    rcases Nat.lt_or_ge most (num s i0).1 with p | p
    · exact Or.inr p
    simp [numOk, h1, c1] at hok
    omega
  rcases hn with q | q
  · by_cases hm : (num s i0).1 ≤ most
    · have := h2 hm; omega
    · have := h3 (by omega); omega
  · have := h3 q; omega

end Go.Proofs.Ytbkllhlapdmlfaa

namespace Go.Proofs.Ytbkllhlapdmlfaa
open Go.RowKit
set_option linter.unusedVariables false

theorem hide' {p : Prop} (h : p) : Hid p := h

/-- What Number makes of the digits. -/
structure NumRef (s : ByteArray) (i0 : Nat) (N : Int) : Prop where
  ok : ∀ least most : Nat, most < 1000000 → numOk s i0 least most = true → N = ((num s i0).1 : Int) ∧ (least : Int) ≤ N ∧ N ≤ (most : Int)
  no : ∀ least most : Nat, most < 1000000 → numOk s i0 least most = false → N < (least : Int) ∨ (most : Int) < N
  lo : -1 ≤ N
  hi : N ≤ 10000000
  bad : (num s i0).2 = i0 ∨ (1 < (num s i0).2 - i0 ∧ bt s i0 = 48) → N = -1
  good : ¬ ((num s i0).2 = i0 ∨ (1 < (num s i0).2 - i0 ∧ bt s i0 = 48)) → 0 ≤ N

theorem numRef_bad {s : ByteArray} {i0 i : Nat} (hf : (num s i0).2 = i) (hb : i = i0 ∨ (1 < i - i0 ∧ bt s i0 = 48)) : NumRef s i0 (-1) := by
  refine ⟨fun least most hm hok => ?_, fun least most hm hok => by omega, by omega, by omega, fun _ => rfl, fun h => absurd (by rw [hf]; exact hb) h⟩
  simp [numOk, hf] at hok
  omega
theorem numRef_good {s : ByteArray} {i0 i k : Nat} (hf : (num s i0).2 = i) (hb : ¬ (i = i0 ∨ (1 < i - i0 ∧ bt s i0 = 48))) (h1 : (num s i0).1 < 1000000 → k = (num s i0).1) (h2 : 1000000 ≤ (num s i0).1 → 1000000 ≤ k) (h3 : k ≤ 10000000) : NumRef s i0 (k : Int) := by
  refine ⟨fun least most hm hok => ?_, fun least most hm hok => ?_, by omega, by omega, fun h => absurd (by rw [hf] at h; exact h) hb, fun _ => by omega⟩
  · simp [numOk, hf] at hok
    have := h1 (by omega)
    omega
  · by_cases q : (num s i0).1 < 1000000
    · have := h1 q
      by_cases c : (num s i0).1 < least
      · omega
      by_cases d : most < (num s i0).1
      · omega
      simp [numOk, hf] at hok
      omega
    · have := h2 (by omega)
      omega

end Go.Proofs.Ytbkllhlapdmlfaa

namespace Go.Proofs.Ytbkllhlapdmlfaa
open Go.RowKit

/-- A table in memory: a slice that reads as the numbers. -/
def Tab (w : World) (v : Value) (xs : List Int) : Prop :=
  (xs = [] ∧ v = .slice none 0 0) ∨ ∃ g cap, v = .slice (some ⟨g, 0, none⟩) xs.length cap ∧ g < w.heap.size ∧ ∀ k (h : k < xs.length), w.cell? ⟨g, k, none⟩ = some (.int .i64 xs[k])

/-- A slice whose block was made since. -/
def Fresh (w : World) (v : Value) : Prop := ∀ g k c, v = .slice (some ⟨g, 0, none⟩) k c → w.heap.size ≤ g
theorem Fresh.nil (w : World) : Fresh w (.slice none 0 0) := fun _ _ _ h => by injection h with h1; cases h1
theorem Fresh.mk {w : World} {g k c : Nat} (h : w.heap.size ≤ g) : Fresh w (.slice (some ⟨g, 0, none⟩) k c) := fun g' _ _ q => by
  injection q with q1; injection q1 with q2; injection q2 with q3; omega

/-- A rule as a value, its table at v. -/
def Out.val (o : Out) (v : Value) : Value := .agg #[.int .i64 o.kind, .int .i64 o.born, .int .i64 o.stay, .int .i64 o.states, .int .i64 o.radius, v, .string o.turns]

theorem ris_le (s : ByteArray) (i : Nat) (h : i ≤ s.size) : (ris s i).2 ≤ s.size := by
  have H : ∀ f i low acc, i + f = s.size → (risF s f i low acc).2 ≤ s.size := by
    intro f
    induction f with
    | zero => intro i low acc e; simp [risF]; omega
    | succ f ih =>
      intro i low acc e
      unfold risF
      split
      · exact ih _ _ _ (by omega)
      · simp; omega
  exact H _ _ _ _ (by omega)

/-- The cells of a new rule. -/
def zeroCells : Array Value := #[.int .i64 0, .int .i64 0, .int .i64 0, .int .i64 0, .int .i64 0, .slice none 0 0, .string ⟨#[]⟩]

/-- A block that the call made ahead still lies there. -/
theorem Rd.made {b : Nat} {w w' : World} {C : Array Value} {t : TypeId} (h : Rd b (w.alloc (.cells C t)) w') (hb : b < w.heap.size) :
    (∀ j, w'.cell? ⟨w.heap.size, j, none⟩ = C[j]?) ∧ (∀ j, w'.frozen? ⟨w.heap.size, j, none⟩ = false) := by
  refine ⟨fun j => ?_, fun j => ?_⟩
  · rw [h.cell w.heap.size j (by simp) (by omega)]; simp
  · rw [h.frozen w.heap.size j (by simp) (by omega)]; simp

theorem Rd.un {b : Nat} {w w' : World} {O : Obj} (h : Rd b (w.alloc O) w') : Rd b w w' := (Rd.alloc (Rd.refl b w) O).trans h
theorem set7_at {b : Nat} {s : ByteArray} {i : Nat} {w : World} (h : At b s i w) {g : Nat} {v0 v1 v2 v3 v4 v5 v6 : Value} (hg : b ≠ g) :
    At b s i (((((((w.setCell ⟨g, 0, none⟩ v0).setCell ⟨g, 1, none⟩ v1).setCell ⟨g, 2, none⟩ v2).setCell ⟨g, 3, none⟩ v3).setCell ⟨g, 4, none⟩ v4).setCell ⟨g, 5, none⟩ v5).setCell ⟨g, 6, none⟩ v6) :=
  ((((((h.setOther hg v0).setOther hg v1).setOther hg v2).setOther hg v3).setOther hg v4).setOther hg v5).setOther hg v6
theorem set7_rd {b : Nat} {w w' : World} (h : Rd b w w') {g : Nat} {v0 v1 v2 v3 v4 v5 v6 : Value} (hg : w.heap.size ≤ g) :
    Rd b w (((((((w'.setCell ⟨g, 0, none⟩ v0).setCell ⟨g, 1, none⟩ v1).setCell ⟨g, 2, none⟩ v2).setCell ⟨g, 3, none⟩ v3).setCell ⟨g, 4, none⟩ v4).setCell ⟨g, 5, none⟩ v5).setCell ⟨g, 6, none⟩ v6) :=
  ((((((h.setNew hg v0).setNew hg v1).setNew hg v2).setNew hg v3).setNew hg v4).setNew hg v5).setNew hg v6

end Go.Proofs.Ytbkllhlapdmlfaa

namespace Go.Proofs.Ytbkllhlapdmlfaa
open Go.RowKit

theorem hide {p : Prop} (h : p) : Hid p := h
theorem unhide {p : Prop} (h : Hid p) : p := h

/-- At block g a list of n numbers, the first k of which are f's. -/
structure Fill (g n k : Nat) (f : Nat → Int) (w : World) : Prop where
  lt : g < w.heap.size
  cells : ∀ j, j < n → ∃ v, w.cell? ⟨g, j, none⟩ = some v ∧ (j < k → v = .int .i64 (f j))
  fz : ∀ j, w.frozen? ⟨g, j, none⟩ = false

theorem Fill.start (w : World) (n : Nat) (f : Nat → Int) (z : Value) (t : TypeId) : Fill w.heap.size n 0 f (w.alloc (.cells (madeCells #[z] n) t)) := by
  refine ⟨by simp, fun j hj => ⟨(madeCells #[z] n)[j]'(by rw [size_madeCells]; exact hj), ?_, by omega⟩, fun j => by simp⟩
  rw [World.cell?_alloc_at _ _ _ _ rfl]
  exact Array.getElem?_eq_getElem (by rw [size_madeCells]; exact hj)
theorem Fill.step {g n k : Nat} {f : Nat → Int} {w : World} (h : Fill g n k f w) (hk : k < n) : Fill g n (k + 1) f (w.setCell ⟨g, k, none⟩ (.int .i64 (f k))) := by
  refine ⟨by rw [World.size_setCell]; exact h.lt, fun j hj => ?_, fun j => by rw [World.frozen?_setCell]; exact h.fz j⟩
  by_cases e : j = k
  · subst e
    obtain ⟨v, hv, -⟩ := h.cells j hj
    exact ⟨_, World.cell?_setCell_same (w := w) (a := ⟨g, j, none⟩) (v := _) (h := hv), fun _ => rfl⟩
  · obtain ⟨v, hv, hv'⟩ := h.cells j hj
    refine ⟨v, ?_, fun _ => hv' (by omega)⟩
    exact (World.cell?_setCell_other (w := w) (a := ⟨g, k, none⟩) (b := ⟨g, j, none⟩) (v := _) (h := fun q => e (congrArg Addr.off q).symm)).trans hv
theorem Fill.rd {b g n k : Nat} {f : Nat → Int} {w w' : World} (h : Fill g n k f w) (r : Rd b w w') (hb : g ≠ b) : Fill g n k f w' := by
  refine ⟨Nat.lt_of_lt_of_le h.lt r.size, fun j hj => ?_, fun j => ?_⟩
  · obtain ⟨v, hv, hv'⟩ := h.cells j hj
    exact ⟨v, by rw [r.cell g j h.lt hb]; exact hv, hv'⟩
  · rw [r.frozen g j h.lt hb]; exact h.fz j
theorem Fill.other {g n k : Nat} {f : Nat → Int} {w : World} (h : Fill g n k f w) {p : Addr} (hp : g ≠ p.block) (u : Value) : Fill g n k f (w.setCell p u) := by
  have e : (w.setCell p u).heap[g]? = w.heap[g]? := Below.heap_setCell _ _ _ _ hp
  refine ⟨by rw [World.size_setCell]; exact h.lt, fun j hj => ?_, fun j => ?_⟩
  · obtain ⟨v, hv, hv'⟩ := h.cells j hj
    exact ⟨v, (World.cell?_of_block (w := w) (a := ⟨g, j, none⟩) e).trans hv, hv'⟩
  · exact (World.frozen?_of_block (w := w) (a := ⟨g, j, none⟩) e).trans (h.fz j)
theorem Fill.tab {g n cap : Nat} {f : Nat → Int} {w : World} (h : Fill g n n f w) : Tab w (.slice (some ⟨g, 0, none⟩) n cap) ((List.range n).map f) := by
  refine Or.inr ⟨g, cap, by simp, h.lt, fun k hk => ?_⟩
  simp at hk
  obtain ⟨v, hv, hv'⟩ := h.cells k hk
  rw [hv, hv' hk]; simp
theorem Tab.other {w : World} {v : Value} {xs : List Int} (h : Tab w v xs) {p : Addr} (u : Value) (hp : ∀ g c, v = .slice (some ⟨g, 0, none⟩) xs.length c → g ≠ p.block) : Tab (w.setCell p u) v xs := by
  rcases h with h | ⟨g, cap, hv, hg, hc⟩
  · exact Or.inl h
  · have e : (w.setCell p u).heap[g]? = w.heap[g]? := Below.heap_setCell _ _ _ _ (hp g cap hv)
    exact Or.inr ⟨g, cap, hv, by rw [World.size_setCell]; exact hg, fun k hk => (World.cell?_of_block (w := w) (a := ⟨g, k, none⟩) e).trans (hc k hk)⟩

/-- How many windows: the product stops above 4096. -/
def entF (n : Nat) : Nat → Nat → Nat
  | 0, e => e
  | f + 1, e => if e ≤ 4096 then entF n f (e * (n * n)) else e
def entOf (n m : Nat) : Nat := entF n m n

theorem entOf_small (n m : Nat) (hn : 2 ≤ n) (hn' : n ≤ 4) (hm : m ≤ 2) : entOf n m = entries n m := by
  have h1 : n = 2 ∨ n = 3 ∨ n = 4 := by omega
  have h2 : m = 0 ∨ m = 1 ∨ m = 2 := by omega
  rcases h1 with rfl | rfl | rfl <;> rcases h2 with rfl | rfl | rfl <;> decide

theorem entF_stop {n e : Nat} (h : ¬ e ≤ 4096) : ∀ f, entF n f e = e
  | 0 => rfl
  | f + 1 => by simp [entF, h]

set_option maxHeartbeats 800000 in
theorem entries_any (n m : Nat) (N M : Int) (w : World) (hN : N = n) (hM : M = m) (hn : 2 ≤ n) (hn' : n ≤ 4) (hm : m ≤ 4611686018427387904) :
    Calls Try.prog 68 #[.int .i64 N, .int .i64 M] w fun e w' => e = .returned (.int .i64 ((entOf n m : Nat) : Int)) ∧ w' = w := by
  subst hN hM
  have h1 : n = 2 ∨ n = 3 ∨ n = 4 := by omega
  rcases h1 with rfl | rfl | rfl
  all_goals
    go_enter Try.func68, Try.ntmps68
    go_wp2
    go_loop [5, 6] (fun ev iv => ∃ k e : Nat, iv = .int .i64 (k : Int) ∧ ev = .int .i64 (e : Int) ∧ k ≤ m ∧ e ≤ 65536 ∧ entF _ (m - k) e = entOf _ m) (fun _ iv => m - (intOf iv).toNat)
    case atStart => exact ⟨0, _, rfl, rfl, by omega, by omega, rfl⟩
    case round =>
      obtain ⟨k, e, rfl, rfl, hk, he, hent⟩ := hrel
      have HE := hide hent
      clear hent
      by_cases hkm : (k : Int) < (m : Int)
      · by_cases hee : (e : Int) ≤ 4096
        · go_wp2
          have e1 := unhide HE
          rw [show m - k = (m - (k + 1)) + 1 by omega, entF, if_pos (by omega)] at e1
          refine ⟨⟨k + 1, _, by go_num, ?_, by omega, ?_, e1⟩, by simp [intOf]; omega⟩
          · go_num
          · omega
        · go_wp2
          go_ret
          have e1 := unhide HE
          rw [entF_stop (by omega)] at e1
          rw [← e1]
          exact ⟨rfl, rfl⟩
      · go_wp2
        go_ret
        have e1 := unhide HE
        rw [show m - k = 0 by omega, entF] at e1
        rw [← e1]
        exact ⟨rfl, rfl⟩
end Go.Proofs.Ytbkllhlapdmlfaa

namespace Go.Proofs.Ytbkllhlapdmlfaa
open Go.RowKit
set_option linter.unusedVariables false

/-- a to the n, or 5000 above 4096. -/
def powS (a n : Nat) : Nat := if a ^ n ≤ 4096 then a ^ n else 5000

theorem pow_grows {a k n : Nat} (ha : 1 ≤ a) (hk : k ≤ n) (h : 4096 < a ^ k) : powS a n = 5000 := by
  have : a ^ k ≤ a ^ n := Nat.pow_le_pow_right ha hk
  unfold powS
  rw [if_neg (by omega)]

/-- Two lists that read alike are the same. -/
theorem Tab.alloc' {w : World} {v : Value} {xs : List Int} (h : Tab w v xs) (o : Obj) : Tab (w.alloc o) v xs := by
  rcases h with h | ⟨g, cap, hv, hg, hc⟩
  · exact Or.inl h
  · have e : (w.alloc o).heap[g]? = w.heap[g]? := Below.heap_alloc _ _ _ hg
    exact Or.inr ⟨g, cap, hv, by rw [World.size_alloc]; omega, fun k hk => (World.cell?_of_block (w := w) (a := ⟨g, k, none⟩) e).trans (hc k hk)⟩

theorem Tab.parts {w : World} {v : Value} {xs : List Int} (h : Tab w v xs) :
    ∃ a c, v = .slice a xs.length c ∧ ∀ k (h : k < xs.length), ∃ g, a = some ⟨g, 0, none⟩ ∧ w.cell? ⟨g, k, none⟩ = some (.int .i64 xs[k]) := by
  rcases h with ⟨rfl, rfl⟩ | ⟨g, cap, rfl, hg, hc⟩
  · exact ⟨none, 0, rfl, fun k h => absurd h (by simp)⟩
  · exact ⟨_, cap, rfl, fun k h => ⟨g, rfl, hc k h⟩⟩

end Go.Proofs.Ytbkllhlapdmlfaa

namespace Go.Proofs.Ytbkllhlapdmlfaa
open Go.RowKit
set_option linter.unusedVariables false

theorem info_int : (Try.prog.info? 3).map (fun i => (i.zero, i.size, i.bytes)) = some (some (.int .i64 0), 1, 8) := by kernel_rfl
theorem Tab.slice {w : World} {v : Value} {xs : List Int} (h : Tab w v xs) : ∃ a n c, v = .slice a n c := by
  rcases h with ⟨-, h⟩ | ⟨g, cap, h, -, -⟩
  · exact ⟨_, _, _, h⟩
  · exact ⟨_, _, _, h⟩
theorem ownsRow_block {w : World} {base : Nat} {e : TypeId} {v : Value} {n : Nat} {xs : List Value} (h : w.ownsRow base e 1 v n xs) : ∀ k, v.ownBlock = some k → base ≤ k := by
  intro k hk
  rcases h.2 with ⟨hv, -⟩ | ⟨g, cap, cur, hv, hg, -⟩
  · rw [hv] at hk; cases hk
  · rw [hv] at hk
    have : g = k := by simpa [Value.ownBlock] using hk
    omega
theorem ownsRow_slice {w : World} {base : Nat} {e : TypeId} {v : Value} {n : Nat} {xs : List Value} (h : w.ownsRow base e 1 v n xs) : ∃ a m c, v = .slice a m c := by
  rcases h.2 with ⟨hv, -⟩ | ⟨g, cap, cur, hv, -⟩
  · exact ⟨_, _, _, hv⟩
  · exact ⟨_, _, _, hv⟩
theorem ownsRow_tab {w : World} {base : Nat} {e : TypeId} {v : Value} {xs : List Int} (h : w.ownsRow base e 1 v xs.length (xs.map fun x => .int .i64 x)) : Tab w v xs := by
  rcases h.2 with ⟨hv, hn⟩ | ⟨g, cap, cur, hv, hg, hh, hc, hm, hs, ht⟩
  · exact Or.inl ⟨List.eq_nil_of_length_eq_zero hn, hv⟩
  · refine Or.inr ⟨g, cap, hv, ?_, fun k hk => ?_⟩
    · exact (Array.getElem?_eq_some_iff.1 hh).1
    · have h1 : (cur.toList.take (xs.length * 1))[k]? = some (.int .i64 xs[k]) := by
        rw [ht, List.getElem?_map, List.getElem?_eq_getElem hk]; rfl
      rw [List.getElem?_take] at h1
      simp only [World.cell?, hh]
      have : k < xs.length * 1 := by omega
      rw [if_pos this] at h1
      simpa using h1
theorem grownBy_drew {w w' : World} {r : Option Nat} (h : w.drew.grownBy w' r) : w.grownBy w' r := ⟨h.os, h.tape, h.output, h.size, h.block⟩
theorem num_size (s : ByteArray) (i : Nat) (h : i ≤ s.size) : (num s i).2 ≤ s.size := by
  have H : ∀ f i v, i + f = s.size → (numF s f i v).2 ≤ s.size := by
    intro f
    induction f with
    | zero => intro i v e; simp [numF]; omega
    | succ f ih =>
      intro i v e
      unfold numF
      split
      · exact ih _ _ (by omega)
      · simp; omega
  exact H _ _ _ (by omega)
theorem cell_all_new (w : World) (cs : Array Value) (u k : Nat) : (w.alloc (.cells cs u)).drew.cell? ⟨w.heap.size, k, none⟩ = cs[k]? := by
  have h : (w.alloc (.cells cs u)).heap[w.heap.size]? = some (.cells cs u) := by unfold World.alloc; simp
  show (w.alloc (.cells cs u)).cell? _ = _
  simp only [World.cell?, h]
  rfl
theorem cell_new_at (w : World) (cs : Array Value) (u k : Nat) : (w.alloc (.cells cs u)).cell? ⟨w.heap.size, k, none⟩ = cs[k]? := cell_all_new w cs u k
end Go.Proofs.Ytbkllhlapdmlfaa

