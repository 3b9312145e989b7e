/-
  What the last text of this claim leans on, part 7: Ref4, Pr5, Gp1.
-/
import Derived.Test.YtlpdobfjgpedaaaDoorZe2
import Derived.Test.YtlpdobfjgpedaaaDoorZe6
import Derived.Laws.IdiomStrings
import Derived.Laws.BytesArg
namespace Go.Proofs.YtlpdobfjgpedaaaDoor
open Go.RowKit
set_option linter.unusedVariables false

/-- edenref1.Parse in the midst of a table: its result's block, its rule's, its empty rule's; the table grows. -/
structure RefW (w wr : World) (k st ra : Int) (v : Value) (xs : List Int) : Prop where
  below : Below w.heap.size w wr
  size : w.heap.size + 3 ≤ wr.heap.size
  res : Seven wr w.heap.size (.int .i64 0) (.int .i64 0) (.int .i64 0) (.int .i64 0) (.int .i64 0) (.slice none 0 0) (.string ⟨#[]⟩)
  rr : Seven wr (w.heap.size + 1) (.int .i64 k) (.int .i64 0) (.int .i64 0) (.int .i64 st) (.int .i64 ra) v (.string ⟨#[]⟩)
  no : Seven wr (w.heap.size + 1 + 1) (.int .i64 0) (.int .i64 0) (.int .i64 0) (.int .i64 0) (.int .i64 0) (.slice none 0 0) (.string ⟨#[]⟩)
  fz : ∀ b j, w.heap.size ≤ b → b < w.heap.size + 3 → wr.frozen? ⟨b, j, none⟩ = false
  own : wr.ownsRow (w.heap.size + 3) 3 1 v xs.length (xs.map fun x => .int .i64 x)

theorem Seven.block {w w' : World} {g : Nat} {v0 v1 v2 v3 v4 v5 v6 : Value} (h : Seven w g v0 v1 v2 v3 v4 v5 v6) (e : w'.heap[g]? = w.heap[g]?) : Seven w' g v0 v1 v2 v3 v4 v5 v6 := by
  obtain ⟨c0, c1, c2, c3, c4, c5, c6⟩ := h
  exact ⟨(World.cell?_of_block (w := w) (a := ⟨g, 0, none⟩) e).trans c0, (World.cell?_of_block (w := w) (a := ⟨g, 1, none⟩) e).trans c1, (World.cell?_of_block (w := w) (a := ⟨g, 2, none⟩) e).trans c2, (World.cell?_of_block (w := w) (a := ⟨g, 3, none⟩) e).trans c3, (World.cell?_of_block (w := w) (a := ⟨g, 4, none⟩) e).trans c4, (World.cell?_of_block (w := w) (a := ⟨g, 5, none⟩) e).trans c5, (World.cell?_of_block (w := w) (a := ⟨g, 6, none⟩) e).trans c6⟩
theorem Seven.set5 {w : World} {g : Nat} {v0 v1 v2 v3 v4 v5 v6 : Value} (h : Seven w g v0 v1 v2 v3 v4 v5 v6) (u : Value) : Seven (w.setCell ⟨g, 5, none⟩ u) g v0 v1 v2 v3 v4 u v6 := by
  obtain ⟨c0, c1, c2, c3, c4, c5, c6⟩ := h
  constructor <;> simp [go_sem, c0, c1, c2, c3, c4, c5, c6]

theorem RefW.start (w : World) (k st ra : Int) : RefW w (((w.alloc (.cells zeroCells 24)).alloc (.cells #[.int .i64 k, .int .i64 0, .int .i64 0, .int .i64 st, .int .i64 ra, .slice none 0 0, .string ⟨#[]⟩] 24)).alloc (.cells zeroCells 24)) k st ra (.slice none 0 0) [] := by
  refine ⟨?_, by simp, ?_, ?_, ?_, ?_, ⟨by simp, Or.inl ⟨rfl, by simp⟩⟩⟩
  · exact (((Below.refl _ _).alloc (Nat.le_refl _) _).alloc (by simp) _).alloc (by simp; omega) _
  · constructor <;> simp [go_sem, zeroCells]
  · constructor <;> simp [go_sem]
  · constructor <;> simp [go_sem, zeroCells]
  · intro b j h1 h2
    have h3 : b = w.heap.size ∨ b = w.heap.size + 1 ∨ b = w.heap.size + 1 + 1 := by omega
    rcases h3 with rfl | rfl | rfl <;> simp [go_sem]

theorem RefW.push {w wr w' : World} {k st ra : Int} {v v' : Value} {xs : List Int} {x : Int} (h : RefW w wr k st ra v xs)
    (hg : (wr.alloc (.cells #[.int .i64 x] 3)).grownBy w' v.ownBlock) (ho : w'.ownsRow (w.heap.size + 3) 3 1 v' (xs.length + 1) ((xs.map fun x => .int .i64 x) ++ [.int .i64 x])) :
    RefW w (w'.setCell ⟨w.heap.size + 1, 5, none⟩ v') k st ra v' (xs ++ [x]) := by
  have hz := h.size
  have hob := ownsRow_block h.own
  have hb : ∀ b, b < w.heap.size + 3 → w'.heap[b]? = wr.heap[b]? := fun b hb => by
    rw [hg.block b (by rw [World.size_alloc]; omega) (fun e => by have := hob b e.symm; omega)]
    exact Below.heap_alloc _ _ _ (by omega)
  have hsz : wr.heap.size + 1 ≤ w'.heap.size := by have := hg.size; rw [World.size_alloc] at this; exact this
  have B1 : Below w.heap.size w w' := (h.below.alloc (by omega) _).trans ⟨hg.os, hg.tape, hg.output, hg.size, fun b hbb => hg.block b (by rw [World.size_alloc]; omega) (fun e => by have := hob b e.symm; omega)⟩
  refine ⟨B1.setCell (by simp) _, by rw [World.size_setCell]; omega, ?_, ?_, ?_, ?_, ?_⟩
  · exact (h.res.block (hb _ (by omega))).other (by simp) _
  · exact (h.rr.block (hb _ (by omega))).set5 _
  · exact (h.no.block (hb _ (by omega))).other (by simp) _
  · intro b j h1 h2
    rw [World.frozen?_setCell, World.frozen?_of_block (w := wr) (a := ⟨b, j, none⟩) (hb b h2)]
    exact h.fz b j h1 h2
  · have := ownsRow_setCell_below ho (a := ⟨w.heap.size + 1, 5, none⟩) (by simp) v'
    simpa using this

end Go.Proofs.YtlpdobfjgpedaaaDoor

namespace Go.Proofs.YtlpdobfjgpedaaaDoor
open Go.RowKit
set_option linter.unusedVariables false

def bval (b : UInt8) : Value := .int .u8 (b.toNat : Int)

/-- The digits of the bits below k. -/
def dl (n k : Nat) : List UInt8 := ((List.range k).filter fun i => n / 2 ^ i % 2 == 1).map fun i => UInt8.ofNat (48 + i)
theorem dl_succ_yes (n k : Nat) (h : n / 2 ^ k % 2 = 1) : dl n (k + 1) = dl n k ++ [UInt8.ofNat (48 + k)] := by
  unfold dl; rw [List.range_succ, List.filter_append]; simp [h]
theorem dl_succ_no (n k : Nat) (h : ¬ n / 2 ^ k % 2 = 1) : dl n (k + 1) = dl n k := by
  unfold dl; rw [List.range_succ, List.filter_append]; simp [h]
theorem dl_len (n k : Nat) : (dl n k).length ≤ k := by
  unfold dl; simp; exact Nat.le_trans (List.length_filter_le _ _) (by simp)
theorem bval_dig (k : Nat) (h : k ≤ 200) : bval (UInt8.ofNat (48 + k)) = .int .u8 (48 + (k : Int)) := by
  unfold bval
  have : (UInt8.ofNat (48 + k)).toNat = 48 + k := by simp; omega
  rw [this]; simp

theorem and_bit' (n k : Nat) (hn : n ≤ 511) : bits BinOp.and IntKind.i64 ((n : Int) / 2 ^ k) 1 = ((n / 2 ^ k % 2 : Nat) : Int) := by
  rw [show ((n : Int) / 2 ^ k) = ((n / 2 ^ k : Nat) : Int) by simp]
  have hl : n / 2 ^ k ≤ n := Nat.div_le_self _ _
  have := i64_and_nat (n / 2 ^ k) 1 (by omega) (by omega)
  simp only [Nat.and_one_is_mod] at this
  exact this

/-- Bytes of the call's own, gathered so far. -/
structure Row8 (w wr : World) (v : Value) (l : List UInt8) : Prop where
  below : Below w.heap.size w wr
  own : wr.ownsRow w.heap.size 5 1 v l.length (l.map bval)
theorem Row8.start (w : World) : Row8 w w (.slice none 0 0) [] := ⟨Below.refl _ _, by simp, Or.inl ⟨rfl, by simp⟩⟩
theorem Row8.push {w wr w' : World} {v v' : Value} {l : List UInt8} {b : UInt8} {x : Value} (h : Row8 w wr v l) (hx : bval b = x)
    (hg : (wr.alloc (.cells #[x] 5)).grownBy w' v.ownBlock) (ho : w'.ownsRow w.heap.size 5 1 v' (l.length + 1) (l.map bval ++ [x])) : Row8 w w' v' (l ++ [b]) := by
  have hz := h.below.size
  have hob := ownsRow_block h.own
  refine ⟨(h.below.alloc hz _).trans ⟨hg.os, hg.tape, hg.output, hg.size, fun k hk => hg.block k (by rw [World.size_alloc]; omega) (fun e => by have := hob k e.symm; omega)⟩, ?_⟩
  simpa [hx] using ho

theorem and_pow (n m k : Nat) (hn : n ≤ 511) (hm : m ≤ 512) (h : m = 2 ^ k) : ((bits BinOp.and IntKind.i64 (n : Int) (m : Int)) != 0) = true ↔ n / 2 ^ k % 2 = 1 := by
  rw [i64_and_nat n m (by omega) (by omega), bne_iff_ne, h]
  have ht : n.testBit k = decide (n / 2 ^ k % 2 = 1) := Nat.testBit_eq_decide_div_mod_eq
  constructor
  · intro hne
    cases q : n.testBit k with
    | true => rw [q] at ht; simpa using ht.symm
    | false =>
      exfalso
      apply hne
      have : n &&& 2 ^ k = 0 := by
        apply Nat.eq_of_testBit_eq
        intro i
        rw [Nat.testBit_and, Nat.testBit_two_pow]
        by_cases e : k = i
        · subst e; simp [q]
        · simp [e]
      rw [this]; rfl
  · intro hq he
    have h0 : n &&& 2 ^ k = 0 := by exact_mod_cast he
    have h1 : (n &&& 2 ^ k).testBit k = true := by
      rw [Nat.testBit_and, Nat.testBit_two_pow, ht]; simp [hq]
    rw [h0] at h1
    simp at h1

end Go.Proofs.YtlpdobfjgpedaaaDoor

namespace Go.Proofs.YtlpdobfjgpedaaaDoor
open Go.RowKit
set_option linter.unusedVariables false

/-- A bit of a number. -/
def bitN (n i : Nat) : Nat := n / 2 ^ i % 2

set_option maxRecDepth 100000 in
set_option maxHeartbeats 3200000 in
theorem refBit_any (n i : Nat) (w : World) (hn : n ≤ 511) (hi : i ≤ 9) :
    Calls Tryd.prog 69 #[.int .i64 (n : Int), .int .i64 (i : Int)] w fun e w' => e = .returned (.int .i64 ((bitN n i : Nat) : Int)) ∧ w' = w := by
  obtain ⟨r, hr⟩ : ∃ r, bitN n i = r := ⟨_, rfl⟩
  have HR := hide' hr
  rw [hr]
  clear hr
  go_enter Tryd.func69, Tryd.ntmps69
  go_wp2
  go_loopw [0, 5] (fun nv kv wr => ∃ k m : Nat, kv = .int .i64 (k : Int) ∧ nv = .int .i64 (m : Int) ∧ k ≤ i ∧ m ≤ 511 ∧ wr = w ∧ Hid (m = n / 2 ^ k)) (fun _ kv _ => i - (intOf kv).toNat)
  case atStart => exact ⟨0, n, rfl, rfl, by omega, hn, rfl, hide' (by simp)⟩
  case round =>
    obtain ⟨k, m, rfl, rfl, hk, hm, rfl, HM⟩ := hrel
    by_cases d : (k : Int) < (i : Int)
    · obtain ⟨m2, h2⟩ : ∃ m2, m / 2 = m2 := ⟨_, rfl⟩
      have e1 : (m : Int).tdiv 2 = (m2 : Int) := by rw [Int.tdiv_eq_ediv_of_nonneg (by omega), ← h2]; simp
      have N2 := hide' (show m2 = n / 2 ^ (k + 1) by rw [← h2, HM.out, Nat.pow_succ, Nat.div_div_eq_div_mul])
      have m2l : m2 ≤ 511 := by omega
      clear h2
      go_wp2
      exact ⟨⟨k + 1, m2, by go_num, rfl, by omega, m2l, by first | trivial | rfl, N2⟩, by simp [intOf]; omega⟩
    · have ki : k = i := by omega
      subst ki
      have e1 : (m : Int).tmod 2 = (r : Int) := by rw [Int.tmod_eq_emod_of_nonneg (by omega), ← HR.out, bitN, ← HM.out]; simp
      go_wp2
      go_ret
      exact ⟨rfl, by first | trivial | rfl⟩

/-- What becomes of a cell that has so many neighbours. -/
def becN (born stay : Nat) (c : Int) (n : Nat) : Nat := if c = 1 then bitN stay n else bitN born n
set_option maxRecDepth 100000 in
set_option maxHeartbeats 3200000 in
theorem refBecomes_any (k c st ra : Int) (born stay : Nat) (ta : Option Addr) (tn tc : Nat) (s : ByteArray) (n : Nat) (w : World) (hb : born ≤ 511) (hs : stay ≤ 511) (hn : n ≤ 9) :
    Calls Tryd.prog 49 #[.agg #[.int .i64 k, .int .i64 (born : Int), .int .i64 (stay : Int), .int .i64 st, .int .i64 ra, .slice ta tn tc, .string s], .int .i64 c, .int .i64 (n : Int)] w fun e w' => e = .returned (.int .i64 ((becN born stay c n : Nat) : Int)) ∧ Below w.heap.size w w' := by
  obtain ⟨w1, hw1⟩ : ∃ w1, w.alloc (.cells #[.int .i64 k, .int .i64 (born : Int), .int .i64 (stay : Int), .int .i64 st, .int .i64 ra, .slice ta tn tc, .string s] 24) = w1 := ⟨_, rfl⟩
  have BB := hide' (show Below w.heap.size w w1 by rw [← hw1]; exact (Below.refl _ _).alloc (Nat.le_refl _) _)
  have x1 : w1.cell? ⟨w.heap.size, 1, none⟩ = some (.int .i64 (born : Int)) := by rw [← hw1, World.cell?_alloc_at _ _ _ _ rfl]; rfl
  have x2 : w1.cell? ⟨w.heap.size, 2, none⟩ = some (.int .i64 (stay : Int)) := by rw [← hw1, World.cell?_alloc_at _ _ _ _ rfl]; rfl
  obtain ⟨r, hr⟩ : ∃ r, becN born stay c n = r := ⟨_, rfl⟩
  rw [hr]
  by_cases d : c = 1
  · have d1 : (c == 1) = true := by simp [d]
    have HR := hide' (show bitN stay n = r by rw [← hr, becN, if_pos d])
    clear hr d
    go_enter Tryd.func49, Tryd.ntmps49
    go_wp2_with fail
    refine (refBit_any stay n _ hs hn).mono ?_
    rw [HR.out]
    rintro e w2 ⟨rfl, rfl⟩
    go_wp2
    go_ret
    exact ⟨rfl, BB.out⟩
  · have d1 : (c == 1) = false := by simp [d]
    have HR := hide' (show bitN born n = r by rw [← hr, becN, if_neg d])
    clear hr d
    go_enter Tryd.func49, Tryd.ntmps49
    go_wp2_with fail
    refine (refBit_any born n _ hb hn).mono ?_
    rw [HR.out]
    rintro e w2 ⟨rfl, rfl⟩
    go_wp2
    go_ret
    exact ⟨rfl, BB.out⟩
set_option maxRecDepth 100000 in
set_option maxHeartbeats 3200000 in
theorem becomes_any (k c st ra : Int) (born stay : Nat) (ta : Option Addr) (tn tc : Nat) (s : ByteArray) (n : Nat) (w : World) (hb : born ≤ 511) (hs : stay ≤ 511) (hn : n ≤ 9) :
    Calls Tryd.prog 29 #[.agg #[.int .i64 k, .int .i64 (born : Int), .int .i64 (stay : Int), .int .i64 st, .int .i64 ra, .slice ta tn tc, .string s], .int .i64 c, .int .i64 (n : Int)] w fun e w' => e = .returned (.int .i64 ((becN born stay c n : Nat) : Int)) ∧ Below w.heap.size w w' := by
  obtain ⟨w1, hw1⟩ : ∃ w1, w.alloc (.cells #[.int .i64 k, .int .i64 (born : Int), .int .i64 (stay : Int), .int .i64 st, .int .i64 ra, .slice ta tn tc, .string s] 24) = w1 := ⟨_, rfl⟩
  have BB := hide' (show Below w.heap.size w w1 by rw [← hw1]; exact (Below.refl _ _).alloc (Nat.le_refl _) _)
  have x1 : w1.cell? ⟨w.heap.size, 1, none⟩ = some (.int .i64 (born : Int)) := by rw [← hw1, World.cell?_alloc_at _ _ _ _ rfl]; rfl
  have x2 : w1.cell? ⟨w.heap.size, 2, none⟩ = some (.int .i64 (stay : Int)) := by rw [← hw1, World.cell?_alloc_at _ _ _ _ rfl]; rfl
  by_cases d : c = 1
  · have d1 : (c == 1) = true := by simp [d]
    have e1 := and_bit' stay n hs
    have HR := hide' (show becN born stay c n = stay / 2 ^ n % 2 by rw [becN, if_pos d]; rfl)
    rw [HR.out]
    clear d
    go_enter Tryd.func29, Tryd.ntmps29
    go_wp2
    go_ret
    exact ⟨by first | rfl | (show Ending.returned (Value.int .i64 (bits BinOp.and IntKind.i64 ((stay : Int) / 2 ^ n) 1)) = _; rw [e1]), BB.out⟩
  · have d1 : (c == 1) = false := by simp [d]
    have e1 := and_bit' born n hb
    have HR := hide' (show becN born stay c n = born / 2 ^ n % 2 by rw [becN, if_neg d]; rfl)
    rw [HR.out]
    clear d
    go_enter Tryd.func29, Tryd.ntmps29
    go_wp2
    go_ret
    exact ⟨by first | rfl | (show Ending.returned (Value.int .i64 (bits BinOp.and IntKind.i64 ((born : Int) / 2 ^ n) 1)) = _; rw [e1]), BB.out⟩
end Go.Proofs.YtlpdobfjgpedaaaDoor

